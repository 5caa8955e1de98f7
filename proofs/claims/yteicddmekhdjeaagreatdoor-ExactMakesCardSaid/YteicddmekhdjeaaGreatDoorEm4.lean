/- Parts of the proof, one after the other: RefDiv. -/
import Derived.Test.YteicddmekhdjeaaGreatDoorEm3
/- cracknelref01.DivMod: the quotient, rounded down, and the rest. -/
namespace Go.Proofs.YteicddmekhdjeaaGreatDoor
open Go.RowKit Go.Sort

theorem low_of {b low s : Nat} (h1 : b * low ≤ s) (h2 : s < b * (low + 1)) : s / b = low ∧ low * b + s % b = s ∧ s % b < b ∧ s - b * low = s % b := by
  have hb : 0 < b := by
    rcases Nat.eq_zero_or_pos b with e | e
    · subst e; simp at h2
    · exact e
  have e : s / b = low := by
    apply Nat.le_antisymm
    · exact Nat.lt_succ_iff.1 ((Nat.div_lt_iff_lt_mul hb).2 (by rw [Nat.mul_comm]; exact h2))
    · exact (Nat.le_div_iff_mul_le hb).2 (by rw [Nat.mul_comm]; exact h1)
  have h3 := Nat.div_add_mod s b
  have h4 := Nat.mod_lt s hb
  rw [e] at h3
  refine ⟨e, by rw [Nat.mul_comm]; exact h3, h4, by omega⟩
theorem ediv_of {x y : Int} {q r : Nat} (hy : 0 < y) (h : q * y.natAbs + r = x.natAbs) (hr : r < y.natAbs) :
    (0 ≤ x → x / y = (q : Int) ∧ x % y = (r : Int)) ∧ (x < 0 → r = 0 → x / y = -(q : Int) ∧ x % y = 0) ∧ (x < 0 → r ≠ 0 → x / y = -(q : Int) - 1 ∧ x % y = y - (r : Int)) := by
  have hY : ((y.natAbs : Nat) : Int) = y := by omega
  have hE : (q : Int) * y + (r : Int) = ((x.natAbs : Nat) : Int) := by rw [← h, ← hY]; simp
  have hR : (r : Int) < y := by omega
  have e1 : y * (q : Int) = (q : Int) * y := Int.mul_comm _ _
  refine ⟨fun hx => ?_, fun hx h0 => ?_, fun hx h0 => ?_⟩
  · exact (Int.ediv_emod_unique hy).2 ⟨by rw [e1]; omega, by omega, hR⟩
  · refine (Int.ediv_emod_unique hy).2 ⟨?_, by omega, hy⟩
    rw [Int.mul_neg, e1]; omega
  · refine (Int.ediv_emod_unique hy).2 ⟨?_, by omega, by omega⟩
    have e2 : y * (-(q : Int) - 1) = -((q : Int) * y) - y := by grind
    rw [e2]; omega
theorem dm_step {a Q : List Nat} {j l r t Y : Nat} (hQ : j < Q.length) (ha : j < a.length) (h : val10 (Q.drop (j + 1)) * Y + r = val10 (a.drop (j + 1))) (hs : l * Y + t = a.getD j 0 + 10000 * r) : val10 ((Q.set j l).drop j) * Y + t = val10 (a.drop j) := by
  have e1 : (Q.set j l).drop j = l :: Q.drop (j + 1) := by
    rw [List.drop_eq_getElem_cons (by rw [List.length_set]; exact hQ), List.getElem_set_self]
    congr 1
    rw [List.drop_set_of_lt (by omega)]
  have e2 : a.drop j = a.getD j 0 :: a.drop (j + 1) := by
    rw [List.drop_eq_getElem_cons ha, List.getD_eq_getElem?_getD, List.getElem?_eq_getElem ha]; rfl
  rw [e1, e2]
  show (l + 10000 * val10 (Q.drop (j + 1))) * Y + t = a.getD j 0 + 10000 * val10 (a.drop (j + 1))
  have e3 : (l + 10000 * val10 (Q.drop (j + 1))) * Y = l * Y + 10000 * (val10 (Q.drop (j + 1)) * Y) := by grind
  rw [e3]
  omega

theorem sizesN_any (x y : Nat) (A A' : Option Addr) (n m c c' : Nat) (V : World) (hn : (digs x).length = n) (hm : (digs y).length = m) (hl : n ≤ 50000) (hl' : m ≤ 50000) (hx : DigAt V A (digs x)) (hy : DigAt V A' (digs y)) :
    Calls Tryz.prog 68 #[.slice A n c, .slice A' m c'] V fun e w' => e = .returned (.int .i64 (cmpDN x y)) ∧ Below V.heap.size V w' := by
  have h := sizesZ_any A n c A' m c' (digs x) (digs y) V hn hm hl hl' hx hy (digs_canon _) (digs_canon _)
  rw [digs_val, digs_val] at h
  exact h
def RetLN (k M : Nat) (V : World) (e : Ending) (w' : World) : Prop := ∃ A n c, ∃ ds : List Nat, e = .returned (.slice A n c) ∧ Digs ds ∧ val10 ds = k ∧ ds.length = n ∧ n ≤ c ∧ n ≤ M ∧ DigAt w' A ds ∧ Below V.heap.size V w'
theorem lessN_any (x y : Nat) (A A' : Option Addr) (n m c c' : Nat) (V : World) (hn : (digs x).length = n) (hm : (digs y).length = m) (hl : n ≤ 50000) (hl' : m ≤ 50000) (hx : DigAt V A (digs x)) (hy : DigAt V A' (digs y)) (hle : y ≤ x) :
    Calls Tryz.prog 70 #[.slice A n c, .slice A' m c'] V (RetLN (x - y) n V) :=
  (less_of (digs_canon x).1 (digs_canon y).1 (by
    apply Classical.byContradiction
    intro h
    have := canon_len (digs_canon x) (digs_canon y) (by omega)
    rw [digs_val, digs_val] at this
    omega) (by rw [digs_val, digs_val]; exact hle) (less_any A n c A' m c' (digs x) (digs y) V hn hm hl hl' hx hy (digs_canon x).1 (digs_canon y).1)).mono fun e w' ⟨A1, c1, ds, he, h1, h2, h3, h4, h5, h6⟩ =>
    ⟨A1, _, c1, ds, he, h1, by rw [h2, digs_val, digs_val], rfl, h4, by rw [← hn]; exact h3, h5, h6⟩
/-- A natural in memory of its own, by value. -/
def RetZF (s : Bool) (k : Nat) (V : World) (e : Ending) (w' : World) : Prop := ∃ A n c, e = .returned (.agg #[.bool s, .slice A n c]) ∧ (digs k).length = n ∧ n ≤ c ∧ DigAt w' A (digs k) ∧ (∀ a, A = some a → V.heap.size ≤ a.block) ∧ Below V.heap.size V w'
theorem leanF_any (k : Nat) (s : Bool) (A : Option Addr) (n c : Nat) (ds : List Nat) (V : World) (hv : val10 ds = k) (hD : Digs ds) (hn : ds.length = n) (hc : n ≤ c) (hl : n ≤ 50000) (hx : DigAt V A ds) :
    Calls Tryz.prog 67 #[.agg #[.bool s, .slice A n c]] V (RetZF (s && decide (k ≠ 0)) k V) :=
  (lean_own s A n c ds V hn hc hl hx).mono fun e w' ⟨A1, c1, he, h1, h2, h3, h4⟩ => by
    rw [trim_digs hD, hv] at he h1 h2
    have e2 : decide (0 < (digs k).length) = decide (k ≠ 0) := by
      apply decide_eq_decide.2
      rw [List.length_pos_iff]
      exact not_congr digs_nil
    rw [e2] at he
    exact ⟨A1, _, c1, he, rfl, h1, h2, h3, h4⟩
theorem DigOwn.one (w : World) (x : Nat) : DigOwn (w.alloc (.cells #[.int .i64 (x : Int)] 3)) w.heap.size (.slice (some ⟨w.heap.size, 0, none⟩) 1 1) [x] := by
  unfold DigOwn World.ownsRow
  exact ⟨rfl, .inr ⟨w.heap.size, 1, #[.int .i64 (x : Int)], rfl, Nat.le_refl _, heap_alloc_new _ _, Nat.le_refl _, by simp [maxLen], rfl, rfl⟩⟩

structure DvO (w w' : World) (g : Nat) (s : Bool) (v u : Value) : Prop where
  A : ZBox w' g s v
  B : ZBox w' (g + 1) false u
  R : ∃ r B k d, ZBox w' (g + 1 + 1) r (.slice B k d)
  T : ∃ r B k d, ZBox w' (g + 1 + 1 + 1) r (.slice B k d)
  bel : Below g w w'
section
variable {w w1 w2 : World} {g n c m c' : Nat} {s : Bool} {A A' : Option Addr} {v u : Value}
theorem DvO.upto (h : DvO w w1 g s v u) (hb : Below (g + 1 + 1 + 1 + 1) w1 w2) : DvO w w2 g s v u := by
  obtain ⟨r, B, k, d, hr⟩ := h.R
  obtain ⟨r', B', k', d', hr'⟩ := h.T
  exact ⟨h.A.below hb (by omega), h.B.below hb (by omega), ⟨r, B, k, d, hr.below hb (by omega)⟩, ⟨r', B', k', d', hr'.below hb (by omega)⟩, h.bel.trans (hb.mono (by omega))⟩
theorem DvO.held (h : DvO w w1 g s (.slice A n c) (.slice A' m c')) : w1.cell? ⟨g, 0, none⟩ = some (.bool s) ∧ w1.cell? ⟨g, 1, none⟩ = some (.slice A n c) ∧ w1.cell? ⟨g + 1, 0, none⟩ = some (.bool false) ∧ w1.cell? ⟨g + 1, 1, none⟩ = some (.slice A' m c') := ⟨h.A.cells.1, h.A.cells.2, h.B.cells.1, h.B.cells.2⟩
end
theorem DvO.new {w : World} {g n c m c' : Nat} {s : Bool} {A A' : Option Addr} (hg : w.heap.size = g) : DvO w ((((w.alloc (.cells #[.bool s, .slice A n c] 30)).alloc (.cells #[.bool false, .slice A' m c'] 30)).alloc (.cells #[.bool false, .slice none 0 0] 30)).alloc (.cells #[.bool false, .slice none 0 0] 30)) g s (.slice A n c) (.slice A' m c') := by
  have h0 := OpenZ.new (w := w) (n := n) (c := c) (m := m) (c' := c') (s := s) (t := false) (A := A) (A' := A') hg
  generalize hw : ((w.alloc (.cells #[.bool s, .slice A n c] 30)).alloc (.cells #[.bool false, .slice A' m c'] 30)).alloc (.cells #[.bool false, .slice none 0 0] 30) = w1 at *
  have hs : w1.heap.size = g + 1 + 1 + 1 := by rw [← hw]; simp [hg]
  obtain ⟨r, B, k, d, hr⟩ := h0.R
  refine ⟨h0.A.alloc _, h0.B.alloc _, ⟨r, B, k, d, hr.alloc _⟩, ⟨false, none, 0, 0, ?_⟩, h0.bel.alloc (by omega) _⟩
  have h := ZBox.new w1 false (.slice none 0 0)
  rw [hs] at h
  exact h

/-- A number, with all parts of its value named. -/
def RetV (z : Int) (V : World) (e : Ending) (w' : World) : Prop := ∃ b A n c, e = .returned (.agg #[.bool b, .slice A n c]) ∧ decide (z < 0) = b ∧ (digs z.natAbs).length = n ∧ n ≤ c ∧ DigAt w' A (digs z.natAbs) ∧ Below V.heap.size V w'
theorem retV_of {z : Int} {V : World} {e : Ending} {w' : World} (h : RetZ z V e w') : RetV z V e w' := by
  obtain ⟨A, c, he, hk, hd, hb⟩ := h
  exact ⟨_, A, _, c, he, rfl, rfl, hk, hd, hb⟩
theorem zat_of {z : Int} {w : World} {b : Bool} {A : Option Addr} {n c : Nat} (hb : decide (z < 0) = b) (hn : (digs z.natAbs).length = n) (hc : n ≤ c) (h : DigAt w A (digs z.natAbs)) : ZAt w (.agg #[.bool b, .slice A n c]) z := ⟨A, c, by rw [hb, hn], by rw [hn]; exact hc, h⟩
theorem subV_any (x y : Int) (v u : Value) (w : World) (hx : ZAt w v x) (hy : ZAt w u y) (hlx : (digs x.natAbs).length ≤ 40000) (hly : (digs y.natAbs).length ≤ 40000) : Calls Tryz.prog 71 #[v, u] w (RetV (x - y) w) := (sub_any x y v u w hx hy hlx hly).mono fun _ _ h => retV_of h
structure Dv2 (w w' : World) (g P m c' m2 k2 m3 k3 : Nat) (A' A2 A3 : Option Addr) (sq : Bool) (a2 a3 : List Nat) : Prop where
  B : ZBox w' (g + 1) false (.slice A' m c')
  R : ∃ r B k d, ZBox w' (g + 1 + 1) r (.slice B k d)
  T : ∃ r B k d, ZBox w' (g + 1 + 1 + 1) r (.slice B k d)
  P1 : ZBox w' P sq (.slice A2 m2 k2)
  P2 : ZBox w' (P + 1) false (.slice A3 m3 k3)
  D2 : DigAt w' A2 a2
  D3 : DigAt w' A3 a3
  hP : g + 1 + 1 + 1 < P
  bel : Below g w w'
section
variable {w w1 w2 : World} {g P m c' m2 k2 m3 k3 : Nat} {A' A2 A3 : Option Addr} {sq : Bool} {a2 a3 : List Nat}
theorem Dv2.below (h : Dv2 w w1 g P m c' m2 k2 m3 k3 A' A2 A3 sq a2 a3) (hb : Below w1.heap.size w1 w2) : Dv2 w w2 g P m c' m2 k2 m3 k3 A' A2 A3 sq a2 a3 := by
  obtain ⟨r, B, k, d, hr⟩ := h.R
  obtain ⟨r', B', k', d', hr'⟩ := h.T
  have h1 := h.P1.lt
  have h2 := h.hP
  exact ⟨h.B.below hb (by omega), ⟨r, B, k, d, hr.below hb (by omega)⟩, ⟨r', B', k', d', hr'.below hb (by omega)⟩, h.P1.below hb h1, h.P2.below hb h.P2.lt, h.D2.below hb, h.D3.below hb, h2, h.bel.trans (hb.mono (by omega))⟩
theorem Dv2.drew (h : Dv2 w w1 g P m c' m2 k2 m3 k3 A' A2 A3 sq a2 a3) : Dv2 w w1.drew g P m c' m2 k2 m3 k3 A' A2 A3 sq a2 a3 := ⟨h.B, h.R, h.T, h.P1, h.P2, h.D2, h.D3, h.hP, h.bel.drew⟩
theorem Dv2.putR (h : Dv2 w w1 g P m c' m2 k2 m3 k3 A' A2 A3 sq a2 a3) (q : Bool) (B : Option Addr) (k d : Nat) : Dv2 w ((w1.setCell ⟨g + 1 + 1, 0, none⟩ (.bool q)).setCell ⟨g + 1 + 1, 1, none⟩ (.slice B k d)) g P m c' m2 k2 m3 k3 A' A2 A3 sq a2 a3 := by
  obtain ⟨r, B', k', d', hr⟩ := h.R
  obtain ⟨r2, B2, k2, d2, hr2⟩ := h.T
  have hp := h.hP
  exact ⟨(h.B.far (by show g + 1 ≠ g + 1 + 1; omega) _).far (by show g + 1 ≠ g + 1 + 1; omega) _, ⟨q, B, k, d, (hr.put0 q).put1 _⟩, ⟨r2, B2, k2, d2, (hr2.far (by show g + 1 + 1 + 1 ≠ g + 1 + 1; omega) _).far (by show g + 1 + 1 + 1 ≠ g + 1 + 1; omega) _⟩, (h.P1.far (by show P ≠ g + 1 + 1; omega) _).far (by show P ≠ g + 1 + 1; omega) _, (h.P2.far (by show P + 1 ≠ g + 1 + 1; omega) _).far (by show P + 1 ≠ g + 1 + 1; omega) _,
    (h.D2.box hr (p := ⟨g + 1 + 1, 0, none⟩) rfl _).box (hr.put0 q) (p := ⟨g + 1 + 1, 1, none⟩) rfl _, (h.D3.box hr (p := ⟨g + 1 + 1, 0, none⟩) rfl _).box (hr.put0 q) (p := ⟨g + 1 + 1, 1, none⟩) rfl _, hp, (h.bel.setCell (by show g ≤ g + 1 + 1; omega) _).setCell (by show g ≤ g + 1 + 1; omega) _⟩
theorem Dv2.putT (h : Dv2 w w1 g P m c' m2 k2 m3 k3 A' A2 A3 sq a2 a3) (q : Bool) (B : Option Addr) (k d : Nat) : Dv2 w ((w1.setCell ⟨g + 1 + 1 + 1, 0, none⟩ (.bool q)).setCell ⟨g + 1 + 1 + 1, 1, none⟩ (.slice B k d)) g P m c' m2 k2 m3 k3 A' A2 A3 sq a2 a3 := by
  obtain ⟨r, B', k', d', hr⟩ := h.T
  obtain ⟨r2, B2, k2, d2, hr2⟩ := h.R
  have hp := h.hP
  exact ⟨(h.B.far (by show g + 1 ≠ g + 1 + 1 + 1; omega) _).far (by show g + 1 ≠ g + 1 + 1 + 1; omega) _, ⟨r2, B2, k2, d2, (hr2.far (by show g + 1 + 1 ≠ g + 1 + 1 + 1; omega) _).far (by show g + 1 + 1 ≠ g + 1 + 1 + 1; omega) _⟩, ⟨q, B, k, d, (hr.put0 q).put1 _⟩, (h.P1.far (by show P ≠ g + 1 + 1 + 1; omega) _).far (by show P ≠ g + 1 + 1 + 1; omega) _, (h.P2.far (by show P + 1 ≠ g + 1 + 1 + 1; omega) _).far (by show P + 1 ≠ g + 1 + 1 + 1; omega) _,
    (h.D2.box hr (p := ⟨g + 1 + 1 + 1, 0, none⟩) rfl _).box (hr.put0 q) (p := ⟨g + 1 + 1 + 1, 1, none⟩) rfl _, (h.D3.box hr (p := ⟨g + 1 + 1 + 1, 0, none⟩) rfl _).box (hr.put0 q) (p := ⟨g + 1 + 1 + 1, 1, none⟩) rfl _, hp, (h.bel.setCell (by show g ≤ g + 1 + 1 + 1; omega) _).setCell (by show g ≤ g + 1 + 1 + 1; omega) _⟩
theorem Dv2.digR (h : Dv2 w w1 g P m c' m2 k2 m3 k3 A' A2 A3 sq a2 a3) {A : Option Addr} {xs : List Nat} (ha : DigAt w1 A xs) (q : Bool) (B : Option Addr) (k d : Nat) : DigAt ((w1.setCell ⟨g + 1 + 1, 0, none⟩ (.bool q)).setCell ⟨g + 1 + 1, 1, none⟩ (.slice B k d)) A xs := by
  obtain ⟨r, B', k', d', hr⟩ := h.R
  exact (ha.box hr (p := ⟨g + 1 + 1, 0, none⟩) rfl _).box (hr.put0 q) (p := ⟨g + 1 + 1, 1, none⟩) rfl _
theorem Dv2.digT (h : Dv2 w w1 g P m c' m2 k2 m3 k3 A' A2 A3 sq a2 a3) {A : Option Addr} {xs : List Nat} (ha : DigAt w1 A xs) (q : Bool) (B : Option Addr) (k d : Nat) : DigAt ((w1.setCell ⟨g + 1 + 1 + 1, 0, none⟩ (.bool q)).setCell ⟨g + 1 + 1 + 1, 1, none⟩ (.slice B k d)) A xs := by
  obtain ⟨r, B', k', d', hr⟩ := h.T
  exact (ha.box hr (p := ⟨g + 1 + 1 + 1, 0, none⟩) rfl _).box (hr.put0 q) (p := ⟨g + 1 + 1 + 1, 1, none⟩) rfl _
/-- What is loaded, and that the results' cells may be written. -/
abbrev DvS (w : World) (g P m c' m2 k2 m3 k3 : Nat) (A' A2 A3 : Option Addr) (sq : Bool) (a2 a3 : List Nat) (w1 : World) : Prop :=
  w1.cell? ⟨g + 1, 0, none⟩ = some (.bool false) ∧ w1.cell? ⟨g + 1, 1, none⟩ = some (.slice A' m c') ∧ w1.cell? ⟨P, 0, none⟩ = some (.bool sq) ∧ w1.cell? ⟨P, 1, none⟩ = some (.slice A2 m2 k2) ∧ w1.cell? ⟨P + 1, 0, none⟩ = some (.bool false) ∧ w1.cell? ⟨P + 1, 1, none⟩ = some (.slice A3 m3 k3) ∧ Dv2 w w1 g P m c' m2 k2 m3 k3 A' A2 A3 sq a2 a3
theorem Dv2.all (h : Dv2 w w1 g P m c' m2 k2 m3 k3 A' A2 A3 sq a2 a3) : DvS w g P m c' m2 k2 m3 k3 A' A2 A3 sq a2 a3 w1 := ⟨h.B.cells.1, h.B.cells.2, h.P1.cells.1, h.P1.cells.2, h.P2.cells.1, h.P2.cells.2, h⟩
theorem DvS.dv (h : DvS w g P m c' m2 k2 m3 k3 A' A2 A3 sq a2 a3 w1) : Dv2 w w1 g P m c' m2 k2 m3 k3 A' A2 A3 sq a2 a3 := h.2.2.2.2.2.2
theorem Dv2.res (h : Dv2 w w1 g P m c' m2 k2 m3 k3 A' A2 A3 sq a2 a3) : (∃ r, w1.cell? ⟨g + 1 + 1, 0, none⟩ = some (.bool r)) ∧ (∃ x, w1.cell? ⟨g + 1 + 1, 1, none⟩ = some x) ∧ w1.frozen? ⟨g + 1 + 1, 0, none⟩ = false ∧ w1.frozen? ⟨g + 1 + 1, 1, none⟩ = false ∧ (∃ r, w1.cell? ⟨g + 1 + 1 + 1, 0, none⟩ = some (.bool r)) ∧ (∃ x, w1.cell? ⟨g + 1 + 1 + 1, 1, none⟩ = some x) ∧ w1.frozen? ⟨g + 1 + 1 + 1, 0, none⟩ = false ∧ w1.frozen? ⟨g + 1 + 1 + 1, 1, none⟩ = false :=
  let ⟨r, _, _, _, hr⟩ := h.R
  let ⟨r', _, _, _, hr'⟩ := h.T
  ⟨⟨r, hr.cells.1⟩, ⟨_, hr.cells.2⟩, hr.frozen 0, hr.frozen 1, ⟨r', hr'.cells.1⟩, ⟨_, hr'.cells.2⟩, hr'.frozen 0, hr'.frozen 1⟩
/-- Both stores. -/
theorem Dv2.ends (h : Dv2 w w1 g P m c' m2 k2 m3 k3 A' A2 A3 sq a2 a3) (q q' : Bool) (B B' : Option Addr) (k d k' d' : Nat) {xs ys : List Nat} (hx : DigAt w1 B xs) (hy : DigAt w1 B' ys) :
    ((((w1.setCell ⟨g + 1 + 1, 0, none⟩ (.bool q)).setCell ⟨g + 1 + 1, 1, none⟩ (.slice B k d)).setCell ⟨g + 1 + 1 + 1, 0, none⟩ (.bool q')).setCell ⟨g + 1 + 1 + 1, 1, none⟩ (.slice B' k' d')).cell? ⟨g + 1 + 1, 0, none⟩ = some (.bool q) ∧
    ((((w1.setCell ⟨g + 1 + 1, 0, none⟩ (.bool q)).setCell ⟨g + 1 + 1, 1, none⟩ (.slice B k d)).setCell ⟨g + 1 + 1 + 1, 0, none⟩ (.bool q')).setCell ⟨g + 1 + 1 + 1, 1, none⟩ (.slice B' k' d')).cell? ⟨g + 1 + 1, 1, none⟩ = some (.slice B k d) ∧
    ((((w1.setCell ⟨g + 1 + 1, 0, none⟩ (.bool q)).setCell ⟨g + 1 + 1, 1, none⟩ (.slice B k d)).setCell ⟨g + 1 + 1 + 1, 0, none⟩ (.bool q')).setCell ⟨g + 1 + 1 + 1, 1, none⟩ (.slice B' k' d')).cell? ⟨g + 1 + 1 + 1, 0, none⟩ = some (.bool q') ∧
    ((((w1.setCell ⟨g + 1 + 1, 0, none⟩ (.bool q)).setCell ⟨g + 1 + 1, 1, none⟩ (.slice B k d)).setCell ⟨g + 1 + 1 + 1, 0, none⟩ (.bool q')).setCell ⟨g + 1 + 1 + 1, 1, none⟩ (.slice B' k' d')).cell? ⟨g + 1 + 1 + 1, 1, none⟩ = some (.slice B' k' d') ∧
    DigAt ((((w1.setCell ⟨g + 1 + 1, 0, none⟩ (.bool q)).setCell ⟨g + 1 + 1, 1, none⟩ (.slice B k d)).setCell ⟨g + 1 + 1 + 1, 0, none⟩ (.bool q')).setCell ⟨g + 1 + 1 + 1, 1, none⟩ (.slice B' k' d')) B xs ∧
    DigAt ((((w1.setCell ⟨g + 1 + 1, 0, none⟩ (.bool q)).setCell ⟨g + 1 + 1, 1, none⟩ (.slice B k d)).setCell ⟨g + 1 + 1 + 1, 0, none⟩ (.bool q')).setCell ⟨g + 1 + 1 + 1, 1, none⟩ (.slice B' k' d')) B' ys ∧
    Below g w ((((w1.setCell ⟨g + 1 + 1, 0, none⟩ (.bool q)).setCell ⟨g + 1 + 1, 1, none⟩ (.slice B k d)).setCell ⟨g + 1 + 1 + 1, 0, none⟩ (.bool q')).setCell ⟨g + 1 + 1 + 1, 1, none⟩ (.slice B' k' d')) := by
  have h1 := h.putR q B k d
  obtain ⟨r, _, _, _, hr⟩ := h.R
  have hr1 := (((hr.put0 q).put1 (.slice B k d)).far (p := ⟨g + 1 + 1 + 1, 0, none⟩) (by show g + 1 + 1 ≠ g + 1 + 1 + 1; omega) (.bool q')).far (p := ⟨g + 1 + 1 + 1, 1, none⟩) (by show g + 1 + 1 ≠ g + 1 + 1 + 1; omega) (.slice B' k' d')
  obtain ⟨r2, _, _, _, hr2⟩ := h1.T
  have hr3 := (hr2.put0 q').put1 (.slice B' k' d')
  exact ⟨hr1.cells.1, hr1.cells.2, hr3.cells.1, hr3.cells.2, h1.digT (h.digR hx _ _ _ _) _ _ _ _, h1.digT (h.digR hy _ _ _ _) _ _ _ _, (h1.putT q' B' k' d').bel⟩
end
/-- Two numbers. -/
def RetZ2 (q r : Int) (w : World) (e : Ending) (w' : World) : Prop := ∃ v1 v2, e = .returned (.tuple #[v1, v2]) ∧ ZAt w' v1 q ∧ ZAt w' v2 r ∧ Below w.heap.size w w'
/-- What the long division has behind its rounds. -/
def DmTo (Y N n g : Nat) (w0 : World) (v : Value) (wx : World) : Prop := ∃ (r m1 c1 : Nat) (A1 : Option Addr) (Q : List Nat), v = .slice A1 m1 c1 ∧ (digs r).length = m1 ∧ m1 ≤ c1 ∧ DigAt wx A1 (digs r) ∧ r < Y ∧ Q.length = n ∧ Digs Q ∧ val10 Q * Y + r = N ∧ DigRow wx (g + 1 + 1 + 1 + 1) Q ∧ Below (g + 1 + 1 + 1 + 1) w0 wx

set_option maxRecDepth 100000 in
set_option maxHeartbeats 4000000 in
theorem divmod_any (x y : Int) (v u : Value) (w : World) (hx : ZAt w v x) (hy : ZAt w u y) (hpos : 0 < y) (hlx : (digs x.natAbs).length ≤ 15000) (hly : (digs y.natAbs).length ≤ 15000) :
    Calls Tryz.prog 34 #[v, u] w (RetZ2 (x / y) (x % y) w) := by
  obtain ⟨A, c, rfl, hxk, hxa⟩ := hx
  obtain ⟨A', c', rfl, hyk, hya⟩ := hy
  rw [show decide (y < 0) = false from decide_eq_false (by omega)]
  have HE := Lib.hid (fun q r => ediv_of (x := x) (y := y) (q := q) (r := r) hpos)
  have hY : 0 < y.natAbs := by omega
  have HYY : Hid (y = (y.natAbs : Int)) := Lib.hid (by omega)
  generalize hg : w.heap.size = g
  have HVA := Lib.hid (digs_val x.natAbs)
  have hCa := digs_canon x.natAbs
  obtain ⟨s, hs⟩ : ∃ s, decide (x < 0) = s := ⟨_, rfl⟩
  rw [hs]
  have HS := Lib.hid hs
  clear hs hpos
  generalize x.natAbs = N at *
  generalize y.natAbs = Y at *
  obtain ⟨m, hm⟩ : ∃ m, (digs Y).length = m := ⟨_, rfl⟩
  have TM := fun V l hl (h : Below g w V) => Lib.hid (times_any Y l A' m c' V hm (by rw [← hm]; exact hyk) (by omega) hl (hya.kept hg h))
  have hml : m ≤ 15000 := by omega
  have hyk2 : m ≤ c' := by omega
  have HML := fun l (hl : l ≤ 10000) => digs_mul_len hm hl
  rw [hm]
  have HYA := Lib.hid (And.intro hm hya)
  clear hm hya hyk hly
  generalize digs N = a at *
  obtain ⟨n, hn⟩ : ∃ n, a.length = n := ⟨_, rfl⟩
  rw [hn]
  have HN := Lib.hid hn
  have HDA := Lib.hid hCa.1
  have hnl : n ≤ 15000 := by omega
  have hxk2 : n ≤ c := by omega
  have HX := fun V (h : Below g w V) => Lib.hid (hxa.kept hg h)
  have HXA := Lib.hid hxa
  have O0 := DvO.new (w := w) (n := n) (c := c) (m := m) (c' := c') (s := s) (A := A) (A' := A') hg
  have hsz0 : ((((w.alloc (.cells #[.bool s, .slice A n c] 30)).alloc (.cells #[.bool false, .slice A' m c'] 30)).alloc (.cells #[.bool false, .slice none 0 0] 30)).alloc (.cells #[.bool false, .slice none 0 0] 30)).heap.size = g + 1 + 1 + 1 + 1 := by simp [hg]
  clear hxa hn hCa hlx hxk
  go_enter Tryz.func34, Tryz.ntmps34
  go_upto_region 1 with (fail)
  generalize (((w.alloc (.cells #[.bool s, .slice A n c] 30)).alloc (.cells #[.bool false, .slice A' m c'] 30)).alloc (.cells #[.bool false, .slice none 0 0] 30)).alloc (.cells #[.bool false, .slice none 0 0] 30) = w0 at *
  obtain ⟨c0, c1, c2, c3⟩ := O0.held
  have hmk : (Instr.makeSlice 28 (.int .i64 (n : Int)) (.int .i64 (n : Int))).run Tryz.prog w0 = .ok (.slice (some ⟨g + 1 + 1 + 1 + 1, 0, none⟩) n n) (w0.alloc (.cells (dV (List.replicate n 0)).toArray 3)) := by
    have h := make_digs w0 n (by omega)
    rw [hsz0] at h
    exact h
  have R0 : DigRow (w0.alloc (.cells (dV (List.replicate n 0)).toArray 3)) (g + 1 + 1 + 1 + 1) (List.replicate n 0) := by
    have h := DigRow.new w0 (List.replicate n 0)
    rw [hsz0] at h
    exact h
  have E0 := (Below.refl (g + 1 + 1 + 1 + 1) w0).alloc (by rw [hsz0]; exact Nat.le_refl _) (.cells (dV (List.replicate n 0)).toArray 3)
  have hsz1 : (w0.alloc (.cells (dV (List.replicate n 0)).toArray 3)).heap.size = g + 1 + 1 + 1 + 1 + 1 := by rw [World.size_alloc, hsz0]
  go_upto_region 2 with (fail)
  have HR1 := Lib.hid (R0.same (Below.heap_alloc _ (.cells #[] 3) _ R0.lt))
  have HE1 := Lib.hid (E0.alloc (by rw [hsz1]; omega) (.cells #[] 3))
  clear hmk R0 E0
  generalize (w0.alloc (.cells (dV (List.replicate n 0)).toArray 3)).alloc (.cells #[] 3) = w1 at *
  have O1 := O0.upto HE1.out
  clear c0 c1 c2 c3
  obtain ⟨c0, c1, c2, c3⟩ := O1.held
  go_upto_block 0 with (fail)
  go_cut [7] (fun v wx => DmTo Y N n g w0 v wx)
  case first =>
    go_wp2_with fail
    go_loopw [7, 8, 9, 10, 11] (fun rv iv _ _ _ wr => ∃ (k r m1 c1 : Nat) (A1 : Option Addr) (Q : List Nat), k ≤ n ∧ iv = .int .i64 ((k : Int) - 1) ∧ rv = .slice A1 m1 c1 ∧ (digs r).length = m1 ∧ m1 ≤ c1 ∧ DigAt wr A1 (digs r) ∧ r < Y ∧ Q.length = n ∧ Digs Q ∧ val10 (Q.drop k) * Y + r = val10 (a.drop k) ∧ DigRow wr (g + 1 + 1 + 1 + 1) Q ∧ Below (g + 1 + 1 + 1 + 1) w0 wr) (fun _ iv _ _ _ _ => ((intOf iv) + 1).toNat)
    case atStart => exact ⟨n, 0, 0, 0, _, List.replicate n 0, Nat.le_refl _, rfl, rfl, rfl, Nat.le_refl _, DigAt.nil _ _, hY, List.length_replicate, (fun d hd => by rw [List.eq_of_mem_replicate hd]; omega), by rw [List.drop_of_length_le (by rw [List.length_replicate]; exact Nat.le_refl _), List.drop_of_length_le (by rw [HN.out]; exact Nat.le_refl _)]; simp [val10], HR1.out, HE1.out⟩
    case round =>
    clear HR1 HE1 O1 c0 c1 c2 c3
    obtain ⟨k, r, m1, c1, A1, Q, hk, hiv, rfl, hm1, hmc, hat, hr, hQl, hQd, hQv, hrow, hb⟩ := hrel
    have O1 := O0.upto hb
    obtain ⟨c0, c1', c2, c3⟩ := O1.held
    have HM1 := Lib.hid hm1
    have HAT := Lib.hid hat
    have HQ := Lib.hid (And.intro hQl (And.intro hQd hQv))
    have HROW := Lib.hid hrow
    have HB := Lib.hid hb
    clear hm1 hat hQl hQd hQv hrow hb
    cases k with
    | zero =>
      subst hiv
      go_wp2_with fail
      go_meet
      exact ⟨r, m1, c1, A1, Q, rfl, HM1.out, hmc, HAT.out, hr, HQ.out.1, HQ.out.2.1, by have h := HQ.out.2.2; rw [List.drop_zero, List.drop_zero, HVA.out] at h; exact h, HROW.out, HB.out⟩
    | succ j =>
      rw [show (((j + 1 : Nat)) : Int) - 1 = (j : Int) by omega] at hiv
      subst hiv
      have hjn : j < n := by omega
      have hja : j < a.length := by rw [HN.out]; omega
      have HJA := Lib.hid hja
      have hm1m : m1 ≤ m := by
        rw [← HM1.out]
        exact digs_len (Nat.lt_trans hr (digs_lt HYA.out.1))
      obtain ⟨p, off, hA, hca⟩ := dig_cell ((HX wr O1.bel).out) hja
      have hd := getD_lt HDA.out j
      obtain ⟨d, hdd⟩ : ∃ d, a.getD j 0 = d := ⟨_, rfl⟩
      rw [hdd] at hca hd
      have HDD := Lib.hid hdd
      clear hdd hja
      subst hA
      obtain ⟨q, hq⟩ : ∃ q, q = d + 10000 * r := ⟨_, rfl⟩
      have HQE := Lib.hid hq
      have HQT : Hid (q < Y * 10000) := Lib.hid (by omega)
      have HONE := Lib.hid (DigOwn.one wr d)
      have HATE := Lib.hid (HAT.out.below ((Below.refl _ wr).alloc (Nat.le_refl _) (.cells #[.int .i64 (d : Int)] 3)))
      have HLC : Hid (val10 ([d] ++ digs r) = q ∧ Digs ([d] ++ digs r) ∧ ([d] ++ digs r).length = m1 + 1) := Lib.hid ⟨by
        show d + 10000 * val10 (digs r) = q
        rw [digs_val, hq], fun z hz => by
        rcases List.mem_cons.1 hz with e | e
        · rw [e]; exact hd
        · exact (digs_canon r).1 z e, by simp [HM1.out]⟩
      have LF1 := fun A2 k2 w2 hc hat => Lib.hid (leanF_any q false A2 (m1 + 1) k2 ([d] ++ digs r) w2 HLC.out.1 HLC.out.2.1 HLC.out.2.2 hc (by omega) hat)
      have HF : ∀ A n c W, (Instr.field 30 (.agg #[.bool false, .slice A n c]) 1).run Tryz.prog W = .ok (.slice A n c) W := fun A n c W => by rfl
      have hj15 : j ≤ 15000 := by omega
      have hrw := HROW.out.lt
      clear hq
      go_upto_region 6 with (first | (at_builtin; refine wpList_dapp rfl (.tmp 32) (.tmp 33) rfl wr.heap.size (.slice (some ⟨wr.heap.size, 0, none⟩) 1 1) [d] (digs r) A1 m1 c1 rfl rfl HONE.out HM1.out HATE.out (by rw [HM1.out]; simp; omega) (by simp) ?_; intro v1 w2 ho hg2 hat; obtain ⟨A2, k2, e2, hk2, hat2, -⟩ := ho.slice; rw [HLC.out.2.2] at e2 hk2; subst e2; have HAT2 := Lib.hid hat2; have HB2 := Lib.hid (((Below.refl wr.heap.size wr).alloc (Nat.le_refl _) _).grown hg2 (by simp) (fun k hk => by have e3 : wr.heap.size = k := Option.some.inj hk; omega)); clear ho hg2 hat hat2) | (go_at_call 67; refine ((LF1 _ _ _ hk2 HAT2.out).out).mono ?_; rintro e w3 ⟨A3, m3, k3, rfl, hm3, hk3, hat3, hbs3, hb3⟩; have HM3 := Lib.hid hm3; have HAT3 := Lib.hid hat3; have HW3 := Lib.hid (HB2.out.trans (hb3.mono HB2.out.size)); have HBS3 : Hid (∀ a, A3 = some a → g + 1 + 1 + 1 + 1 < a.block) := Lib.hid (fun a e => by have h1 := hbs3 a e; have h2 := HB2.out.size; omega); clear hm3 hat3 hbs3 hb3))
      have O3 := O1.upto (HW3.out.mono (by omega))
      have HROW3 := Lib.hid (HROW.out.below HW3.out hrw)
      have HB3 := Lib.hid (HB.out.trans (HW3.out.mono (by omega)))
      clear O1 c0 c1' c2 c3 HROW HB HW3 HAT HATE HONE LF1 HLC HAT2 HB2 hca HM1
      have hr3 := HROW3.out.lt
      go_upto_block 2 with (fail)
      go_cut [9] (fun lo wx => ∃ l : Nat, lo = .int .i64 (l : Int) ∧ l < 10000 ∧ Y * l ≤ q ∧ q < Y * (l + 1) ∧ Below w3.heap.size w3 wx)
      case first =>
        have hm3l : m3 ≤ 15001 := by
          rw [← HM3.out]
          refine Nat.le_trans (digs_len (k := m + 1) ?_) (by omega)
          have h1 := digs_lt HYA.out.1
          have h2 := HQT.out
          rw [Nat.pow_succ]
          omega
        clear hrw
        go_wp2_with fail
        go_loopw [9, 10, 11] (fun lo hi _ wi => ∃ l h : Nat, lo = .int .i64 (l : Int) ∧ hi = .int .i64 (h : Int) ∧ l < h ∧ h ≤ 10000 ∧ Y * l ≤ q ∧ q < Y * h ∧ Below w3.heap.size w3 wi) (fun lo hi _ _ => (intOf hi - intOf lo).toNat)
        case atStart => exact ⟨0, 10000, rfl, rfl, by omega, Nat.le_refl _, by omega, HQT.out, Below.refl _ _⟩
        case round =>
        obtain ⟨l, h, rfl, rfl, hlh, hh, h1, h2, hb⟩ := hrel
        have HI := Lib.hid (And.intro h1 h2)
        have HBI := Lib.hid hb
        have O4 := O3.upto (hb.mono (by omega))
        have hbw := O4.bel
        obtain ⟨c0, c1', c2, c3⟩ := O4.held
        clear h1 h2 hb O4
        by_cases hend : h = l + 1
        · subst hend
          have e1 : ((l + 1 : Nat) : Int) - (l : Int) = 1 := by omega
          go_wp2_with fail
          go_meet
          exact ⟨l, rfl, by omega, HI.out.1, HI.out.2, HBI.out⟩
        · obtain ⟨mid, hmid⟩ : ∃ mid, mid = (l + h) / 2 := ⟨_, rfl⟩
          have em : ((l : Int) + (h : Int)).tdiv 2 = (mid : Int) := by rw [Int.tdiv_eq_ediv_of_nonneg (by omega)]; omega
          have hm1 : l < mid := by omega
          have hm2 : mid < h := by omega
          have T1 := TM wr mid (by omega) hbw
          have hml := HML mid (by omega)
          have SZN := fun V A5 n5 k5 (hn5 : (digs (Y * mid)).length = n5) h5 (hbV : Below w3.heap.size w3 V) => Lib.hid (sizesN_any (Y * mid) q A5 A3 n5 m3 k5 k3 V hn5 HM3.out (by rw [← hn5]; omega) (by omega) h5 (HAT3.out.below hbV))
          have HCM : Hid ((Y * mid ≤ q → cmpDN (Y * mid) q ≤ 0) ∧ (¬ Y * mid ≤ q → ¬ cmpDN (Y * mid) q ≤ 0)) := Lib.hid ⟨fun h => by
            unfold cmpDN
            split
            · omega
            · split <;> omega, fun h => by
            unfold cmpDN
            rw [if_neg (by omega), if_pos (by omega)]
            omega⟩
          clear hmid hml
          by_cases hcm : Y * mid ≤ q
          · have hz := HCM.out.1 hcm
            have HCC := Lib.hid hcm
            clear HCM hcm
            generalize cmpDN (Y * mid) q = z at *
            go_wp2_with (first | (go_at_call 69; refine (T1.out).mono ?_; rintro e w4 ⟨A5, n5, k5, rfl, hn5, hk5, hat5, hb5⟩; have HN5 := Lib.hid hn5; have HAT5 := Lib.hid hat5; have HB5 := Lib.hid (HBI.out.trans (hb5.mono HBI.out.size)); clear hn5 hat5 hb5) | (go_at_call 68; refine ((SZN _ _ _ _ HN5.out HAT5.out HB5.out).out).mono ?_; rintro e w5 ⟨rfl, hb6⟩; have HB6 := Lib.hid (HB5.out.trans (hb6.mono HB5.out.size)); clear hb6))
            exact ⟨⟨mid, h, rfl, rfl, hm2, hh, HCC.out, HI.out.2, HB6.out⟩, by simp [intOf]; omega⟩
          · have hz := HCM.out.2 hcm
            have HCC := Lib.hid hcm
            clear HCM hcm
            generalize cmpDN (Y * mid) q = z at *
            go_wp2_with (first | (go_at_call 69; refine (T1.out).mono ?_; rintro e w4 ⟨A5, n5, k5, rfl, hn5, hk5, hat5, hb5⟩; have HN5 := Lib.hid hn5; have HAT5 := Lib.hid hat5; have HB5 := Lib.hid (HBI.out.trans (hb5.mono HBI.out.size)); clear hn5 hat5 hb5) | (go_at_call 68; refine ((SZN _ _ _ _ HN5.out HAT5.out HB5.out).out).mono ?_; rintro e w5 ⟨rfl, hb6⟩; have HB6 := Lib.hid (HB5.out.trans (hb6.mono HB5.out.size)); clear hb6))
            exact ⟨⟨l, mid, rfl, rfl, hm1, by omega, HI.out.1, Nat.lt_of_not_le HCC.out, HB6.out⟩, by simp [intOf]; omega⟩
      case rest =>
        obtain ⟨l, rfl, hl, hl1, hl2, hb⟩ := hcut
        have HLO := Lib.hid (low_of hl1 hl2)
        have hll := Lib.hid hl1
        clear hl1 hl2
        have O5 := O3.upto (hb.mono (by omega))
        have HROW5 := Lib.hid (HROW3.out.below hb hr3)
        have HAT5 := Lib.hid (HAT3.out.below hb)
        have HB5 := Lib.hid (HB3.out.trans (hb.mono (by omega)))
        clear O3 HROW3 HAT3 HB3 hb
        have hcell := HROW5.out.cell (k := j) (by rw [HQ.out.1]; omega)
        have hfro := HROW5.out.frozen j
        generalize Q.getD j 0 = e at *
        go_upto_region 13 with (fail)
        have HROW6 := Lib.hid (HROW5.out.set j l)
        have HAT6 := Lib.hid (HAT5.out.far (p := ⟨g + 1 + 1 + 1 + 1, j, none⟩) (fun a e => by have := HBS3.out a e; show a.block ≠ g + 1 + 1 + 1 + 1; omega) (.int .i64 (l : Int)))
        have HB6 := Lib.hid (HB5.out.setCell (p := ⟨g + 1 + 1 + 1 + 1, j, none⟩) (Nat.le_refl _) (.int .i64 (l : Int)))
        have O6 := O5.upto ((Below.refl _ wc).setCell (p := ⟨g + 1 + 1 + 1 + 1, j, none⟩) (Nat.le_refl _) (.int .i64 (l : Int)))
        clear O5 HROW5 HAT5 HB5 hcell hfro
        change Code.wp _ _ _ _ (wc.setCell ⟨g + 1 + 1 + 1 + 1, j, none⟩ (.int .i64 (l : Int)))
        generalize (wc.setCell ⟨g + 1 + 1 + 1 + 1, j, none⟩ (.int .i64 (l : Int))) = w6 at *
        obtain ⟨c0, c1', c2, c3⟩ := O6.held
        have hr6 := HROW6.out.lt
        have hm3l : m3 ≤ 15001 := by
          rw [← HM3.out]
          refine Nat.le_trans (digs_len (k := m + 1) ?_) (by omega)
          have h1 := digs_lt HYA.out.1
          have h2 := HQT.out
          rw [Nat.pow_succ]
          omega
        have T2 := TM w6 l (by omega) O6.bel
        have hml2 := HML l (by omega)
        have LS := fun V A5 n5 k5 (hn5 : (digs (Y * l)).length = n5) h5 (hbV : Below w6.heap.size w6 V) => Lib.hid (lessN_any q (Y * l) A3 A5 m3 n5 k3 k5 V HM3.out hn5 (by omega) (by rw [← hn5]; omega) (HAT6.out.below hbV) h5 hll.out)
        rw [HLO.out.2.2.2] at LS
        have LF := fun ds A7 n7 k7 V (hv : val10 ds = q % Y) hD hn hc (hl : n7 ≤ m3) hat => Lib.hid (leanF_any (q % Y) false A7 n7 k7 ds V hv hD hn hc (by omega) hat)
        have HST : Hid (val10 ((Q.set j l).drop j) * Y + q % Y = val10 (a.drop j)) := Lib.hid (dm_step (by rw [HQ.out.1]; exact hjn) HJA.out HQ.out.2.2 (by rw [HLO.out.2.1, HDD.out]; exact HQE.out))
        have HTM := Lib.hid HLO.out.2.2.1
        clear HLO hml2
        generalize q % Y = t at *
        go_wp2_with (first | (go_at_call 69; refine (T2.out).mono ?_; rintro e w7 ⟨A5, n5, k5, rfl, hn5, hk5, hat5, hb5⟩; have HN5 := Lib.hid hn5; have HAT5 := Lib.hid hat5; have HB7 := Lib.hid hb5; clear hn5 hat5 hb5) | (go_at_call 70; refine ((LS _ _ _ _ HN5.out HAT5.out HB7.out).out).mono ?_; rintro e w8 ⟨A7, n7, k7, ds, rfl, hD7, hv7, hn7, hk7, hl7, hat7, hb8⟩; have HD7 := Lib.hid (And.intro hv7 (And.intro hD7 hn7)); have HAT7 := Lib.hid hat7; have HB8 := Lib.hid (HB7.out.trans (hb8.mono HB7.out.size)); clear hD7 hv7 hn7 hat7 hb8) | (go_at_call 67; refine ((LF _ _ _ _ _ HD7.out.1 HD7.out.2.1 HD7.out.2.2 hk7 hl7 HAT7.out).out).mono ?_; rintro e w9 ⟨A8, m8, k8, rfl, hm8, hk8, hat8, -, hb9⟩; have HM8 := Lib.hid hm8; have HAT8 := Lib.hid hat8; have HB9 := Lib.hid (HB8.out.trans (hb9.mono HB8.out.size)); clear hm8 hat8 hb9))
        exact ⟨⟨j, t, m8, k8, A8, Q.set j l, by omega, by go_num, rfl, HM8.out, hk8, HAT8.out, HTM.out, by rw [List.length_set]; exact HQ.out.1, digs_set HQ.out.2.1 _ hl, HST.out, HROW6.out.below HB9.out hr6, HB6.out.trans (HB9.out.mono (by omega))⟩, by simp [intOf] <;> omega⟩
  case rest =>
  clear HR1 HE1 O1 c0 c1 c2 c3
  obtain ⟨r, m1, k1, A1, Q, rfl, hm1, hk1, hat, hr, hQl, hQd, hQv, hrow, hb⟩ := hcut
  have O1 := O0.upto hb
  obtain ⟨c0, c1, c2, c3⟩ := O1.held
  have HEQ := Lib.hid (HE.out (val10 Q) r hQv hr)
  have hg4 := hrow.lt
  have hm1l : m1 ≤ 15000 := by
    rw [← hm1]
    have := digs_len (k := m) (Nat.lt_trans hr (digs_lt HYA.out.1))
    omega
  have L1 := fun V (h : Below wc.heap.size wc V) => Lib.hid (leanF_any (val10 Q) s (some ⟨g + 1 + 1 + 1 + 1, 0, none⟩) n n Q V rfl hQd hQl (Nat.le_refl _) (by omega) (hrow.at.below h))
  have L2 := fun V (h : Below wc.heap.size wc V) => Lib.hid (leanF_any r false A1 m1 k1 (digs r) V (digs_val r) (digs_canon r).1 hm1 hk1 (by omega) (hat.below h))
  have hqn : val10 Q ≤ N := by
    have h1 : val10 Q * 1 ≤ val10 Q * Y := Nat.mul_le_mul_left _ hY
    omega
  clear hQl hQd hQv hrow hm1 hat hb
  generalize val10 Q = z at *
  go_upto_region 15 with (first | (go_at_call 67; refine ((L2 _ HB2.out).out).mono ?_; rintro e w3 ⟨A3, m3, k3, rfl, hm3, hk3, hat3, hbs3, hb3⟩; have HM3 := Lib.hid hm3; have HAT3 := Lib.hid hat3; have HBS3 := Lib.hid hbs3; have HB3 := Lib.hid (HB2.out.trans (hb3.mono HB2.out.size)); have HAT23 := Lib.hid (HAT2.out.below hb3); clear hm3 hat3 hbs3 hb3) | (go_at_call 67; refine ((L1 _ (Below.refl _ _)).out).mono ?_; rintro e w2 ⟨A2, m2, k2, rfl, hm2, hk2, hat2, hbs2, hb2⟩; have HM2 := Lib.hid hm2; have HAT2 := Lib.hid hat2; have HBS2 := Lib.hid hbs2; have HB2 := Lib.hid hb2; clear hm2 hat2 hbs2 hb2))
  have HD : Hid (ZBox ((w3.alloc (.cells #[.bool (s && !decide (z = 0)), .slice A2 m2 k2] 30)).alloc (.cells #[.bool false, .slice A3 m3 k3] 30)) g s (.slice A n c) ∧ Dv2 w ((w3.alloc (.cells #[.bool (s && !decide (z = 0)), .slice A2 m2 k2] 30)).alloc (.cells #[.bool false, .slice A3 m3 k3] 30)) g w3.heap.size m c' m2 k2 m3 k3 A' A2 A3 (s && !decide (z = 0)) (digs z) (digs r)) := Lib.hid (by
    have hbA := ((Below.refl w3.heap.size w3).alloc (Nat.le_refl _) (.cells #[.bool (s && !decide (z = 0)), .slice A2 m2 k2] 30)).alloc (by simp) (.cells #[.bool false, .slice A3 m3 k3] 30)
    have hs3 := HB3.out.size
    have O2 := O1.upto ((HB3.out.mono (by omega)).trans (hbA.mono (by omega)))
    have p2 := ZBox.new (w3.alloc (.cells #[.bool (s && !decide (z = 0)), .slice A2 m2 k2] 30)) false (.slice A3 m3 k3)
    rw [World.size_alloc] at p2
    exact ⟨O2.A, O2.B, O2.R, O2.T, (ZBox.new w3 _ _).alloc _, p2, HAT23.out.below hbA, HAT3.out.below hbA, by omega, O2.bel⟩)
  clear HAT2 HAT23 HAT3 HB2 HB3 HBS2 HBS3
  generalize hw4 : (w3.alloc (.cells #[.bool (s && !decide (z = 0)), .slice A2 m2 k2] 30)).alloc (.cells #[.bool false, .slice A3 m3 k3] 30) = w4 at *
  clear hw4 c0 c1 c2 c3 O1 O0 L1 L2 HX TM HML
  generalize w3.heap.size = P at *
  obtain ⟨sq, hsq⟩ : ∃ sq, (s && !decide (z = 0)) = sq := ⟨_, rfl⟩
  rw [hsq] at HD
  have HSQ := Lib.hid hsq
  clear hsq
  have hg0 := HD.out.1.cells.1
  have HDV := Lib.hid HD.out.2
  clear HD
  obtain ⟨d0, d1, d2, d3, d4, d5, -⟩ := HDV.out.all
  have hm2l : m2 ≤ 15000 := by
    rw [← HM2.out]
    refine Nat.le_trans (digs_len (k := n) ?_) hnl
    have h1 := val10_lt HDA.out
    rw [HVA.out, HN.out] at h1
    omega
  have hm3l : m3 ≤ 15000 := by
    rw [← HM3.out]
    have := digs_len (k := m) (Nat.lt_trans hr (digs_lt HYA.out.1))
    omega
  have HZQ : Hid (s = true → decide (-(z : Int) < 0) = sq) := Lib.hid fun h => by
    rw [← HSQ.out, h, Bool.true_and]
    by_cases h0 : z = 0
    · subst h0; rfl
    · rw [decide_eq_true (show -(z : Int) < 0 by omega), decide_eq_false h0]; rfl
  by_cases hneg : s = true ∧ r ≠ 0
  · obtain ⟨rfl, hr0⟩ := hneg
    have hm3 : 0 < m3 := by
      rw [← HM3.out]
      exact List.length_pos_iff.2 fun e => hr0 (digs_nil.1 e)
    have HFIN : Hid (x / y = -(z : Int) - 1 ∧ x % y = y - (r : Int)) := Lib.hid (HEQ.out.2.2 (by have := HS.out; exact of_decide_eq_true this) hr0)
    have I1 := fun V => Lib.hid (intN_any 1 V (by omega))
    have S1 := fun V A5 n5 k5 (hn5 : (digs 1).length = n5) hk5 (h5 : DigAt V A5 (digs 1)) (hV : Dv2 w V g P m c' m2 k2 m3 k3 A' A2 A3 sq (digs z) (digs r)) => Lib.hid (subV_any (-(z : Int)) 1 (.agg #[.bool sq, .slice A2 m2 k2]) (.agg #[.bool false, .slice A5 n5 k5]) V (zat_of (HZQ.out rfl) (by rw [Int.natAbs_neg, Int.natAbs_natCast]; exact HM2.out) hk2 (by rw [Int.natAbs_neg, Int.natAbs_natCast]; exact hV.D2)) (zat_nat (k := 1) hn5 hk5 h5) (by rw [Int.natAbs_neg, Int.natAbs_natCast, HM2.out]; omega) (by decide))
    have S2 := fun V (hV : Dv2 w V g P m c' m2 k2 m3 k3 A' A2 A3 sq (digs z) (digs r)) => Lib.hid (subV_any (Y : Int) (r : Int) (.agg #[.bool false, .slice A' m c']) (.agg #[.bool false, .slice A3 m3 k3]) V (zat_nat HYA.out.1 hyk2 (HYA.out.2.below (by rw [hg]; exact hV.bel))) (zat_nat HM3.out hk3 hV.D3) (by rw [Int.natAbs_natCast, HYA.out.1]; omega) (by rw [Int.natAbs_natCast, HM3.out]; omega))
    go_upto_region 16 with (fail)
    have HH := HDV.out.all
    clear d0 d1 d2 d3 d4 d5
    obtain ⟨d0, d1, d2, d3, d4, d5, -⟩ := HDV.out.all
    go_region_held3 (fun w' => w'.cell? ⟨g + 1, 0, none⟩ = some (.bool false) ∧ w'.cell? ⟨g + 1, 1, none⟩ = some (.slice A' m c') ∧ w'.cell? ⟨P, 0, none⟩ = some (.bool sq) ∧ w'.cell? ⟨P, 1, none⟩ = some (.slice A2 m2 k2) ∧ w'.cell? ⟨P + 1, 0, none⟩ = some (.bool false) ∧ w'.cell? ⟨P + 1, 1, none⟩ = some (.slice A3 m3 k3) ∧ Dv2 w w' g P m c' m2 k2 m3 k3 A' A2 A3 sq (digs z) (digs r))
      (first | assumption | exact hS | exact HH | (with_reducible exact (Dv2.putR (And.right (And.right (And.right (And.right (And.right (And.right (by assumption))))))) _ _ _ _).all) | (with_reducible exact (Dv2.putT (And.right (And.right (And.right (And.right (And.right (And.right (by assumption))))))) _ _ _ _).all) | exact (Dv2.drew (And.right (And.right (And.right (And.right (And.right (And.right (by assumption)))))))).all)
      (first | ((go_at_call 19; refine (I1 _).out.mono ?_; rintro e w5 ⟨A5, n5, k5, rfl, hn5, hk5, hat5, hb5⟩; have HN5 := Lib.hid hn5; have HAT5 := Lib.hid hat5; have hS := (Dv2.below (And.right (And.right (And.right (And.right (And.right (And.right (by assumption))))))) hb5).all; clear hn5 hat5)) | ((go_at_call 71; (with_reducible refine ((S1 _ _ _ _ HN5.out hk5 ?_ ?_).out).mono ?_); (first | exact HAT5.out | exact HAT5.out.drew); (exact And.right (And.right (And.right (And.right (And.right (And.right (by assumption))))))); rintro e w6 ⟨b6, A6, n6, k6, rfl, hb6, hn6, hk6, hat6, hbel6⟩; have HN6 := Lib.hid (And.intro hb6 hn6); have HAT6 := Lib.hid hat6; have hS := (Dv2.below (And.right (And.right (And.right (And.right (And.right (And.right (by assumption))))))) hbel6).all; clear hb6 hn6 hat6)) | ((go_at_call 71; (with_reducible refine ((S2 _ ?_).out).mono ?_); (exact And.right (And.right (And.right (And.right (And.right (And.right (by assumption))))))); rintro e w7 ⟨b7, A7, n7, k7, rfl, hb7, hn7, hk7, hat7, hbel7⟩; have HN7 := Lib.hid (And.intro hb7 hn7); have HAT7 := Lib.hid hat7; have HAT67 := Lib.hid (HAT6.out.below hbel7); have hS := (Dv2.below (And.right (And.right (And.right (And.right (And.right (And.right (by assumption))))))) hbel7).all; obtain ⟨⟨_, r0⟩, ⟨_, r1⟩, f0, f1, ⟨_, t0⟩, ⟨_, t1⟩, f2, f3⟩ := hS.2.2.2.2.2.2.res; have HSZ := Lib.hid hS.2.2.2.2.2.2; clear hb7 hn7 hat7)))
    obtain ⟨p0, p1, p2, p3, pa, pb, pc⟩ := HSZ.out.ends b6 b7 A6 A7 n6 k6 n7 k7 HAT67.out HAT7.out
    go_wp2_with fail
    refine bodyPost_ret (v := .tuple #[.agg #[.bool b6, .slice A6 n6 k6], .agg #[.bool b7, .slice A7 n7 k7]]) (by simp [results, Tryz.results34, go_sem, p0, p1, p2, p3]) rfl ?_
    refine ⟨_, _, rfl, ?_, ?_, by rw [hg]; exact pc⟩
    · rw [HFIN.out.1]; exact zat_of HN6.out.1 HN6.out.2 hk6 pa
    · rw [HFIN.out.2, HYY.out]; exact zat_of HN7.out.1 HN7.out.2 hk7 pb
  · have HFIN : Hid ((decide (x / y < 0) = sq ∧ (x / y).natAbs = z) ∧ (decide (x % y < 0) = false ∧ (x % y).natAbs = r)) := Lib.hid (by
      cases s with
      | false =>
        have hx0 : 0 ≤ x := by have := of_decide_eq_false HS.out; omega
        have hq0 : sq = false := HSQ.out.symm
        subst hq0
        rw [(HEQ.out.1 hx0).1, (HEQ.out.1 hx0).2]
        exact ⟨⟨decide_eq_false (by omega), Int.natAbs_natCast _⟩, decide_eq_false (by omega), Int.natAbs_natCast _⟩
      | true =>
        have hx0 : x < 0 := of_decide_eq_true HS.out
        have hr0 : r = 0 := Classical.byContradiction fun h => hneg ⟨rfl, h⟩
        subst hr0
        rw [(HEQ.out.2.1 hx0 rfl).1, (HEQ.out.2.1 hx0 rfl).2]
        exact ⟨⟨HZQ.out rfl, by rw [Int.natAbs_neg, Int.natAbs_natCast]⟩, rfl, rfl⟩)
    have hgd : (s = false) ∨ (s = true ∧ m3 = 0) := by
      cases s with
      | false => exact .inl rfl
      | true =>
        refine .inr ⟨rfl, ?_⟩
        have hr0 : r = 0 := Classical.byContradiction fun h => hneg ⟨rfl, h⟩
        rw [← HM3.out, hr0]; rfl
    clear hneg HZQ HEQ HE HSQ
    obtain ⟨⟨_, r0⟩, ⟨_, r1⟩, f0, f1, ⟨_, t0⟩, ⟨_, t1⟩, f2, f3⟩ := HDV.out.res
    go_cut [83] (fun v wx => v = .bool false ∧ wx = w4)
    case first =>
      rcases hgd with rfl | ⟨rfl, rfl⟩
      · go_wp2_with fail
        go_meet
        exact ⟨rfl, rfl⟩
      · go_wp2_with fail
        go_meet
        exact ⟨rfl, rfl⟩
    case rest =>
    obtain ⟨rfl, rfl⟩ := hcut
    go_upto_region 17 with (fail)
    have hPg := HDV.out.hP
    have n1 : ¬ g + 1 = P := by omega
    have n2 : ¬ g + 1 + 1 = P := by omega
    have n3 : ¬ g + 1 + 1 + 1 = P := by omega
    have n4 : ¬ P = g + 1 := by omega
    have n5 : ¬ P = g + 1 + 1 := by omega
    have n6 : ¬ P = g + 1 + 1 + 1 := by omega
    go_region
    obtain ⟨p0, p1, p2, p3, pa, pb, pc⟩ := HDV.out.ends sq false A2 A3 m2 k2 m3 k3 HDV.out.D2 HDV.out.D3
    go_wp2_with fail
    refine bodyPost_ret (v := .tuple #[.agg #[.bool sq, .slice A2 m2 k2], .agg #[.bool false, .slice A3 m3 k3]]) (by simp [results, Tryz.results34, go_sem, p0, p1, p2, p3]) rfl ?_
    refine ⟨_, _, rfl, ?_, ?_, by rw [hg]; exact pc.drew⟩
    · exact zat_of HFIN.out.1.1 (by rw [HFIN.out.1.2]; exact HM2.out) hk2 (by rw [HFIN.out.1.2]; exact pa.drew)
    · exact zat_of HFIN.out.2.1 (by rw [HFIN.out.2.2]; exact HM3.out) hk3 (by rw [HFIN.out.2.2]; exact pb.drew)
end Go.Proofs.YteicddmekhdjeaaGreatDoor
