/- Parts of the proof, one after the other: RefGcd, RefLowest, RefMake, FigMath. -/
import Derived.Test.YteicddmekhdjeaaGreatDoorEm4
import Derived.Lib.ItoaNum
/- cracknelref01.Gcd: the greatest common divisor. -/
namespace Go.Proofs.YteicddmekhdjeaaGreatDoor
open Go.RowKit Go.Sort

/-- Two naturals, by value. -/
def RetN2 (q r : Nat) (w : World) (e : Ending) (w' : World) : Prop := ∃ A n c B m d, e = .returned (.tuple #[.agg #[.bool false, .slice A n c], .agg #[.bool false, .slice B m d]]) ∧ (digs q).length = n ∧ n ≤ c ∧ DigAt w' A (digs q) ∧ (digs r).length = m ∧ m ≤ d ∧ DigAt w' B (digs r) ∧ Below w.heap.size w w'
theorem zat_natForm {w : World} {v : Value} {k : Nat} (h : ZAt w v (k : Int)) : ∃ A n c, v = .agg #[.bool false, .slice A n c] ∧ (digs k).length = n ∧ n ≤ c ∧ DigAt w A (digs k) := by
  obtain ⟨A, c, rfl, hk, hd⟩ := h
  rw [Int.natAbs_natCast] at hk hd
  exact ⟨A, _, c, by rw [Int.natAbs_natCast, show decide ((k : Int) < 0) = false from decide_eq_false (by omega)], rfl, hk, hd⟩
theorem divmodN_any (x y : Nat) (A A' : Option Addr) (n m c c' : Nat) (w : World) (hy : 0 < y) (hn : (digs x).length = n) (hc : n ≤ c) (hx : DigAt w A (digs x)) (hm : (digs y).length = m) (hc' : m ≤ c') (hd : DigAt w A' (digs y)) (hl : n ≤ 15000) (hl' : m ≤ 15000) :
    Calls Tryz.prog 34 #[.agg #[.bool false, .slice A n c], .agg #[.bool false, .slice A' m c']] w (RetN2 (x / y) (x % y) w) :=
  (divmod_any (x : Int) (y : Int) _ _ w (zat_nat hn hc hx) (zat_nat hm hc' hd) (by omega) (by rw [Int.natAbs_natCast, hn]; exact hl) (by rw [Int.natAbs_natCast, hm]; exact hl')).mono fun e w' ⟨v1, v2, he, h1, h2, hb⟩ => by
    rw [← Int.natCast_ediv] at h1
    rw [← Int.natCast_emod] at h2
    obtain ⟨A1, n1, c1, rfl, a1, a2, a3⟩ := zat_natForm h1
    obtain ⟨A2, n2, c2, rfl, b1, b2, b3⟩ := zat_natForm h2
    exact ⟨A1, n1, c1, A2, n2, c2, he, a1, a2, a3, b1, b2, b3, hb⟩
theorem dig_inj {w : World} {A : Option Addr} {xs ys : List Nat} (h1 : DigAt w A xs) (h2 : DigAt w A ys) (hl : xs.length = ys.length) : xs = ys := by
  rcases List.eq_nil_or_concat xs with e | _
  · rw [e] at hl ⊢
    exact (List.eq_nil_of_length_eq_zero hl.symm).symm
  · rename_i hne
    have hx : xs ≠ [] := by obtain ⟨a, b, e⟩ := hne; rw [e]; simp
    have hy : ys ≠ [] := by intro e; rw [e] at hl; exact hx (List.eq_nil_of_length_eq_zero hl)
    obtain ⟨b, off, e1, -, k1⟩ := h1 hx
    obtain ⟨b', off', e2, -, k2⟩ := h2 hy
    rw [e1] at e2
    obtain ⟨rfl, rfl⟩ : b = b' ∧ off = off' := by simpa using e2
    apply List.ext_getElem hl
    intro i h1 h2
    have q1 := k1 i _ (List.getElem?_eq_getElem h1)
    have q2 := k2 i _ (List.getElem?_eq_getElem h2)
    rw [q1] at q2
    have := Option.some.inj q2
    simp at this
    omega
/-- The second number, read from its box. -/
noncomputable def gcdM (g : Nat) (w : World) : Nat := by
  classical exact if h : ∃ y, ∃ s A n c, ZBox w (g + 1) s (.slice A n c) ∧ (digs y).length = n ∧ DigAt w A (digs y) then Classical.choose h else 0
theorem gcdM_eq {g y n c : Nat} {w : World} {s : Bool} {A : Option Addr} (h1 : ZBox w (g + 1) s (.slice A n c)) (h2 : (digs y).length = n) (h3 : DigAt w A (digs y)) : gcdM g w = y := by
  have h : ∃ y, ∃ s A n c, ZBox w (g + 1) s (.slice A n c) ∧ (digs y).length = n ∧ DigAt w A (digs y) := ⟨y, s, A, n, c, h1, h2, h3⟩
  unfold gcdM
  rw [dif_pos h]
  obtain ⟨s', A', n', c', k1, k2, k3⟩ := Classical.choose_spec h
  have e : (some (Obj.cells #[.bool s, .slice A n c] 30 (0, 0))) = some (Obj.cells #[.bool s', .slice A' n' c'] 30 (0, 0)) := (show w.heap[g + 1]? = _ from h1).symm.trans k1
  obtain ⟨-, rfl, rfl, -⟩ : s = s' ∧ A = A' ∧ n = n' ∧ c = c' := by simpa using e
  have := dig_inj k3 h3 (by omega)
  rw [← digs_val (Classical.choose h), this, digs_val]
structure GcS (w : World) (g x y : Nat) (wx : World) : Prop where
  ex : ∃ A1 n1 c1 A2 n2 c2, ZBox wx g false (.slice A1 n1 c1) ∧ (digs x).length = n1 ∧ n1 ≤ c1 ∧ DigAt wx A1 (digs x) ∧ ZBox wx (g + 1) false (.slice A2 n2 c2) ∧ (digs y).length = n2 ∧ n2 ≤ c2 ∧ DigAt wx A2 (digs y)
  R : ∃ r B k d, ZBox wx (g + 1 + 1) r (.slice B k d)
  bel : Below g w wx
theorem gcs_ab {w w1 : World} {g n c m c' n1 c1 n2 c2 x y : Nat} {s t : Bool} {A A' A1 A2 : Option Addr} (h : OpenZ w w1 g s (.slice A n c) t (.slice A' m c')) (h1 : (digs x).length = n1) (h2 : n1 ≤ c1) (h3 : DigAt w1 A1 (digs x)) (k1 : (digs y).length = n2) (k2 : n2 ≤ c2) (k3 : DigAt w1 A2 (digs y)) :
    GcS w g x y ((((w1.setCell ⟨g, 0, none⟩ (.bool false)).setCell ⟨g, 1, none⟩ (.slice A1 n1 c1)).setCell ⟨g + 1, 0, none⟩ (.bool false)).setCell ⟨g + 1, 1, none⟩ (.slice A2 n2 c2)) := by
  obtain ⟨r, B, k, d, hr⟩ := h.R
  have b1 := (h.B.far (p := ⟨g, 0, none⟩) (by show g + 1 ≠ g; omega) (.bool false)).far (p := ⟨g, 1, none⟩) (by show g + 1 ≠ g; omega) (.slice A1 n1 c1)
  have D : ∀ {A : Option Addr} {xs : List Nat}, DigAt w1 A xs → DigAt ((((w1.setCell ⟨g, 0, none⟩ (.bool false)).setCell ⟨g, 1, none⟩ (.slice A1 n1 c1)).setCell ⟨g + 1, 0, none⟩ (.bool false)).setCell ⟨g + 1, 1, none⟩ (.slice A2 n2 c2)) A xs := fun ha =>
    (((ha.box h.A (p := ⟨g, 0, none⟩) rfl _).box (h.A.put0 false) (p := ⟨g, 1, none⟩) rfl _).box b1 (p := ⟨g + 1, 0, none⟩) rfl _).box (b1.put0 false) (p := ⟨g + 1, 1, none⟩) rfl _
  refine ⟨⟨A1, n1, c1, A2, n2, c2, ?_, h1, h2, D h3, (b1.put0 false).put1 _, k1, k2, D k3⟩, ⟨r, B, k, d, ?_⟩, ?_⟩
  · exact (((h.A.put0 false).put1 _).far (p := ⟨g + 1, 0, none⟩) (by show g ≠ g + 1; omega) _).far (p := ⟨g + 1, 1, none⟩) (by show g ≠ g + 1; omega) _
  · exact (((hr.far (p := ⟨g, 0, none⟩) (by show g + 1 + 1 ≠ g; omega) _).far (p := ⟨g, 1, none⟩) (by show g + 1 + 1 ≠ g; omega) _).far (p := ⟨g + 1, 0, none⟩) (by show g + 1 + 1 ≠ g + 1; omega) _).far (p := ⟨g + 1, 1, none⟩) (by show g + 1 + 1 ≠ g + 1; omega) _
  · exact (((h.bel.setCell (p := ⟨g, 0, none⟩) (Nat.le_refl _) _).setCell (p := ⟨g, 1, none⟩) (Nat.le_refl _) _).setCell (p := ⟨g + 1, 0, none⟩) (by show g ≤ g + 1; omega) _).setCell (p := ⟨g + 1, 1, none⟩) (by show g ≤ g + 1; omega) _
theorem gcs_ba {w w1 : World} {g n c m c' n1 c1 n2 c2 x y : Nat} {s t : Bool} {A A' A1 A2 : Option Addr} (h : OpenZ w w1 g s (.slice A n c) t (.slice A' m c')) (h1 : (digs x).length = n1) (h2 : n1 ≤ c1) (h3 : DigAt w1 A1 (digs x)) (k1 : (digs y).length = n2) (k2 : n2 ≤ c2) (k3 : DigAt w1 A2 (digs y)) :
    GcS w g x y ((((w1.setCell ⟨g + 1, 0, none⟩ (.bool false)).setCell ⟨g + 1, 1, none⟩ (.slice A2 n2 c2)).setCell ⟨g, 0, none⟩ (.bool false)).setCell ⟨g, 1, none⟩ (.slice A1 n1 c1)) := by
  obtain ⟨r, B, k, d, hr⟩ := h.R
  have b1 := (h.A.far (p := ⟨g + 1, 0, none⟩) (by show g ≠ g + 1; omega) (.bool false)).far (p := ⟨g + 1, 1, none⟩) (by show g ≠ g + 1; omega) (.slice A2 n2 c2)
  have D : ∀ {A : Option Addr} {xs : List Nat}, DigAt w1 A xs → DigAt ((((w1.setCell ⟨g + 1, 0, none⟩ (.bool false)).setCell ⟨g + 1, 1, none⟩ (.slice A2 n2 c2)).setCell ⟨g, 0, none⟩ (.bool false)).setCell ⟨g, 1, none⟩ (.slice A1 n1 c1)) A xs := fun ha =>
    (((ha.box h.B (p := ⟨g + 1, 0, none⟩) rfl _).box (h.B.put0 false) (p := ⟨g + 1, 1, none⟩) rfl _).box b1 (p := ⟨g, 0, none⟩) rfl _).box (b1.put0 false) (p := ⟨g, 1, none⟩) rfl _
  refine ⟨⟨A1, n1, c1, A2, n2, c2, (b1.put0 false).put1 _, h1, h2, D h3, ?_, k1, k2, D k3⟩, ⟨r, B, k, d, ?_⟩, ?_⟩
  · exact (((h.B.put0 false).put1 _).far (p := ⟨g, 0, none⟩) (by show g + 1 ≠ g; omega) _).far (p := ⟨g, 1, none⟩) (by show g + 1 ≠ g; omega) _
  · exact (((hr.far (p := ⟨g + 1, 0, none⟩) (by show g + 1 + 1 ≠ g + 1; omega) _).far (p := ⟨g + 1, 1, none⟩) (by show g + 1 + 1 ≠ g + 1; omega) _).far (p := ⟨g, 0, none⟩) (by show g + 1 + 1 ≠ g; omega) _).far (p := ⟨g, 1, none⟩) (by show g + 1 + 1 ≠ g; omega) _
  · exact (((h.bel.setCell (p := ⟨g + 1, 0, none⟩) (by show g ≤ g + 1; omega) _).setCell (p := ⟨g + 1, 1, none⟩) (by show g ≤ g + 1; omega) _).setCell (p := ⟨g, 0, none⟩) (Nat.le_refl _) _).setCell (p := ⟨g, 1, none⟩) (Nat.le_refl _) _
theorem GcS.drew {w wx : World} {g x y : Nat} (h : GcS w g x y wx) : GcS w g x y wx.drew := ⟨h.ex, h.R, h.bel.drew⟩
theorem GcS.open {w wx : World} {g x y : Nat} (h : GcS w g x y wx) : ∃ A1 n1 c1 A2 n2 c2, OpenZ w wx g false (.slice A1 n1 c1) false (.slice A2 n2 c2) ∧ (digs x).length = n1 ∧ n1 ≤ c1 ∧ DigAt wx A1 (digs x) ∧ (digs y).length = n2 ∧ n2 ≤ c2 ∧ DigAt wx A2 (digs y) := by
  obtain ⟨A1, n1, c1, A2, n2, c2, a, b, c, d, e, f, i, j⟩ := h.ex
  exact ⟨A1, n1, c1, A2, n2, c2, ⟨a, e, h.R, h.bel⟩, b, c, d, f, i, j⟩

set_option maxRecDepth 100000 in
set_option maxHeartbeats 4000000 in
theorem gcdZ_any (x y : Int) (v u : Value) (w : World) (hx : ZAt w v x) (hy : ZAt w u y) (hlx : (digs x.natAbs).length ≤ 15000) (hly : (digs y.natAbs).length ≤ 15000) :
    Calls Tryz.prog 33 #[v, u] w (RetZN (Nat.gcd x.natAbs y.natAbs) w) := by
  obtain ⟨A, c, rfl, hxk, hxa⟩ := hx
  obtain ⟨A', c', rfl, hyk, hya⟩ := hy
  generalize hg : w.heap.size = g
  generalize decide (x < 0) = s at *
  generalize decide (y < 0) = t at *
  generalize x.natAbs = N at *
  generalize y.natAbs = M at *
  obtain ⟨n, hn⟩ : ∃ n, (digs N).length = n := ⟨_, rfl⟩
  obtain ⟨m, hm⟩ : ∃ m, (digs M).length = m := ⟨_, rfl⟩
  have hnl : n ≤ 15000 := by omega
  have hml : m ≤ 15000 := by omega
  have A1 := fun V (h : Below g w V) => Lib.hid (abs_any s A n c (digs N) V hn (by omega) (hxa.kept hg h))
  have A2 := fun V (h : Below g w V) => Lib.hid (abs_any t A' m c' (digs M) V hm (by omega) (hya.kept hg h))
  have HNM := Lib.hid (And.intro hn hm)
  rw [hn, hm]
  have O0 := OpenZ.new (w := w) (n := n) (c := c) (m := m) (c' := c') (s := s) (t := t) (A := A) (A' := A') hg
  clear hxa hya hn hm hxk hyk hlx hly
  go_enter Tryz.func33, Tryz.ntmps33
  go_upto_region 1 with (fail)
  generalize ((w.alloc (.cells #[.bool s, .slice A n c] 30)).alloc (.cells #[.bool t, .slice A' m c'] 30)).alloc (.cells #[.bool false, .slice none 0 0] 30) = w0 at *
  go_cut [8] from 7 to 10 (fun _ wx => GcS w g N M wx)
  case first =>
    have HO0 := Lib.hid O0
    obtain ⟨c0, c1, c2, c3, -⟩ := O0.held
    clear O0
    go_region_with (first | (go_at_call 66; (with_reducible refine ((A1 _ ?_).out).mono ?_); (first | exact HO0.out.bel | exact HO0.out.bel.drew); rintro e w2 ⟨B1, d1, rfl, hd1, hat1, hb1⟩; have O1 : OpenZ w w2 g s (.slice A n c) t (.slice A' m c') := (by first | exact HO0.out.below hb1 | exact HO0.out.drew.below hb1); have HO1 := Lib.hid O1; have HAT1 := Lib.hid hat1; clear c0 c1 c2 c3 hb1 hat1; obtain ⟨c0, c1, c2, c3, -⟩ := O1.held; clear O1) | (go_at_call 66; (with_reducible refine ((A2 _ ?_).out).mono ?_); (first | exact HO1.out.bel | exact HO1.out.bel.drew); rintro e w3 ⟨B2, d2, rfl, hd2, hat2, hb2⟩; have O2 : OpenZ w w3 g s (.slice A n c) t (.slice A' m c') := (by first | exact HO1.out.below hb2 | exact HO1.out.drew.below hb2); have HO2 := Lib.hid O2; have HAT12 : Hid (DigAt w3 B1 (digs N)) := Lib.hid (by first | exact HAT1.out.below hb2 | exact HAT1.out.drew.below hb2); have HAT2 := Lib.hid hat2; clear c0 c1 c2 c3 hb2 hat2; obtain ⟨c0, c1, c2, c3, -⟩ := O2.held; have f0 := O2.A.frozen 0; have f1 := O2.A.frozen 1; have f2 := O2.B.frozen 0; have f3 := O2.B.frozen 1; clear O2))
    all_goals (go_wp2_with fail; go_meet)
    all_goals first | exact gcs_ab HO2.out rfl hd1 HAT12.out rfl hd2 HAT2.out | exact (gcs_ab HO2.out rfl hd1 HAT12.out rfl hd2 HAT2.out).drew
  case rest =>
    have HC0 := Lib.hid hcut
    clear hcut O0 A1 A2
    go_upto_block 0 with (fail)
    go_cut [5] (fun _ wx => GcS w g (Nat.gcd N M) 0 wx)
    case first =>
      go_wp2_with fail
      go_loopw [5, 6] (fun _ _ wr => ∃ x y, GcS w g x y wr ∧ Nat.gcd x y = Nat.gcd N M ∧ (digs x).length ≤ 15000 ∧ (digs y).length ≤ 15000) (fun _ _ wr => gcdM g wr)
      case atStart => exact ⟨N, M, HC0.out, rfl, by rw [HNM.out.1]; exact hnl, by rw [HNM.out.2]; exact hml⟩
      case round =>
      clear HC0
      obtain ⟨x, y, hs, hgc, hlx, hly⟩ := hrel
      have HS := Lib.hid hs
      have HGC := Lib.hid hgc
      obtain ⟨A1, n1, c1, A2, n2, c2, O1, hn1, hc1, hat1, hn2, hc2, hat2⟩ := hs.open
      obtain ⟨d0, d1, d2, d3, -⟩ := O1.held
      clear hs hgc
      by_cases hy : y = 0
      · subst hy
        obtain rfl : n2 = 0 := by rw [← hn2]; rfl
        have HX : Hid (x = Nat.gcd N M) := Lib.hid (by rw [← HGC.out, Nat.gcd_zero_right])
        go_wp2_with fail
        go_meet
        rw [← HX.out]
        exact HS.out
      · have hn2p : 0 < n2 := by
          rw [← hn2]
          exact List.length_pos_iff.2 fun e => hy (digs_nil.1 e)
        have HO1 := Lib.hid O1
        have HY := Lib.hid hy
        have DM := Lib.hid (divmodN_any x y A1 A2 n1 n2 c1 c2 wr (by omega) hn1 hc1 hat1 hn2 hc2 hat2 (by omega) (by omega))
        have HM1 := Lib.hid (gcdM_eq O1.B hn2 hat2)
        have HN2 := Lib.hid hn2
        have HAT2 := Lib.hid hat2
        have hgw : g + 1 + 1 < wr.heap.size := by obtain ⟨r, B, k, d, hr⟩ := O1.R; exact hr.lt
        clear hn1 hat1 hn2 hat2 O1 hy
        go_upto_region 4 with (go_at_call 34; refine (DM.out).mono ?_; rintro e w2 ⟨B1, m1, k1, B2, m2, k2, rfl, hm1, hk1, hb1, hm2, hk2, hb2, hbel⟩; have HM2 := Lib.hid hm2; have HB2 := Lib.hid hb2; have HBEL := Lib.hid hbel; clear hm1 hk1 hb1 hm2 hb2 hbel d0 d1 d2 d3)
        have hbA := ((Below.refl w2.heap.size w2).alloc (Nat.le_refl _) (.cells #[.bool false, .slice B1 m1 k1] 30)).alloc (by simp) (.cells #[.bool false, .slice B2 m2 k2] 30)
        have O2 := (HO1.out.below HBEL.out).below hbA
        have p2 := ZBox.new (w2.alloc (.cells #[.bool false, .slice B1 m1 k1] 30)) false (.slice B2 m2 k2)
        rw [World.size_alloc] at p2
        have HD2 := Lib.hid ((HAT2.out.below HBEL.out).below hbA)
        have HD3 := Lib.hid (HB2.out.below hbA)
        have hsz := HBEL.out.size
        clear hbA HBEL HB2 HAT2
        generalize (w2.alloc (.cells #[.bool false, .slice B1 m1 k1] 30)).alloc (.cells #[.bool false, .slice B2 m2 k2] 30) = w3 at *
        generalize hP : w2.heap.size = P at *
        have HO2 := Lib.hid O2
        obtain ⟨d0, d1, d2, d3, -⟩ := O2.held
        have f0 := O2.A.frozen 0
        have f1 := O2.A.frozen 1
        have f2 := O2.B.frozen 0
        have f3 := O2.B.frozen 1
        obtain ⟨p0, p1⟩ := p2.cells
        have n1' : ¬ g = P + 1 := by omega
        have n2' : ¬ g = P := by omega
        have n3' : ¬ P + 1 = g := by omega
        have n4' : ¬ P = g := by omega
        clear O2 p2 hP hsz
        go_region
        all_goals go_wp2_with fail
        have hG : GcS w g y (x % y) ((((w3.setCell ⟨g, 0, none⟩ (.bool false)).setCell ⟨g, 1, none⟩ (.slice A2 n2 c2)).setCell ⟨g + 1, 0, none⟩ (.bool false)).setCell ⟨g + 1, 1, none⟩ (.slice B2 m2 k2)).drew := (gcs_ab HO2.out HN2.out hc2 HD2.out HM2.out hk2 HD3.out).drew
        obtain ⟨_, _, _, _, _, _, O3, -, -, -, j1, -, j2⟩ := hG.open
        refine ⟨⟨y, x % y, hG, ?_, hly, ?_⟩, ?_⟩
        · rw [Nat.gcd_comm, ← Nat.gcd_rec, Nat.gcd_comm]; exact HGC.out
        · have h1 := digs_lt HN2.out
          have h2 := Nat.mod_lt x (show 0 < y by have := HY.out; omega)
          have h3 := digs_len (Nat.lt_trans h2 h1)
          rw [← HN2.out] at h3
          omega
        · rw [gcdM_eq O3.B j1 j2, HM1.out]
          exact Nat.mod_lt x (by have := HY.out; omega)
    case rest =>
      clear HC0
      obtain ⟨A1, n1, c1, A2, n2, c2, O1, hn1, hc1, hat1, -, -, -⟩ := hcut.open
      obtain ⟨d0, d1, d2, d3, -⟩ := O1.held
      obtain ⟨⟨_, r0⟩, ⟨_, r1⟩, f0, f1⟩ := O1.res
      obtain ⟨p0, p1, pb⟩ := O1.stored false A1 n1 c1
      have HD := Lib.hid (O1.dig hat1 false A1 n1 c1)
      have HN1 := Lib.hid hn1
      clear hcut hat1 hn1 O1
      go_wp2_with fail
      refine bodyPost_ret (v := .agg #[.bool false, .slice A1 n1 c1]) (by simp [results, Tryz.results33, go_sem, p0, p1]) rfl ?_
      exact ⟨A1, n1, c1, rfl, HN1.out, hc1, HD.out, by rw [hg]; exact pb⟩
end Go.Proofs.YteicddmekhdjeaaGreatDoor

/- cracknelref01.Lowest: a fraction in lowest terms. -/
namespace Go.Proofs.YteicddmekhdjeaaGreatDoor
open Go.RowKit Go.Sort

/-- A fraction's struct in a block. -/
def QBox (w : World) (g : Nat) (b1 : Bool) (v1 : Value) (b2 : Bool) (v2 : Value) : Prop := w.heap[g]? = some (.cells #[.bool b1, v1, .bool b2, v2] 32 (0, 0))
section
variable {w w' : World} {g : Nat} {b1 b2 : Bool} {v1 v2 : Value}
theorem QBox.lt (h : QBox w g b1 v1 b2 v2) : g < w.heap.size := (Array.getElem?_eq_some_iff.1 h).1
theorem QBox.below (h : QBox w g b1 v1 b2 v2) {B : Nat} (hb : Below B w w') (hg : g < B) : QBox w' g b1 v1 b2 v2 := (hb.block g hg).trans h
theorem QBox.alloc (h : QBox w g b1 v1 b2 v2) (o : Obj) : QBox (w.alloc o) g b1 v1 b2 v2 := (Below.heap_alloc w o g h.lt).trans h
theorem QBox.new (w : World) (b1 b2 : Bool) (v1 v2 : Value) : QBox (w.alloc (.cells #[.bool b1, v1, .bool b2, v2] 32)) w.heap.size b1 v1 b2 v2 := heap_alloc_new _ _
theorem QBox.cells (h : QBox w g b1 v1 b2 v2) : w.cell? ⟨g, 0, none⟩ = some (.bool b1) ∧ w.cell? ⟨g, 1, none⟩ = some v1 ∧ w.cell? ⟨g, 2, none⟩ = some (.bool b2) ∧ w.cell? ⟨g, 3, none⟩ = some v2 := by
  refine ⟨?_, ?_, ?_, ?_⟩
  · rw [cell_of_row w g 0 _ _ (0, 0) h]; rfl
  · rw [cell_of_row w g 1 _ _ (0, 0) h]; rfl
  · rw [cell_of_row w g 2 _ _ (0, 0) h]; rfl
  · rw [cell_of_row w g 3 _ _ (0, 0) h]; rfl
theorem QBox.frozen (h : QBox w g b1 v1 b2 v2) (i : Nat) : w.frozen? ⟨g, i, none⟩ = false := by simp [World.frozen?, show w.heap[g]? = _ from h]
end
/-- A store of a fraction: what lies in its cells, and what digits lay elsewhere. -/
theorem QBox.put {w : World} {g : Nat} {b1 b2 : Bool} {B1 B2 : Option Addr} {k1 d1 k2 d2 : Nat} (h : QBox w g b1 (.slice B1 k1 d1) b2 (.slice B2 k2 d2)) (s t : Bool) (u v : Value) :
    QBox ((((w.setCell ⟨g, 0, none⟩ (.bool s)).setCell ⟨g, 1, none⟩ u).setCell ⟨g, 2, none⟩ (.bool t)).setCell ⟨g, 3, none⟩ v) g s u t v ∧
    (∀ {A : Option Addr} {xs : List Nat}, DigAt w A xs → DigAt ((((w.setCell ⟨g, 0, none⟩ (.bool s)).setCell ⟨g, 1, none⟩ u).setCell ⟨g, 2, none⟩ (.bool t)).setCell ⟨g, 3, none⟩ v) A xs) ∧
    (∀ {w0 : World} {B : Nat}, Below B w0 w → B ≤ g → Below B w0 ((((w.setCell ⟨g, 0, none⟩ (.bool s)).setCell ⟨g, 1, none⟩ u).setCell ⟨g, 2, none⟩ (.bool t)).setCell ⟨g, 3, none⟩ v)) := by
  refine ⟨?_, fun {A xs} ha hne => ?_, fun hb hB => (((hb.setCell (p := ⟨g, 0, none⟩) hB _).setCell (p := ⟨g, 1, none⟩) hB _).setCell (p := ⟨g, 2, none⟩) hB _).setCell (p := ⟨g, 3, none⟩) hB _⟩
  · have e : w.heap[g]? = _ := h
    unfold QBox
    simp [World.setCell, Array.getElem?_modify, e]
  · obtain ⟨b, off, e, hlt, hc⟩ := ha hne
    have hb : b ≠ g := by
      rintro rfl
      have h0 := hc 0 _ (List.getElem?_eq_getElem (List.length_pos_iff.2 hne))
      rw [cell_of_row w b (off + 0) _ _ (0, 0) h] at h0
      rcases Nat.lt_or_ge off 4 with q | q
      · rcases (show off = 0 ∨ off = 1 ∨ off = 2 ∨ off = 3 by omega) with rfl | rfl | rfl | rfl <;> simp at h0
      · rw [Array.getElem?_eq_none (by simp; omega)] at h0
        cases h0
    have hf : ∀ p : Addr, p.block = g → ∀ a, A = some a → a.block ≠ p.block := fun p hp a ha => by rw [hp]; rw [e] at ha; obtain rfl := Option.some.inj ha; exact hb
    have d0 : DigAt w A xs := ha
    exact ((((d0.far (p := ⟨g, 0, none⟩) (hf _ rfl) _).far (p := ⟨g, 1, none⟩) (hf _ rfl) _).far (p := ⟨g, 2, none⟩) (hf _ rfl) _).far (p := ⟨g, 3, none⟩) (hf _ rfl) _) hne

/-- A fraction, by value. -/
def QAt (w : World) (v : Value) (x y : Int) : Prop := ∃ b1 A1 n1 c1 b2 A2 n2 c2, v = .agg #[.bool b1, .slice A1 n1 c1, .bool b2, .slice A2 n2 c2] ∧
  (decide (x < 0) = b1 ∧ (digs x.natAbs).length = n1 ∧ n1 ≤ c1 ∧ DigAt w A1 (digs x.natAbs)) ∧ (decide (y < 0) = b2 ∧ (digs y.natAbs).length = n2 ∧ n2 ≤ c2 ∧ DigAt w A2 (digs y.natAbs))
def RetQ (x y : Int) (w : World) (e : Ending) (w' : World) : Prop := ∃ v, e = .returned v ∧ QAt w' v x y ∧ Below w.heap.size w w'
theorem QAt.below {w w' : World} {v : Value} {x y : Int} (h : QAt w v x y) (hb : Below w.heap.size w w') : QAt w' v x y := by
  obtain ⟨b1, A1, n1, c1, b2, A2, n2, c2, e, ⟨h1, h2, h3, h4⟩, h5, h6, h7, h8⟩ := h
  exact ⟨b1, A1, n1, c1, b2, A2, n2, c2, e, ⟨h1, h2, h3, h4.below hb⟩, h5, h6, h7, h8.below hb⟩
/-- Two numbers, with all parts of their values named. -/
def RetV2 (q r : Int) (V : World) (e : Ending) (w' : World) : Prop := ∃ b A n c b' A' n' c', e = .returned (.tuple #[.agg #[.bool b, .slice A n c], .agg #[.bool b', .slice A' n' c']]) ∧ (decide (q < 0) = b ∧ (digs q.natAbs).length = n ∧ n ≤ c ∧ DigAt w' A (digs q.natAbs)) ∧ (decide (r < 0) = b' ∧ (digs r.natAbs).length = n' ∧ n' ≤ c' ∧ DigAt w' A' (digs r.natAbs)) ∧ Below V.heap.size V w'
theorem divmodV_any (x y : Int) (v u : Value) (w : World) (hx : ZAt w v x) (hy : ZAt w u y) (hpos : 0 < y) (hlx : (digs x.natAbs).length ≤ 15000) (hly : (digs y.natAbs).length ≤ 15000) :
    Calls Tryz.prog 34 #[v, u] w (RetV2 (x / y) (x % y) w) :=
  (divmod_any x y v u w hx hy hpos hlx hly).mono fun e w' ⟨v1, v2, he, ⟨A, c, h1, h2, h3⟩, ⟨A', c', k1, k2, k3⟩, hb⟩ => by
    subst h1 k1
    exact ⟨_, A, _, c, _, A', _, c', he, ⟨rfl, rfl, h2, h3⟩, ⟨rfl, rfl, k2, k3⟩, hb⟩
theorem digs_len_le {x y n : Nat} (h : x ≤ y) (hn : (digs y).length = n) : (digs x).length ≤ n := digs_len (Nat.lt_of_le_of_lt h (digs_lt hn))

set_option maxRecDepth 100000 in
set_option maxHeartbeats 4000000 in
theorem lowest_any (x y : Int) (v : Value) (w : World) (hq : QAt w v x y) (hpos : 0 < y) (hlx : (digs x.natAbs).length ≤ 15000) (hly : (digs y.natAbs).length ≤ 15000) :
    Calls Tryz.prog 17 #[v] w (RetQ (x / (Nat.gcd x.natAbs y.natAbs : Nat)) (y / (Nat.gcd x.natAbs y.natAbs : Nat)) w) := by
  obtain ⟨b1, A1, n1, c1, b2, A2, n2, c2, rfl, ⟨hb1, hn1, hc1, hx⟩, hb2, hn2, hc2, hy⟩ := hq
  generalize hg : w.heap.size = g
  have hG0 : 0 < Nat.gcd x.natAbs y.natAbs := Nat.gcd_pos_of_pos_right _ (by omega)
  have hGy : Nat.gcd x.natAbs y.natAbs ≤ y.natAbs := Nat.gcd_le_right _ (by omega)
  have GC := fun V (h : Below g w V) => Lib.hid (gcdZ_any x y (.agg #[.bool b1, .slice A1 n1 c1]) (.agg #[.bool b2, .slice A2 n2 c2]) V (zat_of hb1 hn1 hc1 (hx.kept hg h)) (zat_of hb2 hn2 hc2 (hy.kept hg h)) hlx hly)
  have hGl := digs_len_le hGy hn2
  have D1 := fun V A3 n3 c3 (hn3 : (digs (Nat.gcd x.natAbs y.natAbs)).length = n3) h3 h4 (h : Below g w V) => Lib.hid (divmodV_any x (Nat.gcd x.natAbs y.natAbs : Nat) (.agg #[.bool b1, .slice A1 n1 c1]) (.agg #[.bool false, .slice A3 n3 c3]) V (zat_of hb1 hn1 hc1 (hx.kept hg h)) (zat_nat hn3 h3 h4) (by omega) hlx (by rw [Int.natAbs_natCast]; omega))
  have D2 := fun V A3 n3 c3 (hn3 : (digs (Nat.gcd x.natAbs y.natAbs)).length = n3) h3 h4 (h : Below g w V) => Lib.hid (divmodV_any y (Nat.gcd x.natAbs y.natAbs : Nat) (.agg #[.bool b2, .slice A2 n2 c2]) (.agg #[.bool false, .slice A3 n3 c3]) V (zat_of hb2 hn2 hc2 (hy.kept hg h)) (zat_nat hn3 h3 h4) (by omega) hly (by rw [Int.natAbs_natCast]; omega))
  generalize Nat.gcd x.natAbs y.natAbs = G at *
  clear hx hy hb1 hn1 hb2 hn2 hlx hly hG0 hGy hGl
  have hb0 := ((Below.refl w.heap.size w).alloc (Nat.le_refl _) (.cells #[.bool b1, .slice A1 n1 c1, .bool b2, .slice A2 n2 c2] 32)).alloc (by simp) (.cells #[.bool false, .slice none 0 0, .bool false, .slice none 0 0] 32)
  have q0 := (QBox.new w b1 b2 (.slice A1 n1 c1) (.slice A2 n2 c2)).alloc (.cells #[.bool false, .slice none 0 0, .bool false, .slice none 0 0] 32)
  have q1 := QBox.new (w.alloc (.cells #[.bool b1, .slice A1 n1 c1, .bool b2, .slice A2 n2 c2] 32)) false false (.slice none 0 0) (.slice none 0 0)
  rw [World.size_alloc, hg] at q1
  rw [hg] at q0 hb0
  go_enter Tryz.func17, Tryz.ntmps17
  go_upto_region 1 with (fail)
  generalize (w.alloc (.cells #[.bool b1, .slice A1 n1 c1, .bool b2, .slice A2 n2 c2] 32)).alloc (.cells #[.bool false, .slice none 0 0, .bool false, .slice none 0 0] 32) = w0 at *
  obtain ⟨c0, c1', c2', c3⟩ := q0.cells
  have HQ0 := Lib.hid q0
  have HQ1 := Lib.hid q1
  have HB0 := Lib.hid hb0
  have hs0 := q1.lt
  clear q0 q1 hb0
  go_upto_region 2 with (go_at_call 33; refine ((GC _ HB0.out).out).mono ?_; rintro e w1 ⟨A3, n3, k3, rfl, hn3, hk3, hd3, hbl⟩; have HN3 := Lib.hid hn3; have HD3 := Lib.hid hd3; have HBL := Lib.hid hbl; clear hn3 hd3 hbl c0 c1' c2' c3)
  have hbA := (Below.refl w1.heap.size w1).alloc (Nat.le_refl _) (.cells #[.bool false, .slice A3 n3 k3] 30)
  have E1 := HBL.out.trans (hbA.mono HBL.out.size)
  have z1 := ZBox.new w1 false (.slice A3 n3 k3)
  have HD31 := Lib.hid (HD3.out.below hbA)
  have hs1 := HBL.out.size
  clear HD3 HBL hbA
  generalize w1.alloc (.cells #[.bool false, .slice A3 n3 k3] 30) = w2 at *
  generalize w1.heap.size = P at *
  have HQ01 := Lib.hid (HQ0.out.below E1 (by omega))
  have HQ11 := Lib.hid (HQ1.out.below E1 hs0)
  have HB1 := Lib.hid (HB0.out.trans (E1.mono (by omega)))
  have HZ1 := Lib.hid z1
  have hP2 := z1.lt
  clear E1 z1 HQ0 HQ1 HB0
  obtain ⟨c0, c1', c2', c3⟩ := HQ01.out.cells
  obtain ⟨d0, d1⟩ := HZ1.out.cells
  go_upto_region 3 with (go_at_call 34; refine ((D1 _ _ _ _ HN3.out hk3 HD31.out HB1.out).out).mono ?_; rintro e w3 ⟨s4, A4, n4, k4, s5, A5, n5, k5, rfl, ⟨hs4, hn4, hk4, hd4⟩, -, hbl⟩; have HN4 := Lib.hid (And.intro hs4 hn4); have HD4 := Lib.hid hd4; have HBL := Lib.hid hbl; clear hs4 hn4 hd4 hbl c0 c1' c2' c3 d0 d1)
  have hbA := ((Below.refl w3.heap.size w3).alloc (Nat.le_refl _) (.cells #[.bool s4, .slice A4 n4 k4] 30)).alloc (by simp) (.cells #[.bool s5, .slice A5 n5 k5] 30)
  have E2 := HBL.out.trans (hbA.mono HBL.out.size)
  have z2 := (ZBox.new w3 s4 (.slice A4 n4 k4)).alloc (.cells #[.bool s5, .slice A5 n5 k5] 30)
  have HD41 := Lib.hid (HD4.out.below hbA)
  have hs2 := HBL.out.size
  clear HD4 HBL hbA
  generalize (w3.alloc (.cells #[.bool s4, .slice A4 n4 k4] 30)).alloc (.cells #[.bool s5, .slice A5 n5 k5] 30) = w4 at *
  generalize w3.heap.size = P2 at *
  have HQ02 := Lib.hid (HQ01.out.below E2 (by have := HQ01.out.lt; omega))
  have HQ12 := Lib.hid (HQ11.out.below E2 HQ11.out.lt)
  have HB2 := Lib.hid (HB1.out.trans (E2.mono (by have := HB1.out.size; omega)))
  have HZ12 := Lib.hid (HZ1.out.below E2 hP2)
  have HD32 := Lib.hid (HD31.out.below E2)
  have HZ2 := Lib.hid z2
  have hP4 := z2.lt
  have hg4 := HQ12.out.lt
  clear E2 z2 HQ01 HQ11 HB1 HZ1 HD31
  obtain ⟨c0, c1', c2', c3⟩ := HQ02.out.cells
  obtain ⟨d0, d1⟩ := HZ12.out.cells
  go_upto_region 4 with (go_at_call 34; refine ((D2 _ _ _ _ HN3.out hk3 HD32.out HB2.out).out).mono ?_; rintro e w5 ⟨s6, A6, n6, k6, s7, A7, n7, k7, rfl, ⟨hs6, hn6, hk6, hd6⟩, -, hbl⟩; have HN6 := Lib.hid (And.intro hs6 hn6); have HD6 := Lib.hid hd6; have HBL := Lib.hid hbl; clear hs6 hn6 hd6 hbl c0 c1' c2' c3 d0 d1)
  have hbA := ((Below.refl w5.heap.size w5).alloc (Nat.le_refl _) (.cells #[.bool s6, .slice A6 n6 k6] 30)).alloc (by simp) (.cells #[.bool s7, .slice A7 n7 k7] 30)
  have E3 := HBL.out.trans (hbA.mono HBL.out.size)
  have z3 := (ZBox.new w5 s6 (.slice A6 n6 k6)).alloc (.cells #[.bool s7, .slice A7 n7 k7] 30)
  have HD61 := Lib.hid (HD6.out.below hbA)
  have hs3 := HBL.out.size
  clear HD6 HBL hbA
  generalize (w5.alloc (.cells #[.bool s6, .slice A6 n6 k6] 30)).alloc (.cells #[.bool s7, .slice A7 n7 k7] 30) = w6 at *
  generalize w5.heap.size = P3 at *
  have q3 := HQ12.out.below E3 hg4
  have HB3 := Lib.hid (HB2.out.trans (E3.mono (by have := HB2.out.size; omega)))
  have z23 := HZ2.out.below E3 hP4
  have HD42 := Lib.hid (HD41.out.below E3)
  clear E3 HQ02 HQ12 HB2 HZ12 HD32 HZ2 HD41
  obtain ⟨e0, e1⟩ := z23.cells
  obtain ⟨e2, e3⟩ := z3.cells
  obtain ⟨r0, r1, r2, r3⟩ := q3.cells
  have f0 := q3.frozen 0
  have f1 := q3.frozen 1
  have f2 := q3.frozen 2
  have f3 := q3.frozen 3
  obtain ⟨pq, pd, pb⟩ := q3.put s4 s6 (.slice A4 n4 k4) (.slice A6 n6 k6)
  obtain ⟨p0, p1, p2, p3⟩ := pq.cells
  have HD43 := Lib.hid (pd HD42.out)
  have HD63 := Lib.hid (pd HD61.out)
  have HB4 := Lib.hid (pb HB3.out (by omega))
  clear q3 z23 z3 pq pd pb
  go_wp2_with fail
  refine bodyPost_ret (v := .agg #[.bool s4, .slice A4 n4 k4, .bool s6, .slice A6 n6 k6]) (by simp [results, Tryz.results17, go_sem, p0, p1, p2, p3]) rfl ?_
  exact ⟨_, rfl, ⟨s4, A4, n4, k4, s6, A6, n6, k6, rfl, ⟨HN4.out.1, HN4.out.2, hk4, HD43.out⟩, HN6.out.1, HN6.out.2, hk6, HD63.out⟩, by rw [hg]; exact HB4.out⟩
end Go.Proofs.YteicddmekhdjeaaGreatDoor

/- cracknelref01.Over and Make: quotients of integers. -/
namespace Go.Proofs.YteicddmekhdjeaaGreatDoor
open Go.RowKit Go.Sort

structure OvO (w w' : World) (g : Nat) (s : Bool) (A : Option Addr) (n c : Nat) (t : Bool) (A' : Option Addr) (m c' : Nat) : Prop where
  A : ZBox w' g s (.slice A n c)
  B : ZBox w' (g + 1) t (.slice A' m c')
  R : ∃ b1 B1 k1 d1 b2 B2 k2 d2, QBox w' (g + 1 + 1) b1 (.slice B1 k1 d1) b2 (.slice B2 k2 d2)
  bel : Below g w w'
section
variable {w w1 w2 : World} {g n c m c' : Nat} {s t : Bool} {A A' : Option Addr}
theorem OvO.below (h : OvO w w1 g s A n c t A' m c') (hb : Below w1.heap.size w1 w2) : OvO w w2 g s A n c t A' m c' := by
  obtain ⟨b1, B1, k1, d1, b2, B2, k2, d2, hr⟩ := h.R
  have := hr.lt
  exact ⟨h.A.below hb (by omega), h.B.below hb (by omega), ⟨b1, B1, k1, d1, b2, B2, k2, d2, hr.below hb hr.lt⟩, h.bel.trans (hb.mono (by omega))⟩
theorem OvO.drew (h : OvO w w1 g s A n c t A' m c') : OvO w w1.drew g s A n c t A' m c' := ⟨h.A, h.B, h.R, h.bel.drew⟩
theorem OvO.held (h : OvO w w1 g s A n c t A' m c') : w1.cell? ⟨g, 0, none⟩ = some (.bool s) ∧ w1.cell? ⟨g, 1, none⟩ = some (.slice A n c) ∧ w1.cell? ⟨g + 1, 0, none⟩ = some (.bool t) ∧ w1.cell? ⟨g + 1, 1, none⟩ = some (.slice A' m c') := ⟨h.A.cells.1, h.A.cells.2, h.B.cells.1, h.B.cells.2⟩
end
theorem OvO.new {w : World} {g n c m c' : Nat} {s t : Bool} {A A' : Option Addr} (hg : w.heap.size = g) : OvO w (((w.alloc (.cells #[.bool s, .slice A n c] 30)).alloc (.cells #[.bool t, .slice A' m c'] 30)).alloc (.cells #[.bool false, .slice none 0 0, .bool false, .slice none 0 0] 32)) g s A n c t A' m c' := by
  refine ⟨((ZBox.new w s (.slice A n c)).alloc _).alloc _ |> fun h => by rwa [hg] at h, ?_, ⟨false, none, 0, 0, false, none, 0, 0, ?_⟩, ?_⟩
  · have h := (ZBox.new (w.alloc (.cells #[.bool s, .slice A n c] 30)) t (.slice A' m c')).alloc (.cells #[.bool false, .slice none 0 0, .bool false, .slice none 0 0] 32)
    rw [World.size_alloc, hg] at h
    exact h
  · have h := QBox.new ((w.alloc (.cells #[.bool s, .slice A n c] 30)).alloc (.cells #[.bool t, .slice A' m c'] 30)) false false (.slice none 0 0) (.slice none 0 0)
    rw [World.size_alloc, World.size_alloc, hg] at h
    exact h
  · have h := (((Below.refl w.heap.size w).alloc (Nat.le_refl _) (.cells #[.bool s, .slice A n c] 30)).alloc (by simp) (.cells #[.bool t, .slice A' m c'] 30)).alloc (by simp; omega) (.cells #[.bool false, .slice none 0 0, .bool false, .slice none 0 0] 32)
    rwa [hg] at h
/-- Both numbers are stored anew. -/
theorem OvO.put {w w1 : World} {g n c m c' n1 c1 n2 c2 : Nat} {s t s1 t1 : Bool} {A A' A1 A2 : Option Addr} {xs ys : List Nat} (h : OvO w w1 g s A n c t A' m c') (hx : DigAt w1 A1 xs) (hy : DigAt w1 A2 ys) :
    OvO w ((((w1.setCell ⟨g, 0, none⟩ (.bool s1)).setCell ⟨g, 1, none⟩ (.slice A1 n1 c1)).setCell ⟨g + 1, 0, none⟩ (.bool t1)).setCell ⟨g + 1, 1, none⟩ (.slice A2 n2 c2)) g s1 A1 n1 c1 t1 A2 n2 c2 ∧
    DigAt ((((w1.setCell ⟨g, 0, none⟩ (.bool s1)).setCell ⟨g, 1, none⟩ (.slice A1 n1 c1)).setCell ⟨g + 1, 0, none⟩ (.bool t1)).setCell ⟨g + 1, 1, none⟩ (.slice A2 n2 c2)) A1 xs ∧
    DigAt ((((w1.setCell ⟨g, 0, none⟩ (.bool s1)).setCell ⟨g, 1, none⟩ (.slice A1 n1 c1)).setCell ⟨g + 1, 0, none⟩ (.bool t1)).setCell ⟨g + 1, 1, none⟩ (.slice A2 n2 c2)) A2 ys := by
  obtain ⟨r, B, k, d, r2, B2, k2, d2, hr⟩ := h.R
  have b1 := (h.B.far (p := ⟨g, 0, none⟩) (by show g + 1 ≠ g; omega) (.bool s1)).far (p := ⟨g, 1, none⟩) (by show g + 1 ≠ g; omega) (.slice A1 n1 c1)
  have D : ∀ {A : Option Addr} {xs : List Nat}, DigAt w1 A xs → DigAt ((((w1.setCell ⟨g, 0, none⟩ (.bool s1)).setCell ⟨g, 1, none⟩ (.slice A1 n1 c1)).setCell ⟨g + 1, 0, none⟩ (.bool t1)).setCell ⟨g + 1, 1, none⟩ (.slice A2 n2 c2)) A xs := fun ha =>
    (((ha.box h.A (p := ⟨g, 0, none⟩) rfl _).box (h.A.put0 s1) (p := ⟨g, 1, none⟩) rfl _).box b1 (p := ⟨g + 1, 0, none⟩) rfl _).box (b1.put0 t1) (p := ⟨g + 1, 1, none⟩) rfl _
  refine ⟨⟨?_, (b1.put0 t1).put1 _, ⟨r, B, k, d, r2, B2, k2, d2, ?_⟩, ?_⟩, D hx, D hy⟩
  · exact (((h.A.put0 s1).put1 _).far (p := ⟨g + 1, 0, none⟩) (by show g ≠ g + 1; omega) _).far (p := ⟨g + 1, 1, none⟩) (by show g ≠ g + 1; omega) _
  · exact (Below.heap_setCell _ ⟨g + 1, 1, none⟩ _ _ (by show g + 1 + 1 ≠ g + 1; omega)).trans ((Below.heap_setCell _ ⟨g + 1, 0, none⟩ _ _ (by show g + 1 + 1 ≠ g + 1; omega)).trans ((Below.heap_setCell _ ⟨g, 1, none⟩ _ _ (by show g + 1 + 1 ≠ g; omega)).trans ((Below.heap_setCell _ ⟨g, 0, none⟩ _ _ (by show g + 1 + 1 ≠ g; omega)).trans hr)))
  · exact (((h.bel.setCell (p := ⟨g, 0, none⟩) (Nat.le_refl _) _).setCell (p := ⟨g, 1, none⟩) (Nat.le_refl _) _).setCell (p := ⟨g + 1, 0, none⟩) (by show g ≤ g + 1; omega) _).setCell (p := ⟨g + 1, 1, none⟩) (by show g ≤ g + 1; omega) _

def overN (x y : Int) : Int := if y < 0 then -x else x
/-- What the numbers are behind the signs' change. -/
def OvTo (w : World) (g : Nat) (x y : Int) (wx : World) : Prop := ∃ s A n c t A' m c', OvO w wx g s A n c t A' m c' ∧ (decide (overN x y < 0) = s ∧ (digs (overN x y).natAbs).length = n ∧ n ≤ c ∧ DigAt wx A (digs (overN x y).natAbs)) ∧ (decide (overN y y < 0) = t ∧ (digs (overN y y).natAbs).length = m ∧ m ≤ c' ∧ DigAt wx A' (digs (overN y y).natAbs))

set_option maxRecDepth 100000 in
set_option maxHeartbeats 4000000 in
theorem over_any (x y : Int) (v u : Value) (w : World) (hx : ZAt w v x) (hy : ZAt w u y) :
    Calls Tryz.prog 18 #[v, u] w (RetQ (overN x y) (overN y y) w) := by
  obtain ⟨A, c, rfl, hxk, hxa⟩ := hx
  obtain ⟨A', c', rfl, hyk, hya⟩ := hy
  generalize hg : w.heap.size = g
  have hsx := neg_sign x
  have hsy := neg_sign y
  obtain ⟨n, hn⟩ : ∃ n, (digs x.natAbs).length = n := ⟨_, rfl⟩
  obtain ⟨m, hm⟩ : ∃ m, (digs y.natAbs).length = m := ⟨_, rfl⟩
  obtain ⟨s, hs⟩ : ∃ s, decide (x < 0) = s := ⟨_, rfl⟩
  obtain ⟨t, ht⟩ : ∃ t, decide (y < 0) = t := ⟨_, rfl⟩
  rw [hn, hs] at hsx
  rw [hm, ht] at hsy
  rw [hn] at hxk
  rw [hm] at hyk
  have HS := Lib.hid (And.intro hsx hsy)
  have HST := Lib.hid (And.intro hs ht)
  have HNM := Lib.hid (And.intro hn hm)
  have N1 := fun V (h : Below g w V) => Lib.hid (neg_any s A n c (digs x.natAbs) V hn hxk (hxa.kept hg h))
  have N2 := fun V (h : Below g w V) => Lib.hid (neg_any t A' m c' (digs y.natAbs) V hm hyk (hya.kept hg h))
  rw [hn, hm, hs, ht]
  have HXA := Lib.hid hxa
  have HYA := Lib.hid hya
  have O0 := OvO.new (w := w) (n := n) (c := c) (m := m) (c' := c') (s := s) (t := t) (A := A) (A' := A') hg
  clear hxa hya hn hm hsx hsy hs ht
  go_enter Tryz.func18, Tryz.ntmps18
  go_upto_region 1 with (fail)
  generalize ((w.alloc (.cells #[.bool s, .slice A n c] 30)).alloc (.cells #[.bool t, .slice A' m c'] 30)).alloc (.cells #[.bool false, .slice none 0 0, .bool false, .slice none 0 0] 32) = w0 at *
  obtain ⟨c0, c1, c2, c3⟩ := O0.held
  have HO0 := Lib.hid O0
  clear O0
  go_upto_if 6 with (fail)
  go_cut [8] from 7 to 10 (fun _ wx => OvTo w g x y wx)
  case first =>
    cases t with
    | false =>
      have hy0 : ¬ y < 0 := of_decide_eq_false HST.out.2
      have HR : Hid (OvTo w g x y w0) := Lib.hid ⟨s, A, n, c, false, A', m, c', HO0.out, by
        unfold overN
        rw [if_neg hy0]
        exact ⟨HST.out.1, HNM.out.1, hxk, HXA.out.kept hg HO0.out.bel⟩, by
        unfold overN
        rw [if_neg hy0]
        exact ⟨HST.out.2, HNM.out.2, hyk, HYA.out.kept hg HO0.out.bel⟩⟩
      go_wp2_with fail
      go_meet
      exact HR.out
    | true =>
      have hy0 : y < 0 := of_decide_eq_true HST.out.2
      have HY0 := Lib.hid hy0
      clear hy0
      go_upto_region 2 with (fail)
      go_region_with (first | (go_at_call 35; (with_reducible refine ((N1 _ ?_).out).mono ?_); (first | exact HO0.out.bel | exact HO0.out.bel.drew); rintro e w2 ⟨B1, d1, rfl, hd1, hat1, hb1⟩; have O1 : OvO w w2 g s A n c true A' m c' := (by first | exact HO0.out.below hb1 | exact HO0.out.drew.below hb1); have HO1 := Lib.hid O1; have HAT1 := Lib.hid hat1; clear c0 c1 c2 c3 hb1 hat1; obtain ⟨c0, c1, c2, c3⟩ := O1.held; clear O1) | (go_at_call 35; (with_reducible refine ((N2 _ ?_).out).mono ?_); (first | exact HO1.out.bel | exact HO1.out.bel.drew); rintro e w3 ⟨B2, d2, rfl, hd2, hat2, hb2⟩; have O2 : OvO w w3 g s A n c true A' m c' := (by first | exact HO1.out.below hb2 | exact HO1.out.drew.below hb2); have HO2 := Lib.hid O2; have HAT12 : Hid (DigAt w3 B1 (digs x.natAbs)) := Lib.hid (by first | exact HAT1.out.below hb2 | exact HAT1.out.drew.below hb2); have HAT2 := Lib.hid hat2; clear c0 c1 c2 c3 hb2 hat2; obtain ⟨c0, c1, c2, c3⟩ := O2.held; have f0 := O2.A.frozen 0; have f1 := O2.A.frozen 1; have f2 := O2.B.frozen 0; have f3 := O2.B.frozen 1; clear O2))
      all_goals go_wp2_with fail
      all_goals go_meet
      all_goals
        obtain ⟨hP, hD1, hD2⟩ := HO2.out.put (s1 := (!s && decide (0 < n))) (n1 := (digs x.natAbs).length) (c1 := d1) (t1 := false) (n2 := (digs y.natAbs).length) (c2 := d2) HAT12.out HAT2.out
        refine ⟨_, B1, _, d1, _, B2, _, d2, hP, ?_, ?_⟩
        · unfold overN
          rw [if_pos HY0.out, Int.natAbs_neg]
          exact ⟨HS.out.1.symm, rfl, hd1, hD1⟩
        · unfold overN
          rw [if_pos HY0.out, Int.natAbs_neg]
          exact ⟨decide_eq_false (by have := HY0.out; omega), rfl, hd2, hD2⟩
  case rest =>
    clear HO0 c0 c1 c2 c3 N1 N2 HXA HYA
    obtain ⟨s1, A1, n1, k1, t1, A2, n2, k2, hO, ⟨h1, h2, h3, h4⟩, h5, h6, h7, h8⟩ := hcut
    obtain ⟨c0, c1, c2, c3⟩ := hO.held
    obtain ⟨b1, B1, j1, i1, b2, B2, j2, i2, q3⟩ := hO.R
    obtain ⟨r0, r1, r2, r3⟩ := q3.cells
    have f0 := q3.frozen 0
    have f1 := q3.frozen 1
    have f2 := q3.frozen 2
    have f3 := q3.frozen 3
    obtain ⟨pq, pd, pb⟩ := q3.put s1 t1 (.slice A1 n1 k1) (.slice A2 n2 k2)
    obtain ⟨p0, p1, p2, p3⟩ := pq.cells
    have HD1 := Lib.hid (pd h4)
    have HD2 := Lib.hid (pd h8)
    have HF := Lib.hid (And.intro (And.intro h1 h2) (And.intro h5 h6))
    have HB4 := Lib.hid (pb hO.bel (by omega))
    clear hO q3 pq pd pb h1 h2 h4 h5 h6 h8
    go_wp2_with fail
    refine bodyPost_ret (v := .agg #[.bool s1, .slice A1 n1 k1, .bool t1, .slice A2 n2 k2]) (by simp [results, Tryz.results18, go_sem, p0, p1, p2, p3]) rfl ?_
    exact ⟨_, rfl, ⟨s1, A1, n1, k1, t1, A2, n2, k2, rfl, ⟨HF.out.1.1, HF.out.1.2, h3, HD1.out⟩, HF.out.2.1, HF.out.2.2, h7, HD2.out⟩, by rw [hg]; exact HB4.out⟩

theorem intV_any (v : Int) (V : World) (hv : -9223372036854775808 ≤ v ∧ v ≤ 9223372036854775807) : Calls Tryz.prog 19 #[.int .i64 v] V (RetV v V) := (int_any v V hv).mono fun _ _ h => retV_of h
/-- A fraction, with all parts of its value named. -/
def RetQV (x y : Int) (V : World) (e : Ending) (w' : World) : Prop := ∃ b1 A1 n1 c1 b2 A2 n2 c2, e = .returned (.agg #[.bool b1, .slice A1 n1 c1, .bool b2, .slice A2 n2 c2]) ∧ (decide (x < 0) = b1 ∧ (digs x.natAbs).length = n1 ∧ n1 ≤ c1 ∧ DigAt w' A1 (digs x.natAbs)) ∧ (decide (y < 0) = b2 ∧ (digs y.natAbs).length = n2 ∧ n2 ≤ c2 ∧ DigAt w' A2 (digs y.natAbs)) ∧ Below V.heap.size V w'
theorem retQV_of {x y : Int} {V : World} {e : Ending} {w' : World} (h : RetQ x y V e w') : RetQV x y V e w' := by
  obtain ⟨v, he, ⟨b1, A1, n1, c1, b2, A2, n2, c2, rfl, h1, h2⟩, hb⟩ := h
  exact ⟨b1, A1, n1, c1, b2, A2, n2, c2, he, h1, h2, hb⟩
theorem digs_int {x : Int} (h : -9223372036854775808 ≤ x ∧ x ≤ 9223372036854775807) : (digs x.natAbs).length ≤ 5 := digs_len (by omega)
theorem overN_abs (x y : Int) : (overN x y).natAbs = x.natAbs := by
  unfold overN
  split
  · exact Int.natAbs_neg x
  · rfl
theorem overN_pos {y : Int} (h : y ≠ 0) : 0 < overN y y := by
  unfold overN
  split <;> omega

set_option maxRecDepth 100000 in
set_option maxHeartbeats 4000000 in
theorem makeQ_any (x y : Int) (w : World) (hx : -9223372036854775808 ≤ x ∧ x ≤ 9223372036854775807) (hy : -9223372036854775808 ≤ y ∧ y ≤ 9223372036854775807) (h0 : y ≠ 0) :
    Calls Tryz.prog 7 #[.int .i64 x, .int .i64 y] w (RetQ (overN x y / (Nat.gcd x.natAbs y.natAbs : Nat)) (overN y y / (Nat.gcd x.natAbs y.natAbs : Nat)) w) := by
  generalize hg : w.heap.size = g
  have I1 := fun V => Lib.hid (intV_any x V hx)
  have I2 := fun V => Lib.hid (intV_any y V hy)
  have OV := fun V b1 A1 n1 c1 b2 A2 n2 c2 (h1 : decide (x < 0) = b1) (h2 : (digs x.natAbs).length = n1) h3 (h4 : DigAt V A1 (digs x.natAbs)) (k1 : decide (y < 0) = b2) (k2 : (digs y.natAbs).length = n2) k3 (k4 : DigAt V A2 (digs y.natAbs)) =>
    Lib.hid ((over_any x y (.agg #[.bool b1, .slice A1 n1 c1]) (.agg #[.bool b2, .slice A2 n2 c2]) V (zat_of h1 h2 h3 h4) (zat_of k1 k2 k3 k4)).mono fun _ _ h => retQV_of h)
  have LW := fun V v (h : QAt V v (overN x y) (overN y y)) => (lowest_any (overN x y) (overN y y) v V h (overN_pos h0) (by rw [overN_abs]; have := digs_int hx; omega) (by rw [overN_abs]; have := digs_int hy; omega)).mono fun _ _ h => retQV_of h
  rw [overN_abs, overN_abs] at LW
  have LW := fun V v h => Lib.hid (LW V v h)
  generalize overN x y / (Nat.gcd x.natAbs y.natAbs : Nat) = X at *
  generalize overN y y / (Nat.gcd x.natAbs y.natAbs : Nat) = Y at *
  have q0 := QBox.new w false false (.slice none 0 0) (.slice none 0 0)
  have hb0 := (Below.refl w.heap.size w).alloc (Nat.le_refl _) (.cells #[.bool false, .slice none 0 0, .bool false, .slice none 0 0] 32)
  rw [hg] at q0 hb0
  clear hx hy h0
  go_enter Tryz.func7, Tryz.ntmps7
  go_upto_region 1 with (fail)
  generalize w.alloc (.cells #[.bool false, .slice none 0 0, .bool false, .slice none 0 0] 32) = w0 at *
  have HQ0 := Lib.hid q0
  have HB0 := Lib.hid hb0
  have hs0 := q0.lt
  clear q0 hb0
  go_wp2_with (first | (go_at_call 19; (with_reducible refine (I2 _).out.mono ?_); have HI1 := HH1; rintro e w2 ⟨s2, A2, n2, k2, rfl, hs2, hn2, hk2, hd2, hb2⟩; have HD2 := Lib.hid hd2; have HN2 := Lib.hid (And.intro hs2 hn2); have HD12 := Lib.hid (HD1.out.below hb2); have HB2 := Lib.hid (HB1.out.trans (hb2.mono HB1.out.size)); clear hs2 hn2 hd2 hb2) | (go_at_call 19; (with_reducible refine (I1 _).out.mono ?_); rintro e w1 ⟨s1, A1, n1, k1, rfl, hs1, hn1, hk1, hd1, hb1⟩; have HD1 := Lib.hid hd1; have HH1 := Lib.hid (And.intro hs1 hn1); have HB1 := Lib.hid hb1; clear hs1 hn1 hd1 hb1) | (go_at_call 18; refine ((OV _ _ _ _ _ _ _ _ _ HH1.out.1 HH1.out.2 hk1 HD12.out HN2.out.1 HN2.out.2 hk2 HD2.out).out).mono ?_; rintro e w3 ⟨s3, A3, n3, k3, s4, A4, n4, k4, rfl, h31, h41, hb3⟩; have HQ3 : Hid (QAt w3 (.agg #[.bool s3, .slice A3 n3 k3, .bool s4, .slice A4 n4 k4]) (overN x y) (overN y y)) := Lib.hid ⟨s3, A3, n3, k3, s4, A4, n4, k4, rfl, h31, h41⟩; have HB3 := Lib.hid (HB2.out.trans (hb3.mono HB2.out.size)); clear h31 h41 hb3) | (go_at_call 17; refine ((LW _ _ HQ3.out).out).mono ?_; rintro e w4 ⟨s5, A5, n5, k5, s6, A6, n6, k6, rfl, h51, h61, hb4⟩; have HF := Lib.hid (And.intro h51 h61); have HB4 := Lib.hid (HB3.out.trans (hb4.mono HB3.out.size)); have q4 := HQ0.out.below HB4.out hs0; obtain ⟨r0, r1, r2, r3⟩ := q4.cells; have f0 := q4.frozen 0; have f1 := q4.frozen 1; have f2 := q4.frozen 2; have f3 := q4.frozen 3; have HQ4 := Lib.hid q4; clear h51 h61 hb4 q4))
  obtain ⟨pq, pd, pb⟩ := HQ4.out.put s5 s6 (.slice A5 n5 k5) (.slice A6 n6 k6)
  obtain ⟨p0, p1, p2, p3⟩ := pq.cells
  refine bodyPost_ret (v := .agg #[.bool s5, .slice A5 n5 k5, .bool s6, .slice A6 n6 k6]) (by simp [results, Tryz.results7, go_sem, p0, p1, p2, p3]) rfl ?_
  exact ⟨_, rfl, ⟨s5, A5, n5, k5, s6, A6, n6, k6, rfl, ⟨HF.out.1.1, HF.out.1.2.1, HF.out.1.2.2.1, pd HF.out.1.2.2.2⟩, HF.out.2.1, HF.out.2.2.1, HF.out.2.2.2.1, pd HF.out.2.2.2.2⟩, by rw [hg]; exact pb (HB0.out.trans (HB4.out.mono (by omega))) (Nat.le_refl _)⟩
end Go.Proofs.YteicddmekhdjeaaGreatDoor

/- Decimal texts from digits in base 10000: plain mathematics. -/
namespace Go.Proofs.YteicddmekhdjeaaGreatDoor
open Go.Lib

def padR : Nat → Nat → List UInt8
  | 0, _ => []
  | m + 1, k => padR m (k / 10) ++ [UInt8.ofNat (48 + k % 10)]
theorem padR_zero : ∀ m, padR m 0 = List.replicate m 48
  | 0 => rfl
  | m + 1 => by
    show padR m (0 / 10) ++ [UInt8.ofNat (48 + 0 % 10)] = _
    rw [show (0 : Nat) / 10 = 0 from rfl, padR_zero m, List.replicate_succ']
    rfl
def four (d : Nat) : List UInt8 := [UInt8.ofNat (48 + d / 1000), UInt8.ofNat (48 + d / 100 % 10), UInt8.ofNat (48 + d / 10 % 10), UInt8.ofNat (48 + d % 10)]
theorem padR_four (m v d : Nat) (hd : d < 10000) : padR (m + 4) (d + 10000 * v) = padR m v ++ four d := by
  show padR m ((d + 10000 * v) / 10 / 10 / 10 / 10) ++ [UInt8.ofNat (48 + (d + 10000 * v) / 10 / 10 / 10 % 10)] ++ [UInt8.ofNat (48 + (d + 10000 * v) / 10 / 10 % 10)] ++ [UInt8.ofNat (48 + (d + 10000 * v) / 10 % 10)] ++ [UInt8.ofNat (48 + (d + 10000 * v) % 10)] = _
  rw [show (d + 10000 * v) / 10 / 10 / 10 / 10 = v by omega, show (d + 10000 * v) / 10 / 10 / 10 % 10 = d / 1000 by omega, show (d + 10000 * v) / 10 / 10 % 10 = d / 100 % 10 by omega, show (d + 10000 * v) / 10 % 10 = d / 10 % 10 by omega, show (d + 10000 * v) % 10 = d % 10 by omega]
  simp [four]
theorem padR_len : ∀ m k, (padR m k).length = m
  | 0, _ => rfl
  | m + 1, k => by
    show (padR m (k / 10) ++ [UInt8.ofNat (48 + k % 10)]).length = _
    rw [List.length_append, padR_len m]; rfl
theorem dec_step {k : Nat} (h : ¬ k < 10) : decDigits k = decDigits (k / 10) ++ [UInt8.ofNat (48 + k % 10)] := by
  rw [decDigits, dif_neg h]
theorem padR_strip : ∀ {m k : Nat}, 0 < k → k < 10 ^ m → padR m k = List.replicate (m - (decDigits k).length) 48 ++ decDigits k
  | 0, k, h0, h => by simp at h; omega
  | m + 1, k, h0, h => by
    show padR m (k / 10) ++ [UInt8.ofNat (48 + k % 10)] = _
    by_cases h1 : k < 10
    · rw [show k / 10 = 0 by omega, padR_zero, decDigits_one h1, Nat.mod_eq_of_lt h1]
      rfl
    · have ih := padR_strip (m := m) (k := k / 10) (by omega) (by rw [Nat.pow_succ] at h; omega)
      rw [ih, dec_step h1, List.append_assoc, List.length_append]
      congr 2
      simp
theorem dec_head : ∀ (n : Nat) {k : Nat}, k ≤ n → 0 < k → ∃ a l, decDigits k = a :: l ∧ a ≠ 48
  | 0, k, h, h0 => by omega
  | n + 1, k, h, h0 => by
    by_cases h1 : k < 10
    · refine ⟨_, [], decDigits_one h1, ?_⟩
      match k, h0, h1 with
      | 1, _, _ => decide
      | 2, _, _ => decide
      | 3, _, _ => decide
      | 4, _, _ => decide
      | 5, _, _ => decide
      | 6, _, _ => decide
      | 7, _, _ => decide
      | 8, _, _ => decide
      | 9, _, _ => decide
    · obtain ⟨a, l, e, ha⟩ := dec_head n (k := k / 10) (by omega) (by omega)
      exact ⟨a, l ++ [UInt8.ofNat (48 + k % 10)], by rw [dec_step h1, e]; rfl, ha⟩
theorem dec_len_le : ∀ {m k : Nat}, 0 < k → k < 10 ^ m → (decDigits k).length ≤ m
  | m, k, h0, h => by
    have e := padR_strip h0 h
    have := congrArg List.length e
    rw [padR_len, List.length_append, List.length_replicate] at this
    omega
end Go.Proofs.YteicddmekhdjeaaGreatDoor
