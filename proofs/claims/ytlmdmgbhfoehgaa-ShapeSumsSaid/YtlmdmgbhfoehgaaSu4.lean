/- Parts of the proof, one after the other: ApartTop, RefApart, DevChain, DevClone, DevSort, DevHull, RefHull. -/
import Derived.Test.YtlmdmgbhfoehgaaSu3
import Derived.Deep.AppendLies
import Derived.Test.YtlmdmgbhfoehgaaSu2
import Derived.Lib.SliceRun
import Derived.Shelf.GgSortFunc.InsertionK
/- Package shape's checkConvex and Apart; the law's own 'convex'; the reference's Moved and Apart. -/
namespace Go.Proofs.Ytlmdmgbhfoehgaa
open Go.RowKit Go.Sort
attribute [local go_sem ↓] run_min_mn run_max_mx Go.wp_at_zero Go.wp_at_succ

def conE (l : List Pt) : Int := if polyB l then (if convexB l then 0 else 2) else 1
theorem conE_cases (l : List Pt) : (conE l = 1 ∧ polyB l = false) ∨ (conE l = 2 ∧ polyB l = true ∧ convexB l = false) ∨ (conE l = 0 ∧ polyB l = true ∧ convexB l = true) := by
  unfold conE
  cases polyB l <;> cases convexB l <;> simp
theorem conE_zero {l : List Pt} (h0 : conE l = 0) : polyB l = true ∧ convexB l = true := by
  rcases conE_cases l with h | h | h
  · rw [h.1] at h0; cases h0
  · rw [h.1] at h0; cases h0
  · exact h.2
theorem conE_rng (l : List Pt) : 0 ≤ conE l ∧ conE l ≤ 2 := by
  rcases conE_cases l with h | h | h <;> omega

def convsE : List (List Pt) → Int
  | [] => 0
  | l :: L => if conE l = 0 then convsE L else conE l
theorem convsE_skip {L : List (List Pt)} {k : Nat} (hk : k < L.length) (h : conE L[k] = 0) : convsE (L.drop (k + 1)) = convsE (L.drop k) := by
  rw [List.drop_eq_getElem_cons hk]
  show _ = if conE L[k] = 0 then convsE (L.drop (k + 1)) else conE L[k]
  rw [if_pos h]
theorem convsE_here {L : List (List Pt)} {k : Nat} (hk : k < L.length) (h : conE L[k] ≠ 0) : convsE (L.drop k) = conE L[k] := by
  rw [List.drop_eq_getElem_cons hk]
  show (if conE L[k] = 0 then convsE (L.drop (k + 1)) else conE L[k]) = _
  rw [if_neg h]

/-- A row of slices of points. -/
def PolysIn (w : World) (b off : Nat) (L : List (List Pt)) : Prop :=
  ∀ i l, L[i]? = some l → ∃ A n c, w.cell? ⟨b, off + i, none⟩ = some (.slice A n c) ∧ l.length = n ∧ n ≤ 1000000 ∧ PtsAt w A l
theorem PolysIn.below {w w' : World} {b off : Nat} {L : List (List Pt)} (h : PolysIn w b off L) (hb : Below w.heap.size w w') (hB : b < w.heap.size) : PolysIn w' b off L := fun i l hi => by
  obtain ⟨A, n, c, h1, h2, h3, h4⟩ := h i l hi
  exact ⟨A, n, c, (hb.cell (p := ⟨b, _, none⟩) hB).trans h1, h2, h3, h4.below hb⟩

set_option maxRecDepth 100000 in
set_option maxHeartbeats 1000000 in
theorem checkConvex_any (b off n c : Nat) (L : List (List Pt)) (w : World) (hl : L.length = n) (hn' : n ≤ 1000) (h : PolysIn w b off L) (hb : b < w.heap.size) :
    Calls Try.prog 27 #[.slice (some ⟨b, off, none⟩) n c] w fun e w' => e = .returned (.int .i64 (convsE L)) ∧ Below w.heap.size w w' := by
  have HL := Lib.hid hl
  have HP := Lib.hid h
  clear hl h
  go_enter Try.func27, Try.ntmps27
  go_wp2
  go_loopw [7] (fun i wr => ∃ k : Nat, k ≤ n ∧ i = .int .i64 k ∧ convsE (L.drop k) = convsE L ∧ Below w.heap.size w wr) (fun i _ => n - (intOf i).toNat)
  case atStart => exact ⟨0, Nat.zero_le _, rfl, rfl, Below.refl _ _⟩
  case round =>
    obtain ⟨k, hk, rfl, hz, hbw⟩ := hrel
    have HZ := Lib.hid hz
    clear hz
    by_cases hlt : k < n
    · have hkl : k < L.length := by rw [HL.out]; exact hlt
      obtain ⟨A, m, d, h1, h2, h3, h4⟩ := (HP.out.below hbw hb) k L[k] (List.getElem?_eq_getElem hkl)
      have hB : b < wr.heap.size := Nat.lt_of_lt_of_le hb hbw.size
      have KP := fun W hW => Lib.hid (isPolygon_any A m d L[k] W h2 h3 (h4.below (w' := W) hW))
      have HE1 : Hid (conE L[k] = 0 → convsE (L.drop (k + 1)) = convsE L) := Lib.hid fun h => (convsE_skip hkl h).trans HZ.out
      have HE2 : Hid (conE L[k] ≠ 0 → convsE L = conE L[k]) := Lib.hid fun h => HZ.out.symm.trans (convsE_here hkl h)
      generalize L[k] = l at *
      cases hp : polyB l
      · have HE : Hid (convsE L = 1) := Lib.hid (by
          have e : conE l = 1 := by unfold conE; rw [hp]; rfl
          rw [HE2.out (by rw [e]; decide), e])
        rw [hp] at KP
        clear h2 h4
        go_wp2_with fail
        refine ((KP _ (Below.refl _ _)).out).mono ?_
        rintro e w1 ⟨rfl, hb1⟩
        have hbw1 := hbw.trans (hb1.mono hbw.size)
        go_wp2_with fail
        go_ret
        exact ⟨ret_int HE.out.symm, hbw1⟩
      · rw [hp] at KP
        obtain ⟨b2, off2, rfl, g1, g2, g3, g4, g5⟩ := h4.poly h2 hp
        have KC := fun W hW => Lib.hid (isConvex_any b2 off2 m d l W h2 (by omega) (by omega) (g4.below (B := wr.heap.size) hW g3) (Nat.lt_of_lt_of_le g3 hW.size) g5)
        rw [convex_same] at KC
        clear h2 h4 g4 g5
        cases hc : convexB l
        · have HE : Hid (convsE L = 2) := Lib.hid (by
            have e : conE l = 2 := by unfold conE; rw [hp, hc]; rfl
            rw [HE2.out (by rw [e]; decide), e])
          rw [hc] at KC
          go_wp2_with fail
          refine ((KP _ (Below.refl _ _)).out).mono ?_
          rintro e w1 ⟨rfl, hb1⟩
          go_wp2_with fail
          refine ((KC _ hb1).out).mono ?_
          rintro e w2 ⟨rfl, hb2⟩
          have hbw2 := hbw.trans ((hb1.trans (hb2.mono hb1.size)).mono hbw.size)
          go_wp2_with fail
          go_ret
          exact ⟨ret_int HE.out.symm, hbw2⟩
        · have HE := Lib.hid (HE1.out (by unfold conE; rw [hp, hc]; rfl))
          rw [hc] at KC
          go_wp2_with fail
          refine ((KP _ (Below.refl _ _)).out).mono ?_
          rintro e w1 ⟨rfl, hb1⟩
          go_wp2_with fail
          refine ((KC _ hb1).out).mono ?_
          rintro e w2 ⟨rfl, hb2⟩
          have hbw2 := hbw.trans ((hb1.trans (hb2.mono hb1.size)).mono hbw.size)
          go_wp2_with fail
          go_roundw
          case rel => exact ⟨k + 1, by omega, by go_num, HE.out, hbw2⟩
          case measure => simp [intOf]; omega
    · have HE : Hid (convsE L = 0) := Lib.hid (by
        rw [← HZ.out, List.drop_of_length_le (by rw [HL.out]; omega)]; rfl)
      go_wp2_with fail
      go_ret
      exact ⟨ret_int HE.out.symm, hbw⟩

theorem lawConvex_any (A : Option Addr) (n c : Nat) (l : List Pt) (w : World) (hn : l.length = n) (hbig : n ≤ 1000000) (hx : PtsAt w A l) :
    Calls Try.prog 11 #[.slice A n c] w fun e w' => e = .returned (.int .i64 (conE l)) ∧ Below w.heap.size w w' := by
  have K := Lib.hid (polygonX_any A n c l w hn hbig hx)
  cases hp : polyB l
  · have e1 : conE l = 1 := by unfold conE; rw [hp]; rfl
    rw [e1]
    rw [hp] at K
    clear hn hx
    go_enter Try.func11, Try.ntmps11
    go_wp2_with fail
    refine (K.out).mono ?_
    rintro e w' ⟨rfl, hb⟩
    go_wp2
    go_ret
    exact ⟨rfl, hb⟩
  · have e1 : conE l = if convexB l then 0 else 2 := by unfold conE; rw [hp]; rfl
    have E1 := Lib.hid e1
    rw [hp] at K
    obtain ⟨b, off, rfl, h1, h2, h3, h4, h5⟩ := hx.poly hn hp
    have S := fun W hW => Lib.hid (convex_any b off n c l W hn (by omega) (by omega) (h4.below (B := w.heap.size) hW h3) (Nat.lt_of_lt_of_le h3 hW.size) h5)
    clear hn hx h4 h5 e1
    generalize conE l = r at *
    cases hs : convexB l
    all_goals
      have E2 := Lib.hid (E1.out.trans (by rw [hs]))
      rw [hs] at S
      go_enter Try.func11, Try.ntmps11
      go_wp2_with fail
      refine (K.out).mono ?_
      rintro e w1 ⟨rfl, hb⟩
      go_wp2_with fail
      refine ((S _ hb).out).mono ?_
      rintro e w2 ⟨rfl, hb2⟩
      go_wp2
      go_ret
      exact ⟨ret_int E2.out.symm, hb.trans (hb2.mono hb.size)⟩

theorem ok_Bd {l : List Pt} (h : l.all okP = true) : ∀ x ∈ l, Bd x := fun x hx => Bd.of_ok (List.all_eq_true.1 h x hx)
theorem moved_Bd {l : List Pt} {v : Pt} (h : l.all okP = true) (hv : validB v.1 v.2 20000 = true) : ∀ x ∈ movedL l v, Bd x := fun x hx => by
  obtain ⟨p, hp, rfl⟩ := List.mem_map.1 hx
  obtain ⟨h1, h2⟩ := okP_bd (List.all_eq_true.1 h p hp)
  have : (-20000 ≤ v.1 ∧ v.1 ≤ 20000) ∧ (-20000 ≤ v.2 ∧ v.2 ≤ 20000) := by simpa [validB, inB] using hv
  unfold Bd addP
  simp only
  omega
theorem valid_Bd2 {v : Pt} (hv : validB v.1 v.2 20000 = true) : Bd v := by
  have : (-20000 ≤ v.1 ∧ v.1 ≤ 20000) ∧ (-20000 ≤ v.2 ∧ v.2 ≤ 20000) := by simpa [validB, inB] using hv
  unfold Bd
  omega

/-- What Apart says: whether, and the error. -/
def apE (a b : List Pt) (v : Pt) : Int := if conE a = 0 then (if conE b = 0 then (if validB v.1 v.2 20000 then 0 else 1) else conE b) else conE a
def apX (a b : List Pt) (v : Pt) : Bool := if apE a b v = 0 then apartB a (movedL b v) else false
theorem apE_zero {a b : List Pt} {v : Pt} (h : apE a b v = 0) : conE a = 0 ∧ conE b = 0 ∧ validB v.1 v.2 20000 = true := by
  unfold apE at h
  split at h
  · split at h
    · split at h
      · exact ⟨by assumption, by assumption, by assumption⟩
      · cases h
    · rename_i h1 h2; exact absurd h h2
  · rename_i h2; exact absurd h h2
theorem convs_two (a b : List Pt) : convsE [a, b] = if conE a = 0 then conE b else conE a := by
  show (if conE a = 0 then (if conE b = 0 then 0 else conE b) else conE a) = _
  split
  · split
    · rename_i h; exact h.symm
    · rfl
  · rfl

set_option maxRecDepth 100000 in
set_option maxHeartbeats 1000000 in
theorem apartX_any (A : Option Addr) (n c : Nat) (A' : Option Addr) (m d : Nat) (a b : List Pt) (v : Pt) (w : World) (hn : a.length = n) (hbig : n ≤ 1000000) (hx : PtsAt w A a) (hm : b.length = m) (hbig' : m ≤ 1000000) (hy : PtsAt w A' b) :
    Calls Try.prog 25 #[.slice A n c, .slice A' m d, .agg #[.int .i64 v.1, .int .i64 v.2]] w fun e w' => e = .returned (.tuple #[.bool (apX a b v), .int .i64 (apE a b v)]) ∧ Below w.heap.size w w' := by
  have hb0 : Below w.heap.size w (w.alloc (bx v.1 v.2)) := (Below.refl _ _).alloc (Nat.le_refl _) _
  have P0 : PtAt (w.alloc (bx v.1 v.2)) w.heap.size v.1 v.2 := PtAt.new
  have hz0 : (w.alloc (bx v.1 v.2)).heap.size = w.heap.size + 1 := by simp
  have hx0 := hx.below hb0
  have hy0 := hy.below hb0
  generalize hw0 : w.alloc (bx v.1 v.2) = w0 at *
  have hb1 : Below w0.heap.size w0 (w0.alloc (.cells #[.slice A n c, .slice A' m d] 22)) := (Below.refl _ _).alloc (Nat.le_refl _) _
  have hP : PolysIn (w0.alloc (.cells #[.slice A n c, .slice A' m d] 22)) w0.heap.size 0 [a, b] := by
    intro i l hi
    match i, hi with
    | 0, hi =>
      obtain rfl : a = l := by simpa using hi
      exact ⟨A, n, c, by simp [World.cell?_alloc_new], hn, hbig, hx0.below hb1⟩
    | 1, hi =>
      obtain rfl : b = l := by simpa using hi
      exact ⟨A', m, d, by simp [World.cell?_alloc_new], hm, hbig', hy0.below hb1⟩
  rw [hz0] at hP
  have K := Lib.hid (checkConvex_any (w.heap.size + 1) 0 2 2 [a, b] _ rfl (by omega) hP (by simp; omega))
  have HB1 := Lib.hid (hb0.trans (hb1.mono hb0.size))
  have P1 := PtAt.below hb1 (by omega) P0
  have hgr : w.heap.size < (w0.alloc (.cells #[.slice A n c, .slice A' m d] 22)).heap.size := by simp; omega
  have hC := convs_two a b
  have V := fun W => Lib.hid (isNear_any v.1 v.2 20000 (by omega) W)
  have HX := Lib.hid hx
  have HY := Lib.hid hy
  clear hb0 P0 hx0 hy0 hb1 hP
  by_cases h0 : convsE [a, b] = 0
  · have ha : conE a = 0 := by
      rw [hC] at h0
      split at h0
      · assumption
      · rename_i h; exact absurd h0 h
    have hb : conE b = 0 := by rw [hC, if_pos ha] at h0; exact h0
    obtain ⟨pa, ca⟩ := conE_zero ha
    obtain ⟨pb, cb⟩ := conE_zero hb
    rw [h0] at K
    cases hv : validB v.1 v.2 20000
    · have e1 : apE a b v = 1 := by unfold apE; rw [if_pos ha, if_pos hb, hv]; rfl
      have e2 : apX a b v = false := by unfold apX; rw [e1]; rfl
      rw [e1, e2]
      rw [hv] at V
      clear hC h0 ha hb pa ca pb cb hv e1 e2 HX HY hx hy hn hm
      go_enter Try.func25, Try.ntmps25
      go_upto_region 1 with (fail)
      clear hw0
      go_wp2_with fail
      refine (K.out).mono ?_
      rintro e w1 ⟨rfl, hb1⟩
      obtain ⟨p1, p2⟩ := PtAt.below hb1 hgr P1
      have hbw1 := HB1.out.trans (hb1.mono HB1.out.size)
      go_wp2_with fail
      refine ((V _).out).mono ?_
      rintro e w2 ⟨rfl, hb2⟩
      have hbw2 := hbw1.trans (hb2.mono hbw1.size)
      go_wp2
      go_ret2
      exact ⟨rfl, hbw2⟩
    · have e1 : apE a b v = 0 := by unfold apE; rw [if_pos ha, if_pos hb, hv]; rfl
      have e2 : apX a b v = apartB a (movedL b v) := by unfold apX; rw [e1]; rfl
      rw [e1, e2]
      rw [hv] at V
      obtain ⟨b1, o1, rfl, g1, g2, g3, g4, g5⟩ := hx.poly hn pa
      obtain ⟨b2, o2, rfl, f1, f2, f3, f4, f5⟩ := hy.poly hm pb
      have KM := fun W (hW : Below w.heap.size w W) => Lib.hid (moved_any b2 o2 m d b v W hm (by omega) (f4.below hW f3) (Nat.lt_of_lt_of_le f3 hW.size) (Bd.all f5) (valid_Bd2 hv))
      have KA := fun g2 W (hW : Below w.heap.size w W) (hM : PtBlk W g2 (movedL b v)) => Lib.hid (areApart_any b1 o1 n c g2 0 m m a (movedL b v) W hn (by omega) (by omega) (g4.below hW g3) (Nat.lt_of_lt_of_le g3 hW.size) (ok_Bd g5) ((movedL_length b v).trans hm) (by omega) (by omega) hM.pts hM.lt (moved_Bd f5 hv))
      clear hC h0 ha hb pa ca pb cb hv e1 e2 HX HY hx hy hn hm g4 g5 f4 f5
      generalize apartB a (movedL b v) = r at *
      generalize movedL b v = mv at *
      go_enter Try.func25, Try.ntmps25
      go_upto_region 1 with (fail)
      clear hw0
      go_wp2_with fail
      refine (K.out).mono ?_
      rintro e w1 ⟨rfl, hb1⟩
      obtain ⟨p1, p2⟩ := PtAt.below hb1 hgr P1
      have hbw1 := HB1.out.trans (hb1.mono HB1.out.size)
      have hgr1 : w.heap.size < w1.heap.size := Nat.lt_of_lt_of_le hgr hb1.size
      clear hb1
      go_wp2_with fail
      refine ((V _).out).mono ?_
      rintro e w2 ⟨rfl, hb2⟩
      obtain ⟨p1, p2⟩ := PtAt.below hb2 hgr1 ⟨p1, p2⟩
      have hbw2 := hbw1.trans (hb2.mono hbw1.size)
      clear hb2
      go_wp2_with fail
      refine ((KM _ hbw2).out).mono ?_
      rintro e w3 ⟨g, rfl, hg, hM, hb3⟩
      have hbw3 := hbw2.trans (hb3.mono hbw2.size)
      clear hb3
      have KA1 := KA g w3 hbw3 hM
      clear hM hg
      go_wp2_with fail
      refine (KA1.out).mono ?_
      rintro e w4 ⟨rfl, hb4⟩
      have hbw4 := hbw3.trans (hb4.mono hbw3.size)
      go_wp2
      go_ret2
      exact ⟨rfl, hbw4⟩
  · have e1 : apE a b v = convsE [a, b] := by
      rw [hC]; unfold apE
      split
      · rename_i ha
        rw [if_neg]
        rw [hC, if_pos ha] at h0; exact h0
      · rfl
    have e2 : apX a b v = false := by unfold apX; rw [if_neg (by rw [e1]; exact h0)]
    rw [e1, e2]
    have hrng : 0 ≤ convsE [a, b] ∧ convsE [a, b] ≤ 2 := by
      rw [hC]; have := conE_rng a; have := conE_rng b; split <;> omega
    generalize convsE [a, b] = r at *
    clear hC e1 e2 HX HY hx hy hn hm V
    go_enter Try.func25, Try.ntmps25
    go_upto_region 1 with (fail)
    clear hw0
    go_wp2_with fail
    refine (K.out).mono ?_
    rintro e w1 ⟨rfl, hb1⟩
    have hbw1 := HB1.out.trans (hb1.mono HB1.out.size)
    go_wp2
    go_ret2
    exact ⟨rfl, hbw1⟩
end Go.Proofs.Ytlmdmgbhfoehgaa

/- The reference's Moved, parts and Apart. -/
namespace Go.Proofs.Ytlmdmgbhfoehgaa
open Go.RowKit Go.Sort
attribute [local go_sem ↓] run_min_mn run_max_mx Go.wp_at_zero Go.wp_at_succ

theorem PtsOwn.low {w : World} {base base' : Nat} {v : Value} {xs : List Pt} (h : PtsOwn w base v xs) (hb : base' ≤ base) : PtsOwn w base' v xs := by
  unfold PtsOwn World.ownsRow at *
  obtain ⟨h1, h2⟩ := h
  refine ⟨h1, ?_⟩
  rcases h2 with h2 | ⟨g, cap, cur, e, hg, r⟩
  · exact .inl h2
  · exact .inr ⟨g, cap, cur, e, Nat.le_trans hb hg, r⟩
theorem PtsOwn.alloc {w : World} {base : Nat} {v : Value} {xs : List Pt} (h : PtsOwn w base v xs) (o : Obj) : PtsOwn (w.alloc o) base v xs := World.ownsRow.alloc h o
theorem PtsOwn.drew {w : World} {base : Nat} {v : Value} {xs : List Pt} (h : PtsOwn w base v xs) : PtsOwn w.drew base v xs := h
theorem PtsOwn.base {w : World} {base : Nat} {v : Value} {xs : List Pt} (h : PtsOwn w base v xs) : ∀ k, v.ownBlock = some k → base ≤ k ∧ k < w.heap.size := World.ownsRow.lt h
theorem PtsAt.one (W : World) (x y : Int) : PtsAt (W.alloc (.cells #[.int .i64 x, .int .i64 y] 38)) (some ⟨W.heap.size, 0, none⟩) [(x, y)] := fun _ =>
  ⟨W.heap.size, 0, rfl, by simp, fun i p hp => by
    match i, hp with
    | 0, hp =>
      obtain rfl : (x, y) = p := by simpa using hp
      constructor <;> simp [World.cell?_alloc_new]⟩

/-- An append as one step of a region that draws its order. -/
theorem step_papp {w : World} {ops : Array Oper} {o : Oper} {a : Act} {K : Act → World → Prop} {Q : Exit → Act → World → Prop} {E : Prop} (hgd : o.guard = none) (s x : Operand)
    (ho : o.op = .call { callee := .builtin .append, args := #[s, x], argTypes := #[22, 22] }) (base : Nat) (v : Value) (xs ys : List Pt) (A : Option Addr) (m c : Nat)
    (hs : a.eval s = v) (hx : a.eval x = .slice A m c) (hown : PtsOwn w base v xs) (hm : ys.length = m) (hy : PtsAt w A ys) (hlen : xs.length + ys.length ≤ 100000) (hb : base ≤ w.heap.size)
    (h : ∀ v' w', PtsOwn w' base v' (xs ++ ys) → w.grownBy w' v.ownBlock → (v'.ownBlock = v.ownBlock ∨ v'.ownBlock = some w.heap.size) → K (a.put o.dst v') w') :
    if Region.wanted o (yielded ops a.tmps) = true then Oper.wp Try.prog o a w K Q else E := by
  have hw : Region.wanted o (yielded ops a.tmps) = true := by simp [Region.wanted, hgd]
  rw [if_pos hw]
  subst hm
  obtain ⟨v', w', hr, h2, h3, h4⟩ := papp_run hown c hy hlen hb o.type
  unfold Oper.wp execOp
  simp only [ho, resolve, invoke, builtin, Sem.run_bind, Sem.run_pure, Result.andThen_ok, List.map_toArray, List.map_cons, List.map_nil, hs, hx, hr]
  exact h v' w' h2 h3 h4

/-- Four cells of old blocks stay behind an append to a row of the call's own. -/
theorem cells4_grown {w W w1 : World} {b o1 o2 g B : Nat} {v1 v2 v3 v4 : Value} {row : Option Nat} (hg : W.grownBy w1 row) (hr : ∀ k, row = some k → B ≤ k) (hb : b < B) (hgg : g < B) (hs : B ≤ W.heap.size)
    (h : W.cell? ⟨b, o1, none⟩ = some v1 ∧ W.cell? ⟨b, o2, none⟩ = some v2 ∧ W.cell? ⟨g, 0, none⟩ = some v3 ∧ W.cell? ⟨g, 1, none⟩ = some v4) :
    w1.cell? ⟨b, o1, none⟩ = some v1 ∧ w1.cell? ⟨b, o2, none⟩ = some v2 ∧ w1.cell? ⟨g, 0, none⟩ = some v3 ∧ w1.cell? ⟨g, 1, none⟩ = some v4 := by
  have hB : Below B W w1 := (Below.refl _ _).grown hg hs hr
  exact ⟨(hB.cell (p := ⟨b, _, none⟩) hb).trans h.1, (hB.cell (p := ⟨b, _, none⟩) hb).trans h.2.1, (hB.cell (p := ⟨g, _, none⟩) hgg).trans h.2.2.1, (hB.cell (p := ⟨g, _, none⟩) hgg).trans h.2.2.2⟩

def RefMovedTo (l : List Pt) (w : World) (e : Ending) (w' : World) : Prop := ∃ v, e = .returned v ∧ PtsOwn w' w.heap.size v l ∧ Below w.heap.size w w'

set_option maxRecDepth 100000 in
set_option maxHeartbeats 2000000 in
theorem refMoved_any (b off n c : Nat) (l : List Pt) (v : Pt) (w : World) (hl : l.length = n) (hn' : n ≤ 100) (h : PtsIn w b off l) (hb : b < w.heap.size) (hbd : ∀ i, Bd (gt l i)) (hv : Bd v) :
    Calls Try.prog 24 #[.slice (some ⟨b, off, none⟩) n c, .agg #[.int .i64 v.1, .int .i64 v.2]] w (RefMovedTo (movedL l v) w) := by
  have HL := Lib.hid hl
  have HP := Lib.hid h
  have HBD := Lib.hid hbd
  obtain ⟨vx, vy⟩ := v
  obtain ⟨hv1, hv2⟩ := hv
  clear hl h hbd
  go_enter Try.func24, Try.ntmps24
  go_upto_region 1 with (fail)
  have B : PtAt (w.alloc (bx vx vy)) w.heap.size vx vy := PtAt.new
  have hb0 : Below w.heap.size w (w.alloc (bx vx vy)) := (Below.refl _ _).alloc (Nat.le_refl _) _
  have hz0 : (w.alloc (bx vx vy)).heap.size = w.heap.size + 1 := by simp
  generalize w.alloc (bx vx vy) = w0 at *
  generalize hgg : w.heap.size = gg at *
  go_wp2_with fail
  have O0 : PtsOwn (w0.alloc (.cells #[] 38)) (gg + 1) (.slice (some ⟨gg + 1, 0, none⟩) 0 0) [] := by
    have := PtsOwn.empty w0
    rwa [hz0] at this
  have hb1 : Below w0.heap.size w0 (w0.alloc (.cells #[] 38)) := (Below.refl _ _).alloc (Nat.le_refl _) _
  have hz1 : (w0.alloc (.cells #[] 38)).heap.size = gg + 2 := by simp; omega
  generalize w0.alloc (.cells #[] 38) = w1 at *
  have hb2 : Below gg w w1 := hb0.trans (hb1.mono (by omega))
  have B1 : PtAt w1 gg vx vy := PtAt.below hb1 (by omega) B
  clear hb0 hb1 B
  have HP1 := Lib.hid (HP.out.below hb2 hb)
  go_loopw [5, 6] (fun s i wr => ∃ k : Nat, k ≤ n ∧ i = .int .i64 k ∧ PtsOwn wr (gg + 1) s (movedL (l.take k) (vx, vy)) ∧ Below (gg + 1) w1 wr) (fun _ i _ => n - (intOf i).toNat)
  case atStart => exact ⟨0, Nat.zero_le _, rfl, by simpa [movedL] using O0, Below.refl _ _⟩
  case round =>
    clear O0
    obtain ⟨k, hk, rfl, hO, hbr⟩ := hrel
    have HO := Lib.hid hO
    clear hO
    obtain ⟨p1, p2⟩ := PtAt.below hbr (by omega) B1
    have hgr : gg + 2 ≤ wr.heap.size := by have := hbr.size; omega
    have hg1 : gg < wr.heap.size := by omega
    by_cases hlt : k < n
    · have hkl : k < l.length := by rw [HL.out]; exact hlt
      obtain ⟨h1, h2⟩ := (HP1.out.below hbr (by omega)) k (gt l k) (by unfold gt; rw [List.getD_eq_getElem?_getD, List.getElem?_eq_getElem hkl]; rfl)
      have hB : b < wr.heap.size := by omega
      obtain ⟨d1, d2⟩ := HBD.out k
      have HN : Hid (movedL (l.take (k + 1)) (vx, vy) = movedL (l.take k) (vx, vy) ++ [addP (gt l k) (vx, vy)]) := Lib.hid (by
        rw [List.take_succ_eq_append_getElem hkl]
        unfold movedL
        rw [List.map_append]
        simp [gt, List.getD, hkl])
      have HLN : Hid ((movedL (l.take k) (vx, vy)).length ≤ 100) := Lib.hid (by rw [movedL_length, List.length_take]; omega)
      generalize gt l k = p at *
      generalize movedL (l.take k) (vx, vy) = cur at *
      obtain ⟨x, y⟩ := p
      replace d1 : -60000 ≤ x ∧ x ≤ 60000 := d1
      replace d2 : -60000 ≤ y ∧ y ≤ 60000 := d2
      obtain ⟨d3, d4⟩ := d1
      obtain ⟨d5, d6⟩ := d2
      obtain ⟨v3, v4⟩ := hv1
      obtain ⟨v5, v6⟩ := hv2
      have ne1 : u5.ownBlock ≠ some b := fun e => by have := (HO.out.base b e).1; omega
      have ne2 : u5.ownBlock ≠ some gg := fun e => by have := (HO.out.base gg e).1; omega
      have l1 : b < (wr.alloc (.cells #[.int .i64 (IntKind.i64.wrap (x + vx)), .int .i64 (IntKind.i64.wrap (y + vy))] 38)).drew.heap.size := by simp; omega
      have l2 : gg < (wr.alloc (.cells #[.int .i64 (IntKind.i64.wrap (x + vx)), .int .i64 (IntKind.i64.wrap (y + vy))] 38)).drew.heap.size := by simp; omega
      have k1 : (wr.alloc (.cells #[.int .i64 (IntKind.i64.wrap (x + vx)), .int .i64 (IntKind.i64.wrap (y + vy))] 38)).drew.cell? ⟨b, off + k * 2, none⟩ = some (.int .i64 x) := (World.cell?_alloc_lt wr _ ⟨b, _, none⟩ hB).trans h1
      have k2 : (wr.alloc (.cells #[.int .i64 (IntKind.i64.wrap (x + vx)), .int .i64 (IntKind.i64.wrap (y + vy))] 38)).drew.cell? ⟨b, off + k * 2 + 1, none⟩ = some (.int .i64 y) := (World.cell?_alloc_lt wr _ ⟨b, _, none⟩ hB).trans h2
      have k3 : (wr.alloc (.cells #[.int .i64 (IntKind.i64.wrap (x + vx)), .int .i64 (IntKind.i64.wrap (y + vy))] 38)).drew.cell? ⟨gg, 0, none⟩ = some (.int .i64 vx) := (World.cell?_alloc_lt wr _ ⟨gg, _, none⟩ hg1).trans p1
      have k4 : (wr.alloc (.cells #[.int .i64 (IntKind.i64.wrap (x + vx)), .int .i64 (IntKind.i64.wrap (y + vy))] 38)).drew.cell? ⟨gg, 1, none⟩ = some (.int .i64 vy) := (World.cell?_alloc_lt wr _ ⟨gg, _, none⟩ hg1).trans p2
      go_wp2_with fail
      go_region_held3 (fun w' => w'.cell? ⟨b, off + k * 2, none⟩ = some (.int .i64 x) ∧ w'.cell? ⟨b, off + k * 2 + 1, none⟩ = some (.int .i64 y) ∧ w'.cell? ⟨gg, 0, none⟩ = some (.int .i64 vx) ∧ w'.cell? ⟨gg, 1, none⟩ = some (.int .i64 vy))
        (first
          | go_keep
          | exact ⟨(hgrow.cell_far _ l1 (Ne.symm ne1)).trans k1, (hgrow.cell_far _ l1 (Ne.symm ne1)).trans k2, (hgrow.cell_far _ l2 (Ne.symm ne2)).trans k3, (hgrow.cell_far _ l2 (Ne.symm ne2)).trans k4⟩)
        ((refine step_papp (by rfl) _ _ (by rfl) (gg + 1) _ cur [(IntKind.i64.wrap (x + vx), IntKind.i64.wrap (y + vy))] (some ⟨wr.heap.size, 0, none⟩) 1 1 (by rfl) (by rfl) ((HO.out.alloc _).drew) rfl (PtsAt.one wr _ _) (by have := HLN.out; simp; omega) (by simp; omega) ?_; intro v1 w2 hown1 hgrow hat))
      have e1 : IntKind.i64.wrap (x + vx) = x + vx := by rw [IntKind.wrap_i64]; omega
      have e2 : IntKind.i64.wrap (y + vy) = y + vy := by rw [IntKind.wrap_i64]; omega
      have HO2 : Hid (PtsOwn w2 (gg + 1) v1 (movedL (l.take (k + 1)) (vx, vy))) := Lib.hid (by
        rw [HN.out]
        rw [e1, e2] at hown1
        exact hown1)
      have HB2 : Hid (Below (gg + 1) w1 w2) := Lib.hid ((hbr.alloc (by omega) _).drew.grown hgrow (by simp; omega) (fun k hk => (HO.out.base k hk).1))
      clear hown1 hgrow hat k1 k2 k3 k4 l1 l2 e1 e2
      go_wp2_with fail
      go_roundw
      case rel => exact ⟨k + 1, by omega, by go_num, HO2.out, HB2.out⟩
      case measure => simp [intOf]; omega
    · obtain rfl : k = n := by omega
      have HF : Hid (movedL (l.take k) (vx, vy) = movedL l (vx, vy)) := Lib.hid (by rw [List.take_of_length_le (by rw [HL.out]; omega)])
      generalize movedL (l.take k) (vx, vy) = cur at *
      have HBB := Lib.hid (hb2.trans (hbr.mono (by omega)))
      go_wp2_with fail
      go_ret
      exact ⟨_, rfl, by rw [← HF.out, hgg]; exact HO.out.low (by omega), by rw [hgg]; exact HBB.out⟩

def rightQ (p q x : Pt) : Bool := decide (crossP p q x ≤ 0)
def partsAt (a b : List Pt) (i : Nat) : Bool := b.all (rightQ (gt a i) (nx a i))
def partsB (a b : List Pt) : Bool := (List.range a.length).any (partsAt a b)
theorem parts_at (a b : List Pt) (i : Nat) : partsAt a b i = beyondAt a b i := by
  unfold partsAt beyondAt anyLeft
  generalize gt a i = p
  generalize nx a i = q
  induction b with
  | nil => rfl
  | cons x b ih =>
    rw [List.all_cons, List.any_cons, ih, Bool.not_or]
    congr 1
    unfold rightQ leftQ
    by_cases h : crossP p q x ≤ 0
    · rw [decide_eq_true h, decide_eq_false (by omega)]; rfl
    · rw [decide_eq_false h, decide_eq_true (by omega)]; rfl
theorem parts_same (a b : List Pt) : partsB a b = beyondB a b := by
  unfold partsB beyondB
  rw [show partsAt a b = beyondAt a b from funext (parts_at a b)]

set_option maxRecDepth 100000 in
set_option maxHeartbeats 2000000 in
theorem parts_any (b off n c b' off' m d : Nat) (l r : List Pt) (w : World) (hl : l.length = n) (hn : 0 < n) (hn' : n ≤ 100) (h : PtsIn w b off l) (hb : b < w.heap.size) (hbd : ∀ i, Bd (gt l i))
    (hm : r.length = m) (hm' : m ≤ 100) (hr : PtsIn w b' off' r) (hb' : b' < w.heap.size) (hrd : ∀ i, Bd (gt r i)) :
    Calls Try.prog 70 #[.slice (some ⟨b, off, none⟩) n c, .slice (some ⟨b', off', none⟩) m d] w fun e w' => e = .returned (.bool (partsB l r)) ∧ Below w.heap.size w w' := by
  have HL := Lib.hid hl
  have HP := Lib.hid h
  have HBD := Lib.hid hbd
  have HM := Lib.hid hm
  have HR := Lib.hid hr
  have HRD := Lib.hid hrd
  clear hl h hbd hm hr hrd
  go_enter Try.func70, Try.ntmps70
  go_wp2
  go_loopw [5] (fun i wr => ∃ k : Nat, k ≤ n ∧ i = .int .i64 k ∧ (∀ j, j < k → partsAt l r j = false) ∧ Below w.heap.size w wr) (fun i _ => n - (intOf i).toNat)
  case atStart => exact ⟨0, Nat.zero_le _, rfl, by omega, Below.refl _ _⟩
  case round =>
    obtain ⟨k, hk, rfl, hz, hbw⟩ := hrel
    have HZ := Lib.hid hz
    clear hz
    by_cases hlt : k < n
    · have HPw : Hid (PtsIn wr b off l) := Lib.hid (HP.out.below hbw hb)
      have HRw : Hid (PtsIn wr b' off' r) := Lib.hid (HR.out.below hbw hb')
      have hB : b < wr.heap.size := Nat.lt_of_lt_of_le hb hbw.size
      have hB' : b' < wr.heap.size := Nat.lt_of_lt_of_le hb' hbw.size
      have HBW := Lib.hid hbw
      obtain ⟨wo, rfl⟩ : ∃ wo : World, wo = wr := ⟨_, rfl⟩
      clear hbw
      go_wp2_with fail
      go_loopw [6, 7] (fun s i wr => ∃ q : Nat, q ≤ m ∧ i = .int .i64 q ∧ s = .bool ((r.take q).all (rightQ (gt l k) (nx l k))) ∧ Below wo.heap.size wo wr) (fun _ i _ => m - (intOf i).toNat)
      case atStart => exact ⟨0, Nat.zero_le _, rfl, rfl, Below.refl _ _⟩
      case round =>
        obtain ⟨q, hq, rfl, rfl, hbr⟩ := hrel
        by_cases hlq : q < m
        · have hql : q < r.length := by rw [HM.out]; exact hlq
          have HB1 : b < wr.heap.size := Nat.lt_of_lt_of_le hB hbr.size
          have HB2 : b' < wr.heap.size := Nat.lt_of_lt_of_le hB' hbr.size
          obtain ⟨h1, h2⟩ := (HPw.out.below hbr hB) k (gt l k) (by unfold gt; rw [List.getD_eq_getElem?_getD, List.getElem?_eq_getElem (by rw [HL.out]; exact hlt)]; rfl)
          obtain ⟨h3, h4⟩ := (HRw.out.below hbr hB') q (gt r q) (by unfold gt; rw [List.getD_eq_getElem?_getD, List.getElem?_eq_getElem hql]; rfl)
          have N := fun W hW => Lib.hid (next_any b off n c l k W HL.out (by omega) (by omega) (by omega) ((HPw.out.below hbr hB).below (B := wr.heap.size) hW HB1))
          have d1 := HBD.out k
          have d2 := HBD.out ((k + 1) % l.length)
          rw [← nx_gt] at d2
          have d3 := HRD.out q
          have HS : Hid ((r.take (q + 1)).all (rightQ (gt l k) (nx l k)) = ((r.take q).all (rightQ (gt l k) (nx l k)) && decide (crossP (gt l k) (nx l k) (gt r q) ≤ 0))) := Lib.hid (by
            rw [List.take_succ_eq_append_getElem hql, List.all_append]
            simp [rightQ, gt, List.getD, hql])
          generalize (r.take q).all (rightQ (gt l k) (nx l k)) = t at *
          generalize gt l k = p1 at *
          generalize nx l k = p2 at *
          generalize gt r q = p3 at *
          obtain ⟨x, y⟩ := p1
          obtain ⟨qx, qy⟩ := p2
          obtain ⟨rx, ry⟩ := p3
          have C := fun W => Lib.hid (cross_any x y qx qy rx ry W d1.1 d1.2 d2.1 d2.2 d3.1 d3.2)
          replace HS : Hid ((r.take (q + 1)).all (rightQ (x, y) (qx, qy)) = (t && decide (cross x y qx qy rx ry ≤ 0))) := HS
          clear d1 d2 d3
          generalize cross x y qx qy rx ry = cr at *
          have K1 := fun d os => Lib.hid (Calls.regrown_of ((N (grow (redrawn wr d) os) (below_regrown wr d os)).out))
          have K2 := fun d os => Lib.hid (Calls.regrown_of ((C (grow (redrawn wr d) os)).out))
          have t1 := cell_regrown h1
          have t2' := cell_regrown h2
          have t3 := cell_regrown h3
          have t4 := cell_regrown h4
          clear h1 h2 h3 h4 N C
          cases t
          all_goals
            go_wp2_with fail
            refine wp_region_quiet_below (by kernel_rfl) (by kernel_rfl) ?_
            repeat (go_big_quiet_step (first | (with_reducible exact (K1 _ _).out) | (with_reducible exact (K2 _ _).out)))
            refine wpQuiet_nil ?_
            intro _ hw'
            obtain ⟨⟨dq, osq⟩, hw''⟩ := hw'
            subst hw''
            have HBE := Lib.hid (hbr.trans ((below_regrown wr dq osq).mono hbr.size))
            go_wp2_with fail
            go_roundw
            case rel => exact ⟨q + 1, by omega, by go_num, by rw [HS.out]; simp, HBE.out⟩
            case measure => simp [intOf]; omega
        · obtain rfl : q = m := by omega
          have HT : Hid ((r.take q).all (rightQ (gt l k) (nx l k)) = partsAt l r k) := Lib.hid (by rw [List.take_of_length_le (by rw [HM.out]; omega)]; rfl)
          have HBE := Lib.hid (HBW.out.trans (hbr.mono HBW.out.size))
          generalize (r.take q).all (rightQ (gt l k) (nx l k)) = t at *
          cases t
          · go_wp2_with fail
            go_roundw
            case rel =>
              refine ⟨k + 1, by omega, by go_num, fun j hj => ?_, HBE.out⟩
              rcases Nat.lt_or_eq_of_le (Nat.le_of_lt_succ hj) with h' | h'
              · exact HZ.out j h'
              · rw [h']; exact HT.out.symm
            case measure => simp [intOf]; omega
          · have HF : Hid (partsB l r = true) := Lib.hid (List.any_eq_true.2 ⟨k, List.mem_range.2 (by rw [HL.out]; exact hlt), HT.out.symm⟩)
            go_wp2_with fail
            go_ret
            exact ⟨ret_bool HF.out.symm, HBE.out⟩
    · obtain rfl : k = n := by omega
      have HF : Hid (partsB l r = false) := Lib.hid (by
        unfold partsB
        rw [List.any_eq_false]
        intro j hj
        rw [HZ.out j (by have := List.mem_range.1 hj; rwa [HL.out] at this)]
        simp)
      go_wp2_with fail
      go_ret
      exact ⟨ret_bool HF.out.symm, hbw⟩

theorem refApart_any (b off n c b' off' m d : Nat) (l r : List Pt) (w : World) (hl : l.length = n) (hn : 0 < n) (hn' : n ≤ 100) (h : PtsIn w b off l) (hb : b < w.heap.size) (hbd : ∀ x ∈ l, Bd x)
    (hm : r.length = m) (hm0 : 0 < m) (hm' : m ≤ 100) (h' : PtsIn w b' off' r) (hb' : b' < w.heap.size) (hrd : ∀ x ∈ r, Bd x) :
    Calls Try.prog 40 #[.slice (some ⟨b, off, none⟩) n c, .slice (some ⟨b', off', none⟩) m d] w fun e w' => e = .returned (.bool (apartB l r)) ∧ Below w.heap.size w w' := by
  have gt_bd : ∀ (l : List Pt), (∀ x ∈ l, Bd x) → ∀ i, Bd (gt l i) := fun l hl i => by
    unfold gt
    rw [List.getD_eq_getElem?_getD]
    cases e : l[i]? with
    | none => exact ⟨by decide, by decide⟩
    | some x => exact hl x (List.mem_of_getElem? e)
  have K1 := fun W (hW : Below w.heap.size w W) => Lib.hid (parts_any b off n c b' off' m d l r W hl hn hn' (h.below hW hb) (Nat.lt_of_lt_of_le hb hW.size) (gt_bd l hbd) hm hm' (h'.below hW hb') (Nat.lt_of_lt_of_le hb' hW.size) (gt_bd r hrd))
  have K2 := fun W (hW : Below w.heap.size w W) => Lib.hid (parts_any b' off' m d b off n c r l W hm hm0 hm' (h'.below hW hb') (Nat.lt_of_lt_of_le hb' hW.size) (gt_bd r hrd) hl hn' (h.below hW hb) (Nat.lt_of_lt_of_le hb hW.size) (gt_bd l hbd))
  rw [parts_same] at K1 K2
  have E : Hid (apartB l r = (beyondB l r || beyondB r l)) := Lib.hid rfl
  clear hl h hbd hm h' hrd gt_bd
  generalize apartB l r = t at *
  generalize beyondB l r = t1 at *
  generalize beyondB r l = t2 at *
  cases t1
  · go_enter Try.func40, Try.ntmps40
    go_wp2_with fail
    refine ((K1 _ (Below.refl _ _)).out).mono ?_
    rintro e w1 ⟨rfl, hb1⟩
    go_wp2_with fail
    refine ((K2 _ hb1).out).mono ?_
    rintro e w2 ⟨rfl, hb2⟩
    have hb3 := hb1.trans (hb2.mono hb1.size)
    go_wp2
    go_ret
    exact ⟨ret_bool (by rw [E.out]; rfl), hb3⟩
  · go_enter Try.func40, Try.ntmps40
    go_wp2_with fail
    refine ((K1 _ (Below.refl _ _)).out).mono ?_
    rintro e w1 ⟨rfl, hb1⟩
    go_wp2
    go_ret
    exact ⟨ret_bool (by rw [E.out]; rfl), hb1⟩
end Go.Proofs.Ytlmdmgbhfoehgaa

/- Package shape's chain. -/
namespace Go.Proofs.Ytlmdmgbhfoehgaa
open Go.RowKit Go.Sort
attribute [local go_sem ↓] run_min_mn run_max_mx Go.wp_at_zero Go.wp_at_succ

theorem PtsOwn.nil (w : World) (base : Nat) : PtsOwn w base (.slice none 0 0) [] := by
  unfold PtsOwn World.ownsRow
  exact ⟨by simp [ptsV], .inl ⟨rfl, rfl⟩⟩
theorem ptsV_take : ∀ (l : List Pt) (k : Nat), (ptsV l).take (k * 2) = ptsV (l.take k)
  | [], k => by simp [ptsV]
  | p :: l, 0 => by simp [ptsV]
  | p :: l, k + 1 => by
    rw [show (k + 1) * 2 = k * 2 + 1 + 1 by omega]
    simp only [ptsV, List.take_succ_cons, ptsV_take l k]
theorem PtsOwn.shrink {w : World} {base : Nat} {A : Option Addr} {n c : Nat} {l : List Pt} (h : PtsOwn w base (.slice A n c) l) (hn : l.length = n) {k : Nat} (hk : k ≤ n) : PtsOwn w base (.slice A k c) (l.take k) := by
  have hlen : (l.take k).length = k := by rw [List.length_take]; omega
  unfold PtsOwn World.ownsRow at *
  rw [hn] at h
  rw [hlen]
  obtain ⟨h1, h2⟩ := h
  refine ⟨by rw [ptsV_length, hlen], ?_⟩
  rcases h2 with ⟨e1, e2⟩ | ⟨g, cap, cur, e, hb, hg, hnc, hh, hsz, ht⟩
  · left
    have : n = 0 := e2
    have hk0 : k = 0 := by omega
    subst hk0
    simp only [Value.slice.injEq] at e1
    exact ⟨by rw [e1.1, e1.2.2], rfl⟩
  · right
    simp only [Value.slice.injEq] at e
    obtain ⟨rfl, -, rfl⟩ := e
    refine ⟨g, c, cur, rfl, hb, hg, by omega, hh, hsz, ?_⟩
    rw [← ptsV_take, ← ht, List.take_take]
    congr 1
    omega
theorem PtsOwn.belows {w w' : World} {base B : Nat} {v : Value} {xs : List Pt} (h : PtsOwn w base v xs) (hb : Below B w w') (hB : w.heap.size ≤ B) : PtsOwn w' base v xs := by
  unfold PtsOwn World.ownsRow at *
  obtain ⟨h1, h2⟩ := h
  refine ⟨h1, ?_⟩
  rcases h2 with h2 | ⟨g, cap, cur, e, hb1, hg, hr⟩
  · exact .inl h2
  · exact .inr ⟨g, cap, cur, e, hb1, (hb.block g (Nat.lt_of_lt_of_le (Array.getElem?_eq_some_iff.1 hg).1 hB)).trans hg, hr⟩

theorem popW_suffix (x : Pt) : ∀ st : List Pt, popW x st <:+ st
  | [] => List.suffix_refl _
  | [_] => List.suffix_refl _
  | b :: a :: r => by
    rw [popW]
    split
    · exact (popW_suffix x (a :: r)).trans (List.suffix_cons _ _)
    · exact List.suffix_refl _
theorem chainW_mem : ∀ (l st : List Pt) (s : Pt), s ∈ l.foldl pushW st → s ∈ l ∨ s ∈ st
  | [], _, _, h => .inr h
  | x :: l, st, s, h => by
    rcases chainW_mem l (pushW st x) s h with h | h
    · exact .inl (List.mem_cons_of_mem _ h)
    · rcases List.mem_cons.1 h with rfl | h
      · exact .inl (by simp)
      · exact .inr ((popW_suffix x st).subset h)
theorem chainW_len : ∀ (l st : List Pt), (l.foldl pushW st).length ≤ l.length + st.length
  | [], _ => by simp
  | x :: l, st => by
    have h1 := chainW_len l (pushW st x)
    have h2 := (popW_suffix x st).length_le
    simp only [List.foldl_cons, List.length_cons, pushW] at h1 ⊢
    omega

theorem PtsOwn.slice_n {w : World} {base : Nat} {v : Value} {l : List Pt} (h : PtsOwn w base v l) {n : Nat} (hn : l.length = n) : ∃ A c, v = .slice A n c ∧ n ≤ c ∧ PtsAt w A l := by
  obtain ⟨A, c, h1, h2, h3, _⟩ := h.slice
  exact ⟨A, c, by rw [h1, hn], by rw [← hn]; exact h2, h3⟩
def slLen : Value → Nat
  | .slice _ n _ => n
  | _ => 0

set_option maxRecDepth 100000 in
set_option maxHeartbeats 4000000 in
theorem chain_any (b off n c : Nat) (l : List Pt) (w : World) (hl : l.length = n) (hn' : n ≤ 100) (h : PtsIn w b off l) (hb : b < w.heap.size) (hbd : ∀ x ∈ l, Bd x) :
    Calls Try.prog 81 #[.slice (some ⟨b, off, none⟩) n c] w (RefMovedTo (chainW l).reverse w) := by
  have HL := Lib.hid hl
  have HP := Lib.hid h
  have HBD := Lib.hid hbd
  clear hl h hbd
  go_enter Try.func81, Try.ntmps81
  go_wp2
  go_loopw [3, 8] (fun s i wr => ∃ k : Nat, k ≤ n ∧ i = .int .i64 k ∧ PtsOwn wr w.heap.size s ((l.take k).foldl pushW []).reverse ∧ Below w.heap.size w wr) (fun _ i _ => n - (intOf i).toNat)
  case atStart => exact ⟨0, Nat.zero_le _, rfl, PtsOwn.nil _ _, Below.refl _ _⟩
  case round =>
    obtain ⟨k, hk, rfl, hO, hbw⟩ := hrel
    have HO := Lib.hid hO
    have HBW := Lib.hid hbw
    clear hO
    by_cases hlt : k < n
    · have hkl : k < l.length := by rw [HL.out]; exact hlt
      obtain ⟨h1, h2⟩ := (HP.out.below hbw hb) k (gt l k) (by unfold gt; rw [List.getD_eq_getElem?_getD, List.getElem?_eq_getElem hkl]; rfl)
      have hB : b < wr.heap.size := Nat.lt_of_lt_of_le hb hbw.size
      have HN : Hid ((l.take (k + 1)).foldl pushW [] = pushW ((l.take k).foldl pushW []) (gt l k)) := Lib.hid (by
        rw [List.take_succ_eq_append_getElem hkl, List.foldl_append]
        simp [gt, List.getD, hkl])
      have HM : Hid (∀ s ∈ (l.take k).foldl pushW [], Bd s) := Lib.hid fun s hs => by
        rcases chainW_mem _ _ _ hs with h | h
        · exact HBD.out s (List.take_subset _ _ h)
        · cases h
      have HLN : Hid (((l.take k).foldl pushW []).length ≤ 100) := Lib.hid (by
        have := chainW_len (l.take k) []
        rw [List.length_take] at this
        simp only [List.length_nil] at this
        omega)
      have hx : Bd (gt l k) := HBD.out _ (by unfold gt; rw [List.getD_eq_getElem?_getD, List.getElem?_eq_getElem hkl]; exact List.getElem_mem hkl)
      generalize (l.take k).foldl pushW [] = st0 at *
      generalize gt l k = p at *
      obtain ⟨x, y⟩ := p
      obtain ⟨x1, x2⟩ := hx
      have hsz := hbw.size
      clear hbw
      obtain ⟨wo, rfl⟩ : ∃ wo : World, wo = wr := ⟨_, rfl⟩
      have Bq : PtAt (wo.alloc (bx x y)) wo.heap.size x y := PtAt.new
      have hbq : Below wo.heap.size wo (wo.alloc (bx x y)) := (Below.refl _ _).alloc (Nat.le_refl _) _
      have hzq : (wo.alloc (bx x y)).heap.size = wo.heap.size + 1 := by simp
      have O1 : PtsOwn (wo.alloc (bx x y)) w.heap.size u3 st0.reverse := HO.out.alloc _
      have HBQ : Hid (Below w.heap.size w (wo.alloc (bx x y))) := Lib.hid (HBW.out.trans (hbq.mono HBW.out.size))
      go_wp2_with fail
      generalize wo.alloc (bx x y) = wq at *
      generalize hgq : wo.heap.size = gq at *
      have HO1 := Lib.hid O1
      clear O1 hbq HO HBW h1 h2
      go_loopw [3] (fun s wi => ∃ st, PtsOwn wi w.heap.size s (List.reverse st) ∧ popW (x, y) st = popW (x, y) st0 ∧ st <:+ st0 ∧ Below wq.heap.size wq wi) (fun s _ => slLen s)
      case atStart => exact ⟨st0, HO1.out, rfl, List.suffix_refl _, Below.refl _ _⟩
      case round =>
        clear HO1
        obtain ⟨st, hO, hpop, hsuf, hbi⟩ := hrel
        have HPOP := Lib.hid hpop
        have HSUF := Lib.hid hsuf
        have hlen : st.length ≤ 100 := Nat.le_trans hsuf.length_le HLN.out
        have hgi : gq < wr.heap.size := by have := hbi.size; omega
        have Q0 : Hid (PtAt wr gq x y) := Lib.hid (PtAt.below hbi (by omega) Bq)
        obtain ⟨q1, q2⟩ := Q0.out
        have HBI := Lib.hid hbi
        have HBW := Lib.hid (HBQ.out.trans (hbi.mono HBQ.out.size))
        have HBDS : Hid (∀ s ∈ st, Bd s) := Lib.hid fun s hs => HM.out s (hsuf.subset hs)
        clear hpop hsuf hbi
        rcases st with _ | ⟨t, _ | ⟨a, r⟩⟩
        · obtain ⟨A1, c1, rfl, hc1, hat⟩ := hO.slice_n (n := 0) rfl
          have HO := Lib.hid hO
          clear hO hat
          go_wp2_with fail
          refine wp_region_quiet_below (by kernel_rfl) (by kernel_rfl) ?_
          repeat (go_big_quiet_step (fail))
          refine wpQuiet_nil ?_
          intro _ hw'
          obtain ⟨⟨dq, osq⟩, hw''⟩ := hw'
          subst hw''
          have hbr := below_regrown wr dq osq
          generalize grow (redrawn wr dq) osq = w2 at *
          have O2 : Hid (PtsOwn w2 w.heap.size _ (([] : List Pt)).reverse) := Lib.hid (HO.out.belows hbr (Nat.le_refl _))
          have HB2 := Lib.hid (HBW.out.trans (hbr.mono HBW.out.size))
          have hg2 : gq < w2.heap.size := Nat.lt_of_lt_of_le hgi hbr.size
          obtain ⟨q1, q2⟩ := PtAt.below hbr hgi Q0.out
          have HE : Hid ((pushW st0 (x, y)).reverse = (([] : List Pt)).reverse ++ [(x, y)]) := Lib.hid (by
            have e : popW (x, y) (([] : List Pt)) = ([] : List Pt) := rfl
            unfold pushW
            rw [List.reverse_cons, ← HPOP.out, e])
          have hsz2 := HB2.out.size
          clear hbr
          have hA1 : (([] : List Pt)).reverse.length + [(x, y)].length ≤ 100000 := by first | (rw [List.length_reverse, hq2]; simp; omega) | simp
          have hA2 : w.heap.size ≤ (w2.alloc (bx x y)).heap.size := by rw [World.size_alloc]; omega
          go_wp2_with (at_builtin; refine wpList_papp rfl (.tmp 37) (.tmp 39) rfl w.heap.size _ ((([] : List Pt)).reverse) [(x, y)] (some ⟨w2.heap.size, 0, none⟩) 1 1 rfl rfl (O2.out.alloc _) rfl (PtsAt.one w2 x y) hA1 hA2 ?_; intro v1 w3 ho hg hat; have HO3 := Lib.hid ho; have HG3 := Lib.hid hg; clear ho hg hat)
          have HB3 : Hid (Below w.heap.size w w3) := Lib.hid ((HB2.out.alloc hsz2 _).grown HG3.out (by simp; omega) (fun k hk => (O2.out.base k hk).1))
          go_wp2_with fail
          go_roundw
          case rel => exact ⟨k + 1, by omega, by go_num, by rw [HN.out, HE.out]; exact HO3.out, HB3.out⟩
          case measure => simp [intOf]; omega
        · obtain ⟨A1, c1, rfl, hc1, hat⟩ := hO.slice_n (n := 1) rfl
          have HO := Lib.hid hO
          clear hO hat
          go_wp2_with fail
          refine wp_region_quiet_below (by kernel_rfl) (by kernel_rfl) ?_
          repeat (go_big_quiet_step (fail))
          refine wpQuiet_nil ?_
          intro _ hw'
          obtain ⟨⟨dq, osq⟩, hw''⟩ := hw'
          subst hw''
          have hbr := below_regrown wr dq osq
          generalize grow (redrawn wr dq) osq = w2 at *
          have O2 : Hid (PtsOwn w2 w.heap.size _ ([t]).reverse) := Lib.hid (HO.out.belows hbr (Nat.le_refl _))
          have HB2 := Lib.hid (HBW.out.trans (hbr.mono HBW.out.size))
          have hg2 : gq < w2.heap.size := Nat.lt_of_lt_of_le hgi hbr.size
          obtain ⟨q1, q2⟩ := PtAt.below hbr hgi Q0.out
          have HE : Hid ((pushW st0 (x, y)).reverse = ([t]).reverse ++ [(x, y)]) := Lib.hid (by
            have e : popW (x, y) ([t]) = [t] := rfl
            unfold pushW
            rw [List.reverse_cons, ← HPOP.out, e])
          have hsz2 := HB2.out.size
          clear hbr
          have hA1 : ([t]).reverse.length + [(x, y)].length ≤ 100000 := by first | (rw [List.length_reverse, hq2]; simp; omega) | simp
          have hA2 : w.heap.size ≤ (w2.alloc (bx x y)).heap.size := by rw [World.size_alloc]; omega
          go_wp2_with (at_builtin; refine wpList_papp rfl (.tmp 37) (.tmp 39) rfl w.heap.size _ (([t]).reverse) [(x, y)] (some ⟨w2.heap.size, 0, none⟩) 1 1 rfl rfl (O2.out.alloc _) rfl (PtsAt.one w2 x y) hA1 hA2 ?_; intro v1 w3 ho hg hat; have HO3 := Lib.hid ho; have HG3 := Lib.hid hg; clear ho hg hat)
          have HB3 : Hid (Below w.heap.size w w3) := Lib.hid ((HB2.out.alloc hsz2 _).grown HG3.out (by simp; omega) (fun k hk => (O2.out.base k hk).1))
          go_wp2_with fail
          go_roundw
          case rel => exact ⟨k + 1, by omega, by go_num, by rw [HN.out, HE.out]; exact HO3.out, HB3.out⟩
          case measure => simp [intOf]; omega
        · have hlr : (t :: a :: r).reverse.length = r.length + 2 := by simp
          have ha : (t :: a :: r).reverse[r.length]? = some a := by
            rw [List.getElem?_reverse (by simp; omega)]
            rw [show (t :: a :: r).length - 1 - r.length = 1 by simp]; rfl
          have ht : (t :: a :: r).reverse[r.length + 1]? = some t := by
            rw [List.getElem?_reverse (by simp)]
            rw [show (t :: a :: r).length - 1 - (r.length + 1) = 0 by simp]; rfl
          obtain ⟨A1, c1, rfl, hc1, hat⟩ := hO.slice_n hlr
          obtain ⟨g, og, rfl, hgl, hin⟩ := hat (by simp)
          obtain ⟨a1, a2⟩ := hin _ _ ha
          obtain ⟨t1, t2⟩ := hin _ _ ht
          have HO := Lib.hid hO
          have HPS : Hid (popW (x, y) (t :: a :: r) = if crossP a t (x, y) ≤ 0 then popW (x, y) (a :: r) else t :: a :: r) := Lib.hid (by rw [popW])
          have hbt := HBDS.out t (by simp)
          have hba := HBDS.out a (by simp)
          have hq : r.length ≤ 100 := by simp at hlen; omega
          clear hO hat hin ha ht hlr hlen
          generalize hql : r.length = q at *
          have HQL := Lib.hid hql
          clear hql
          obtain ⟨tx, ty⟩ := t
          obtain ⟨ax, ay⟩ := a
          have C := fun W => Lib.hid (turn_any ax ay tx ty x y W hba.1 hba.2 hbt.1 hbt.2 x1 x2)
          have HCR : Hid (crossP (ax, ay) (tx, ty) (x, y) = cross ax ay tx ty x y) := Lib.hid rfl
          clear hba hbt
          generalize cross ax ay tx ty x y = cr at *
          have K1 := fun d os => Lib.hid (Calls.regrown_of ((C (grow (redrawn wr d) os)).out))
          have k1 := cell_regrown q1
          have k2 := cell_regrown q2
          have k3 := cell_regrown a1
          have k4 := cell_regrown a2
          have k5 := cell_regrown t1
          have k6 := cell_regrown t2
          clear q1 q2 a1 a2 t1 t2 C
          have hg : decide ((1 : Int) < (q : Int) + 2) = true := decide_eq_true (by omega)
          go_wp2_with fail
          refine wp_region_quiet_below (by kernel_rfl) (by kernel_rfl) ?_
          repeat (go_big_quiet_step (first | (with_reducible exact (K1 _ _).out)))
          refine wpQuiet_nil ?_
          intro _ hw'
          obtain ⟨⟨dq, osq⟩, hw''⟩ := hw'
          subst hw''
          by_cases hcr : cr ≤ 0
          · have HP2 : Hid (popW (x, y) ((ax, ay) :: r) = popW (x, y) st0) := Lib.hid (by rw [← HPOP.out, HPS.out, HCR.out, if_pos hcr])
            have hbr := below_regrown wr dq osq
            generalize grow (redrawn wr dq) osq = w2 at *
            have O2 : Hid (PtsOwn w2 w.heap.size (.slice (some ⟨g, og, none⟩) (q + 1) c1) (((ax, ay) :: r).reverse)) := Lib.hid (by
              have h := (HO.out.belows hbr (Nat.le_refl _)).shrink (n := q + 2) (k := q + 1) (by have := HQL.out; simp; omega) (by omega)
              rw [show ((tx, ty) :: (ax, ay) :: r).reverse.take (q + 1) = ((ax, ay) :: r).reverse by
                rw [List.reverse_cons, List.take_append_of_le_length (by have := HQL.out; simp; omega), List.take_of_length_le (by have := HQL.out; simp; omega)]] at h
              exact h)
            have HB2 := Lib.hid (HBI.out.trans (hbr.mono HBI.out.size))
            clear hbr
            go_wp2_with fail
            go_roundw
            case rel => exact ⟨(ax, ay) :: r, O2.out, HP2.out, (List.suffix_cons _ _).trans HSUF.out, HB2.out⟩
            case measure => simp [slLen]
          · have HNP : Hid (popW (x, y) ((tx, ty) :: (ax, ay) :: r) = (tx, ty) :: (ax, ay) :: r) := Lib.hid (by rw [HPS.out, HCR.out, if_neg hcr])
            have hq2 : ((tx, ty) :: (ax, ay) :: r).length = q + 2 := by have := HQL.out; simp; omega
            have hbr := below_regrown wr dq osq
            generalize grow (redrawn wr dq) osq = w2 at *
            have O2 : Hid (PtsOwn w2 w.heap.size _ ((tx, ty) :: (ax, ay) :: r).reverse) := Lib.hid (HO.out.belows hbr (Nat.le_refl _))
            have HB2 := Lib.hid (HBW.out.trans (hbr.mono HBW.out.size))
            have hg2 : gq < w2.heap.size := Nat.lt_of_lt_of_le hgi hbr.size
            obtain ⟨q1, q2⟩ := PtAt.below hbr hgi Q0.out
            have HE : Hid ((pushW st0 (x, y)).reverse = ((tx, ty) :: (ax, ay) :: r).reverse ++ [(x, y)]) := Lib.hid (by
              have e : popW (x, y) ((tx, ty) :: (ax, ay) :: r) = (tx, ty) :: (ax, ay) :: r := HNP.out
              unfold pushW
              rw [List.reverse_cons, ← HPOP.out, e])
            have hsz2 := HB2.out.size
            clear hbr
            have hA1 : ((tx, ty) :: (ax, ay) :: r).reverse.length + [(x, y)].length ≤ 100000 := by first | (rw [List.length_reverse, hq2]; simp; omega) | simp
            have hA2 : w.heap.size ≤ (w2.alloc (bx x y)).heap.size := by rw [World.size_alloc]; omega
            go_wp2_with (at_builtin; refine wpList_papp rfl (.tmp 37) (.tmp 39) rfl w.heap.size _ (((tx, ty) :: (ax, ay) :: r).reverse) [(x, y)] (some ⟨w2.heap.size, 0, none⟩) 1 1 rfl rfl (O2.out.alloc _) rfl (PtsAt.one w2 x y) hA1 hA2 ?_; intro v1 w3 ho hg hat; have HO3 := Lib.hid ho; have HG3 := Lib.hid hg; clear ho hg hat)
            have HB3 : Hid (Below w.heap.size w w3) := Lib.hid ((HB2.out.alloc hsz2 _).grown HG3.out (by simp; omega) (fun k hk => (O2.out.base k hk).1))
            go_wp2_with fail
            go_roundw
            case rel => exact ⟨k + 1, by omega, by go_num, by rw [HN.out, HE.out]; exact HO3.out, HB3.out⟩
            case measure => simp [intOf]; omega
    · obtain rfl : k = n := by omega
      have HF : Hid ((l.take k).foldl pushW [] = chainW l) := Lib.hid (by rw [List.take_of_length_le (by rw [HL.out]; omega)]; rfl)
      clear hbw
      go_wp2_with fail
      go_ret
      exact ⟨_, rfl, by rw [← HF.out]; exact HO.out, HBW.out⟩
end Go.Proofs.Ytlmdmgbhfoehgaa

/- slices.Clone of points. -/
namespace Go.Proofs.Ytlmdmgbhfoehgaa
open Go.RowKit Go.Sort
attribute [local go_sem ↓] run_min_mn run_max_mx

theorem clone_any (b off n c : Nat) (l : List Pt) (w : World) (hn : l.length = n) (hbig : n ≤ 100) (hin : PtsIn w b off l) (hb : b < w.heap.size) :
    Calls Try.prog 79 #[.slice (some ⟨b, off, none⟩) n c] w (RefMovedTo l w) := by
  have hnil := fun W => Lib.run_eql_slice_nil (P := Try.prog) W 22 38 (some ⟨b, off, none⟩) n c 0 0 Try.underlying22
  have hx : PtsAt (w.alloc (.cells #[] 38)) (some ⟨b, off, none⟩) l := fun _ => ⟨b, off, rfl, by simp; omega, hin.below ((Below.refl _ _).alloc (Nat.le_refl _) _) hb⟩
  have HX := Lib.hid hx
  have HN := Lib.hid hn
  clear hn hx hin
  go_enter Try.func79, Try.ntmps79
  go_wp2_with (at_builtin; refine wpList_papp rfl (.tmp 5) (.tmp 6) rfl w.heap.size (.slice (some ⟨w.heap.size, 0, none⟩) 0 0) [] l _ n c rfl rfl (PtsOwn.empty w) HN.out HX.out (by rw [HN.out]; simp; omega) (by simp) ?_; intro v1 w1 ho hg hat; have HO := Lib.hid ho; have HG := Lib.hid hg; clear ho hg hat)
  go_ret
  exact ⟨_, rfl, by simpa using HO.out, ((Below.refl _ _).alloc (Nat.le_refl _) _).grown HG.out (by simp) (by simp [Value.ownBlock])⟩
end Go.Proofs.Ytlmdmgbhfoehgaa

/- slices.SortFunc by package shape's compare, and slices.Reverse, on a row of the call's own. -/
namespace Go.Proofs.Ytlmdmgbhfoehgaa
open Go.RowKit Go.Sort
attribute [local go_sem ↓] run_min_mn run_max_mx

set_option maxRecDepth 100000 in
set_option maxHeartbeats 1000000 in
theorem compare_lays (ax ay bx by' : Int) (w : World) :
    Calls Try.prog 78 #[.agg #[.int .i64 ax, .int .i64 ay], .agg #[.int .i64 bx, .int .i64 by']] w fun e w' =>
      e = .returned (.int .i64 (cmpP ax ay bx by')) ∧ ∃ q os', w' = grow (w.drewN q) os' := by
  have C1 := fun W => Lib.hid ((cmpI_any ay by' W).mono fun _ _ h => And.intro h.1 h.2.symm)
  have C2 := fun W => Lib.hid ((cmpI_any ax bx W).mono fun _ _ h => And.intro h.1 h.2.symm)
  have H : Hid (cmpP ax ay bx by' = orI (cmpI ay by') (cmpI ax bx)) := Lib.hid rfl
  generalize cmpI ay by' = u at *
  generalize cmpI ax bx = v at *
  generalize cmpP ax ay bx by' = r at *
  go_enter Try.func78, Try.ntmps78
  go_wp2_with fail
  have B := boxed2 w ax ay bx by'
  have HW : Hid (((w.alloc (Go.Proofs.Ytlmdmgbhfoehgaa.bx ax ay)).alloc (Go.Proofs.Ytlmdmgbhfoehgaa.bx bx by')) = grow w #[Go.Proofs.Ytlmdmgbhfoehgaa.bx ax ay, Go.Proofs.Ytlmdmgbhfoehgaa.bx bx by']) := Lib.hid (by
    rw [alloc_eq_grow, alloc_eq_grow, grow_grow]; rfl)
  generalize ((w.alloc (Go.Proofs.Ytlmdmgbhfoehgaa.bx ax ay)).alloc (Go.Proofs.Ytlmdmgbhfoehgaa.bx bx by')) = W0 at *
  obtain ⟨⟨a1, a2⟩, ⟨b1, b2⟩, hb, hz⟩ := B
  clear hb hz
  refine wp_region_still_tail 10 (by kernel_rfl) (by kernel_rfl) ?_
  simp only [List.take_succ_cons, List.take_zero, List.drop_succ_cons, List.drop_zero]
  change wpStill _ _ W0.drew _ _ _
  replace a1 : W0.drew.cell? _ = _ := a1
  replace a2 : W0.drew.cell? _ = _ := a2
  replace b1 : W0.drew.cell? _ = _ := b1
  replace b2 : W0.drew.cell? _ = _ := b2
  iterate 4 still_step
  still_call (C1 _).out
  iterate 4 still_step
  still_call (C2 _).out
  refine wpStill_nil ?_
  change wpList _ _ _ _ _ W0.drew
  go_wp2_with fail
  refine (or_any _ u v _ (by go_simp) (by go_simp)).mono ?_
  rintro e w' ⟨rfl, rfl⟩
  go_wp2
  go_ret
  refine ⟨ret_int H.out.symm, 1, #[Go.Proofs.Ytlmdmgbhfoehgaa.bx ax ay, Go.Proofs.Ytlmdmgbhfoehgaa.bx bx by'] ++ #[Obj.cells #[Value.int IntKind.i64 u, Value.int IntKind.i64 v] 3], ?_⟩
  rw [HW.out, alloc_eq_grow, grow_grow, drew_grow]
  rfl

/-- A point's two cells. -/
def encP (x : Pt) : List Value := [.int .i64 x.1, .int .i64 x.2]
theorem ptsV_enc : ∀ l : List Pt, ptsV l = l.flatMap encP
  | [] => rfl
  | p :: l => by simp only [ptsV, List.flatMap_cons, encP, ptsV_enc l]; rfl
theorem ptsV_at' {l : List Pt} {t : Nat} (h : t < l.length * 2) : (ptsV l)[t]? = some ((encP (gt l (t / 2)))[t % 2]!) := by
  have hi : t / 2 < l.length := by omega
  have hg : l[t / 2]? = some (gt l (t / 2)) := by
    unfold gt; rw [List.getD_eq_getElem?_getD, List.getElem?_eq_getElem hi]; rfl
  obtain ⟨h1, h2⟩ := ptsV_get l (t / 2) _ hg
  rcases Nat.mod_two_eq_zero_or_one t with e | e
  · rw [e, show t = t / 2 * 2 by omega, h1, show t / 2 * 2 / 2 = t / 2 by omega]; rfl
  · rw [e]
    have : t = t / 2 * 2 + 1 := by omega
    rw [this, h2, show (t / 2 * 2 + 1) / 2 = t / 2 by omega]; rfl
theorem gt_arr (l : List Pt) (i : Nat) : (l.toArray)[i]! = gt l i := by
  unfold gt
  rw [List.getD_eq_getElem?_getD]
  simp only [List.getElem!_toArray]
  rw [List.getElem!_eq_getElem?_getD]
  rfl

theorem holds_own {w : World} {base g n c : Nat} {l : List Pt} (h : PtsOwn w base (.slice (some ⟨g, 0, none⟩) n c) l) (hn : l.length = n) : HoldsK encP 2 w g 0 l.toArray := by
  unfold PtsOwn World.ownsRow at h
  obtain ⟨h1, h2⟩ := h
  rcases h2 with ⟨e, _⟩ | ⟨g', cap, cur, e, hb, hg, hnc, hh, hsz, ht⟩
  · cases e
  · simp only [Value.slice.injEq, Option.some.injEq, Addr.mk.injEq] at e
    obtain ⟨⟨rfl, -, -⟩, -, -⟩ := e
    intro j hj
    rw [size_flatK] at hj
    have hj2 : j < l.length * 2 := by simpa using hj
    rw [get_flatK _ _ _ _ hj, gt_arr]
    refine ⟨?_, ?_⟩
    · rw [cell_of_row w g _ cur _ (0, 0) hg, Nat.zero_add]
      have := ptsV_at' hj2
      rw [← ht, List.getElem?_take, if_pos hj2] at this
      simpa using this
    · simp [World.frozen?, hg]

/-- The row after a sort, or whatever else lays it anew. -/
theorem own_laid {w : World} {base g n c m : Nat} {l l' : List Pt} {os : Array Obj} (h : PtsOwn w base (.slice (some ⟨g, 0, none⟩) n c) l) (hn : l.length = n) (hn' : l'.length = n) :
    PtsOwn (sortWorldK encP 2 w g 0 m l'.toArray os) base (.slice (some ⟨g, 0, none⟩) n c) l' ∧ w.grownBy (sortWorldK encP 2 w g 0 m l'.toArray os) (some g) := by
  unfold PtsOwn World.ownsRow at *
  obtain ⟨h1, h2⟩ := h
  rcases h2 with ⟨e, _⟩ | ⟨g', cap, cur, e, hb, hg, hnc, hh, hsz, ht⟩
  · cases e
  · simp only [Value.slice.injEq, Option.some.injEq, Addr.mk.injEq] at e
    obtain ⟨⟨rfl, -, -⟩, -, rfl⟩ := e
    have hgl : g < w.heap.size := (Array.getElem?_eq_some_iff.1 hg).1
    rw [hn] at ht hnc
    have hrow : (sortWorldK encP 2 w g 0 m l'.toArray os).heap[g]? = some (.cells (putCells id 0 (flatK encP 2 l'.toArray) cur) 38 (0, 0)) := by
      unfold sortWorldK grow putRowK putRow mapBlock Go.Sort.ahead
      simp only
      rw [Array.getElem?_append_left (by simpa using hgl), Array.getElem?_modify, if_pos rfl, hg]
      rfl
    refine ⟨⟨by rw [ptsV_length], .inr ⟨g, c, _, by rw [hn'], hb, hrow, by rw [hn']; exact hnc, hh, by simp [putCells, hsz], ?_⟩⟩, ?_⟩
    · apply List.ext_getElem?
      intro t
      rw [List.getElem?_take]
      by_cases q : t < l'.length * 2
      · rw [if_pos q, ptsV_at' q]
        have hc : t < cur.size := by rw [hsz]; have : l'.length * 2 ≤ c * 2 := by omega
                                     omega
        simp only [putCells, Array.getElem?_toList, Array.getElem?_mapIdx, Array.getElem?_eq_getElem hc, Option.map_some]
        rw [if_pos ⟨Nat.zero_le _, by simpa using q⟩, Nat.sub_zero, get_flatK _ _ _ _ (by simpa using q), gt_arr]
        rfl
      · rw [if_neg q, List.getElem?_eq_none (by rw [ptsV_length]; omega)]
    · refine ⟨rfl, rfl, rfl, by simp [sortWorldK, putRowK], fun k hk hne => ?_⟩
      have hkg : ¬ g = k := fun e => hne (by rw [e])
      unfold sortWorldK grow putRowK putRow mapBlock Go.Sort.ahead
      simp only
      rw [Array.getElem?_append_left (by simp; omega), Array.getElem?_modify, if_neg hkg]

theorem PtsOwn.other {w w' : World} {base g : Nat} {v : Value} {l : List Pt} (h : PtsOwn w base v l) (hg : w.grownBy w' (some g)) (hne : v.ownBlock ≠ some g) : PtsOwn w' base v l := by
  unfold PtsOwn World.ownsRow at *
  obtain ⟨h1, h2⟩ := h
  refine ⟨h1, ?_⟩
  rcases h2 with h2 | ⟨k, cap, cur, e, hb1, hk, hr⟩
  · exact .inl h2
  · refine .inr ⟨k, cap, cur, e, hb1, (hg.block k (Array.getElem?_eq_some_iff.1 hk).1 (fun q => hne ?_)).trans hk, hr⟩
    rw [e]; exact q
theorem PtsOwn.row {w : World} {base : Nat} {v : Value} {l : List Pt} {n : Nat} (h : PtsOwn w base v l) (hn : l.length = n) (h0 : 0 < n) :
    ∃ g c, v = .slice (some ⟨g, 0, none⟩) n c ∧ n ≤ c ∧ base ≤ g ∧ g < w.heap.size ∧ PtsIn w g 0 l := by
  obtain ⟨A, c, e, h1, hat, hbase⟩ := h.slice
  obtain ⟨g, og, rfl, hg, hin⟩ := hat (by intro e; subst e; simp at hn; omega)
  have hog : og = 0 := by
    subst e
    rcases h.2 with ⟨e, _⟩ | ⟨g', cap, cur, e, _⟩
    · cases e
    · simp only [Value.slice.injEq, Option.some.injEq, Addr.mk.injEq] at e; exact e.1.2.1
  subst hog
  rw [hn] at e h1
  exact ⟨g, c, e, h1, hbase _ rfl, hg, hin⟩

/-- Sorted points. -/
theorem sorted_of {l' : List Pt} (h : SortedIn (fun x y => decide (cmpQ x y < 0)) 0 l'.toArray.size l'.toArray) : l'.Pairwise leP := by
  rw [List.pairwise_iff_getElem]
  intro i j hi hj hij
  have := h i j (Nat.zero_le _) hij (by simpa using hj)
  simp only [gt_arr] at this
  have e1 : gt l' i = l'[i] := by unfold gt; rw [List.getD_eq_getElem?_getD, List.getElem?_eq_getElem hi]; rfl
  have e2 : gt l' j = l'[j] := by unfold gt; rw [List.getD_eq_getElem?_getD, List.getElem?_eq_getElem hj]; rfl
  rw [e1, e2, cmpQ_first] at this
  rcases leP_total l'[i] l'[j] with g | g
  · exact g
  · exfalso
    have : firstP l'[j] l'[i] = true := by
      unfold firstP firstB
      unfold ltP at g
      simp only [Bool.or_eq_true, Bool.and_eq_true, decide_eq_true_eq, beq_iff_eq]
      omega
    simp_all

end Go.Proofs.Ytlmdmgbhfoehgaa

/- Package shape's hull. -/
namespace Go.Proofs.Ytlmdmgbhfoehgaa
open Go.RowKit Go.Sort
attribute [local go_sem ↓] run_min_mn run_max_mx Go.wp_at_zero Go.wp_at_succ

/-- What slices.SortFunc does by package shape's compare. -/
def SortsPts : Prop := ∀ (blk off cap : Nat) (d : Array Pt) (w : World), HoldsK encP 2 w blk off d → blk < w.heap.size → d.size < 4611686018427387904 →
  Calls Try.prog 80 #[.slice (some ⟨blk, off, none⟩) d.size cap, .func (.func 78) #[] #[]] w fun e w' =>
    e = .returned (.tuple #[]) ∧ ∃ d' n os, PermIn 0 d.size d d' ∧ SortedIn (fun x y => decide (cmpQ x y < 0)) 0 d.size d' ∧ w' = sortWorldK encP 2 w blk off n d' os
/-- What slices.Reverse does. -/
def ReversesPts : Prop := ∀ (blk off cap : Nat) (d : Array Pt) (w : World), HoldsK encP 2 w blk off d → d.size < 4611686018427387904 → 0 < d.size →
  Calls Try.prog 82 #[.slice (some ⟨blk, off, none⟩) d.size cap] w fun e w' =>
    e = .returned (.tuple #[]) ∧ ∃ n, w' = putRowK encP 2 (Go.Sort.ahead w n) blk off d.reverse

def SortedTo (g n c : Nat) (l : List Pt) (base : Nat) (w : World) (e : Ending) (w' : World) : Prop :=
  e = .returned (.tuple #[]) ∧ ∃ l', l'.Perm l ∧ l'.Pairwise leP ∧ PtsOwn w' base (.slice (some ⟨g, 0, none⟩) n c) l' ∧ w.grownBy w' (some g)

theorem sort_own (hS : SortsPts) {w : World} {base g n c : Nat} {l : List Pt} (h : PtsOwn w base (.slice (some ⟨g, 0, none⟩) n c) l) (hn : l.length = n) (hb : n ≤ 1000) (hg : g < w.heap.size) :
    Calls Try.prog 80 #[.slice (some ⟨g, 0, none⟩) n c, .func (.func 78) #[] #[]] w (SortedTo g n c l base w) := by
  have k := hS g 0 c l.toArray w (holds_own h hn) hg (by simp; omega)
  simp only [List.size_toArray, hn] at k
  refine k.mono ?_
  rintro e w' ⟨rfl, d', m, os, hp, hs, rfl⟩
  obtain ⟨d', rfl⟩ : ∃ l' : List Pt, d' = l'.toArray := ⟨d'.toList, by simp⟩
  have hsz : d'.length = n := by have := hp.1; simpa [hn] using this
  have hperm : d'.Perm l := by
    have := hp.2.2
    simpa [← hn, List.take_of_length_le (show d'.length ≤ l.length by omega)] using this
  obtain ⟨o1, o2⟩ := own_laid (m := m) (os := os) h hn hsz
  refine ⟨rfl, d', hperm, sorted_of (by simpa [hsz] using hs), o1, o2⟩

theorem reverse_own (hR : ReversesPts) {w : World} {base g n c : Nat} {l : List Pt} (h : PtsOwn w base (.slice (some ⟨g, 0, none⟩) n c) l) (hn : l.length = n) (hb : n ≤ 1000) (h0 : 0 < n) :
    Calls Try.prog 82 #[.slice (some ⟨g, 0, none⟩) n c] w fun e w' => e = .returned (.tuple #[]) ∧ PtsOwn w' base (.slice (some ⟨g, 0, none⟩) n c) l.reverse ∧ w.grownBy w' (some g) := by
  have k := hR g 0 c l.toArray w (holds_own h hn) (by simp; omega) (by simp; omega)
  simp only [List.size_toArray, hn] at k
  refine k.mono ?_
  rintro e w' ⟨rfl, m, rfl⟩
  have o := own_laid (m := m) (os := #[]) (l' := l.reverse) h hn (by simpa using hn)
  rw [show l.toArray.reverse = l.reverse.toArray by simp]
  unfold sortWorldK at o
  rw [grow_empty] at o
  exact ⟨rfl, o.1, o.2⟩

/-- What hull leaves: the chains of the points in their order. -/
def HullTo (l : List Pt) (w : World) (e : Ending) (w' : World) : Prop :=
  ∃ s v, s.Perm l ∧ s.Pairwise leP ∧ e = .returned v ∧ PtsOwn w' w.heap.size v (hullL s) ∧ Below w.heap.size w w'

theorem chain_len {l : List Pt} (h : l ≠ []) : 1 ≤ (chainW l).length := by
  have key : ∀ (l st : List Pt), l ≠ [] ∨ st ≠ [] → l.foldl pushW st ≠ [] := by
    intro l
    induction l with
    | nil => intro st h; rcases h with h | h; exact absurd rfl h; exact h
    | cons x l ih => intro st _; exact ih (pushW st x) (.inr (by simp [pushW]))
  have := key l [] (.inl h)
  unfold chainW
  exact List.length_pos_iff.2 this

set_option maxRecDepth 100000 in
set_option maxHeartbeats 4000000 in
theorem hull_any (hS : SortsPts) (hR : ReversesPts) (b off n c : Nat) (l : List Pt) (w : World) (hl : l.length = n) (hn : 0 < n) (hn' : n ≤ 100) (h : PtsIn w b off l) (hb : b < w.heap.size) (hbd : ∀ x ∈ l, Bd x) :
    Calls Try.prog 60 #[.slice (some ⟨b, off, none⟩) n c] w (HullTo l w) := by
  have K1 := Lib.hid (clone_any b off n c l w hl hn' h hb)
  have HBD := Lib.hid hbd
  have HL := Lib.hid hl
  clear h hbd
  go_enter Try.func60, Try.ntmps60
  go_wp2_with fail
  refine (K1.out).mono ?_
  rintro e w1 ⟨v, rfl, ho, hb1⟩
  obtain ⟨g, c1, rfl, hc1, hgb, hg, -⟩ := ho.row hl hn
  have K2 := Lib.hid (sort_own hS ho hl (by omega) hg)
  have HB1 := Lib.hid hb1
  clear K1 ho hb1
  go_wp2_with fail
  refine (K2.out).mono ?_
  rintro e w2 ⟨rfl, s, hperm, hsort, ho2, hg2⟩
  have hsl : s.length = n := by rw [hperm.length_eq]; exact hl
  have HB2 := Lib.hid (HB1.out.grown hg2 HB1.out.size (fun k hk => by obtain rfl := Option.some.inj hk; exact hgb))
  have hgl2 : g < w2.heap.size := Nat.lt_of_lt_of_le hg hg2.size
  obtain ⟨g', c', e', _, _, _, hin2⟩ := ho2.row hsl hn
  simp only [Value.slice.injEq, Option.some.injEq, Addr.mk.injEq] at e'
  obtain ⟨⟨rfl, -, -⟩, -, -⟩ := e'
  have hsbd : ∀ x ∈ s, Bd x := fun x hx => HBD.out x (hperm.mem_iff.1 hx)
  have K3 := Lib.hid (chain_any g 0 n c1 s w2 hsl hn' hin2 hgl2 hsbd)
  have HO2 := Lib.hid ho2
  have HPERM := Lib.hid hperm
  have HSORT := Lib.hid hsort
  have HSB := Lib.hid hsbd
  have hsz2 := HB2.out.size
  clear K2 ho2 hg2 hin2 hperm hsort hsbd
  go_wp2_with fail
  refine (K3.out).mono ?_
  rintro e w3 ⟨v3, rfl, ho3, hb3⟩
  have hl3 := chain_len (l := s) (by intro e; subst e; simp at hsl; omega)
  obtain ⟨u, hu⟩ : ∃ u, (chainW s).length = u + 1 := ⟨(chainW s).length - 1, by omega⟩
  obtain ⟨g3, c3, rfl, hc3, hb3g, hg3, -⟩ := ho3.row (n := u + 1) (by rw [List.length_reverse]; exact hu) (by omega)
  have HO3 := Lib.hid (HO2.out.belows hb3 (Nat.le_refl _))
  have K4 := Lib.hid (reverse_own hR HO3.out hsl (by omega) hn)
  have HU3 := Lib.hid ho3
  have HB3 := Lib.hid (HB2.out.trans (hb3.mono hsz2))
  clear K3 ho3 hb3 hl3 HO2
  go_wp2_with fail
  refine (K4.out).mono ?_
  rintro e w4 ⟨rfl, ho4, hg4⟩
  have HU4 := Lib.hid (HU3.out.other hg4 (by simp [Value.ownBlock]; omega))
  have HB4 := Lib.hid (HB3.out.grown hg4 HB3.out.size (fun k hk => by obtain rfl := Option.some.inj hk; exact hgb))
  have hrl : s.reverse.length = n := by rw [List.length_reverse]; exact hsl
  obtain ⟨g', c', e', _, _, hgl4, hin4⟩ := ho4.row hrl hn
  simp only [Value.slice.injEq, Option.some.injEq, Addr.mk.injEq] at e'
  obtain ⟨⟨rfl, -, -⟩, -, -⟩ := e'
  have K5 := Lib.hid (chain_any g 0 n c1 s.reverse w4 hrl hn' hin4 hgl4 (fun x hx => HSB.out x (List.mem_reverse.1 hx)))
  have hg34 : g3 < w4.heap.size := Nat.lt_of_lt_of_le hg3 hg4.size
  have hsz4 := HB4.out.size
  clear K4 ho4 hg4 hin4 HU3
  go_wp2_with fail
  refine (K5.out).mono ?_
  rintro e w5 ⟨v5, rfl, ho5, hb5⟩
  have hl5 := chain_len (l := s.reverse) (by intro e; have := congrArg List.length e; simp at this; rw [this] at hsl; simp at hsl; omega)
  obtain ⟨d, hd⟩ : ∃ d, (chainW s.reverse).length = d + 1 := ⟨(chainW s.reverse).length - 1, by omega⟩
  have hu8 : u + 1 ≤ n := by
    have := chainW_len s []
    unfold chainW at hu; simp only [List.length_nil] at this; omega
  have hd8 : d + 1 ≤ n := by
    have := chainW_len s.reverse []
    unfold chainW at hd; simp only [List.length_nil, List.length_reverse] at this; omega
  obtain ⟨g5, c5, rfl, hc5, hb5g, hg5, hin5⟩ := ho5.row (n := d + 1) (by rw [List.length_reverse]; exact hd) (by omega)
  have HU5 : Hid (PtsOwn w5 w2.heap.size (.slice (some ⟨g3, 0, none⟩) u c3) ((chainW s).reverse.dropLast)) := Lib.hid (by
    have h := (HU4.out.belows hb5 (Nat.le_refl _)).shrink (n := u + 1) (k := u) (by rw [List.length_reverse]; exact hu) (by omega)
    rw [List.dropLast_eq_take, List.length_reverse, hu, Nat.add_sub_cancel]
    exact h)
  have HD5 : Hid (PtsAt w5 (some ⟨g5, 0, none⟩) ((chainW s.reverse).reverse.dropLast)) := Lib.hid fun _ => ⟨g5, 0, rfl, hg5, fun i p hp => hin5 i p (by
    rw [List.getElem?_dropLast] at hp
    split at hp
    · exact hp
    · cases hp)⟩
  have hlu : ((chainW s).reverse.dropLast).length = u := by rw [List.length_dropLast, List.length_reverse, hu]; omega
  have hld : ((chainW s.reverse).reverse.dropLast).length = d := by rw [List.length_dropLast, List.length_reverse, hd]; omega
  have HB5 := Lib.hid (HB4.out.trans (hb5.mono hsz4))
  have hlen : ((chainW s).reverse.dropLast).length + ((chainW s.reverse).reverse.dropLast).length ≤ 100000 := by rw [hlu, hld]; omega
  have hw25 : w2.heap.size ≤ w5.heap.size := by
    have h1 := hb5.size
    omega
  clear K5 ho5 hb5 hl5 hin5 HU4 HB4
  have i1 : (0 : Int) ≤ (u : Int) := Int.natCast_nonneg _
  have i2 : (u : Int) ≤ (c3 : Int) := by omega
  have i3 : (0 : Int) ≤ (d : Int) := Int.natCast_nonneg _
  have i4 : (d : Int) ≤ (c5 : Int) := by omega
  have j1 : IntKind.i64.wrap (((u + 1 : Nat) : Int) - 1) = (u : Int) := by rw [IntKind.wrap_i64]; omega
  have j2 : IntKind.i64.wrap ((u : Int) + 1 - 1) = (u : Int) := by rw [IntKind.wrap_i64]; omega
  have j3 : IntKind.i64.wrap (((d + 1 : Nat) : Int) - 1) = (d : Int) := by rw [IntKind.wrap_i64]; omega
  have j4 : IntKind.i64.wrap ((d : Int) + 1 - 1) = (d : Int) := by rw [IntKind.wrap_i64]; omega
  have j5 : IntKind.i64.wrap (u : Int) = (u : Int) := by rw [IntKind.wrap_i64]; omega
  have j6 : IntKind.i64.wrap (d : Int) = (d : Int) := by rw [IntKind.wrap_i64]; omega
  have i5 : u ≤ c3 := by omega
  have i6 : d ≤ c5 := by omega
  go_wp2_with fail
  go_region_held3 (fun _ => True) (exact trivial)
    ((refine step_papp (by rfl) _ _ (by rfl) w2.heap.size (.slice (some ⟨g3, 0, none⟩) u c3) _ _ (some ⟨g5, 0, none⟩) d c5 (by rfl) (by rfl) HU5.out.drew hld HD5.out hlen (by simpa using hw25) ?_; intro v6 w6 ho6 hg6 hat))
  go_wp2_with fail
  go_ret
  exact ⟨s, v6, HPERM.out, HSORT.out, rfl, ho6.low hsz2, HB5.out.drew.grown hg6 (by simpa using HB5.out.size) (fun k hk => Nat.le_trans hsz2 (HU5.out.base k hk).1)⟩
end Go.Proofs.Ytlmdmgbhfoehgaa

/- The reference's Hull. -/
namespace Go.Proofs.Ytlmdmgbhfoehgaa
open Go.RowKit Go.Sort
attribute [local go_sem ↓] run_min_mn run_max_mx Go.wp_at_zero Go.wp_at_succ

def flat0 (l : List Pt) (i k : Nat) : Bool := crossP (gt l 0) (gt l i) (gt l k) == 0
def flatAt (l : List Pt) (i : Nat) : Bool := (List.range l.length).all (flat0 l i)
def flatTo (l : List Pt) (i : Nat) : Bool := (List.range i).all (flatAt l)
def lowTo (l : List Pt) : Nat → Pt
  | 0 => gt l 0
  | i + 1 => if firstP (gt l i) (lowTo l i) then gt l i else lowTo l i

/-- What the reference's Hull leaves: nothing where the points lie on one line, else the hull. -/
def RefHullTo (l H : List Pt) (w : World) (e : Ending) (w' : World) : Prop :=
  Below w.heap.size w w' ∧ ((flatTo l l.length = true ∧ e = .returned (.tuple #[.slice none 0 0, .bool false])) ∨
    (flatTo l l.length = false ∧ ∃ v, e = .returned (.tuple #[v, .bool true]) ∧ PtsOwn w' w.heap.size v H))

theorem PtBlk.one {w : World} {g : Nat} {x y : Int} (h : PtBlk w g [(x, y)]) : PtAt w g x y := by
  obtain ⟨h1, h2⟩ := h.cell (i := 0) (p := (x, y)) rfl
  exact ⟨by simpa using h1, by simpa using h2⟩
theorem PtBlk.put {w : World} {g : Nat} {p : Pt} (h : PtBlk w g [p]) (x y : Int) : PtBlk ((w.setCell ⟨g, 0, none⟩ (.int .i64 x)).setCell ⟨g, 1, none⟩ (.int .i64 y)) g [(x, y)] := by
  simpa using h.set 0 x y
theorem PtBlk.box (w : World) (x y : Int) : PtBlk (w.alloc (bx x y)) w.heap.size [(x, y)] := heap_alloc_new _ _

theorem PtsOwn.one (W : World) (x y : Int) {base : Nat} (hb : base ≤ W.heap.size) : PtsOwn (W.alloc (bx x y)) base (.slice (some ⟨W.heap.size, 0, none⟩) 1 1) [(x, y)] := by
  unfold PtsOwn World.ownsRow
  exact ⟨rfl, .inr ⟨W.heap.size, 1, _, rfl, hb, heap_alloc_new _ _, Nat.le_refl _, by simp [maxLen], rfl, rfl⟩⟩
theorem eqI_iff {a b c d : Int} : eqI a b c d = true ↔ (a, b) = (c, d) := by simp [eqI]

theorem wrap_mem (a : Pt) : ∀ (l : List Pt) (cur : Pt), l.foldl (wrapStep a) cur ∈ l ∨ l.foldl (wrapStep a) cur = cur
  | [], _ => .inr rfl
  | p :: l, cur => by
    rw [List.foldl_cons]
    rcases wrap_mem a l (wrapStep a cur p) with h | h
    · exact .inl (List.mem_cons_of_mem _ h)
    · rw [h]
      unfold wrapStep
      split
      · exact .inr rfl
      · split
        · exact .inl (by simp)
        · exact .inr rfl

theorem flatTo_succ (l : List Pt) (i : Nat) : flatTo l (i + 1) = (flatTo l i && flatAt l i) := by
  unfold flatTo; rw [List.range_succ, List.all_append]; simp
theorem range_all_succ (f : Nat → Bool) (k : Nat) : (List.range (k + 1)).all f = ((List.range k).all f && f k) := by
  rw [List.range_succ, List.all_append]; simp
theorem lowTo_mem {l : List Pt} (h : 0 < l.length) : ∀ i, i ≤ l.length → lowTo l i ∈ l
  | 0, _ => by
    show gt l 0 ∈ l
    unfold gt; rw [List.getD_eq_getElem?_getD, List.getElem?_eq_getElem h]; exact List.getElem_mem h
  | i + 1, hi => by
    unfold lowTo
    split
    · have : i < l.length := by omega
      unfold gt; rw [List.getD_eq_getElem?_getD, List.getElem?_eq_getElem this]; exact List.getElem_mem this
    · exact lowTo_mem h i (by omega)

set_option maxRecDepth 100000 in
set_option maxHeartbeats 8000000 in
theorem refHull_any (b off n c : Nat) (l H : List Pt) (w : World) (hl : l.length = n) (hn : 0 < n) (hn' : n ≤ 1000) (h : PtsIn w b off l) (hb : b < w.heap.size) (hbd : ∀ x ∈ l, Bd x)
    (hH : flatTo l n = false → Hull l H (lowTo l n)) (hHn : H.length ≤ 1000) :
    Calls Try.prog 33 #[.slice (some ⟨b, off, none⟩) n c] w (RefHullTo l H w) := by
  have gmem : ∀ i, i < n → gt l i ∈ l := fun i hi => by
    unfold gt; rw [List.getD_eq_getElem?_getD, List.getElem?_eq_getElem (by omega)]; exact List.getElem_mem (by omega)
  have cells : ∀ W, Below w.heap.size w W → ∀ i, i < n → W.cell? ⟨b, off + i * 2, none⟩ = some (.int .i64 (gt l i).1) ∧ W.cell? ⟨b, off + i * 2 + 1, none⟩ = some (.int .i64 (gt l i).2) := fun W hW i hi =>
    (h.below hW hb) i (gt l i) (by unfold gt; rw [List.getD_eq_getElem?_getD, List.getElem?_eq_getElem (by omega)]; rfl)
  have HC := Lib.hid cells
  have HG := Lib.hid gmem
  have HL := Lib.hid hl
  have HBD := Lib.hid hbd
  have HLM : Hid (∀ i, i ≤ n → lowTo l i ∈ l) := Lib.hid fun i hi => lowTo_mem (by omega) i (by omega)
  have HHL := Lib.hid hH
  obtain ⟨z1, z2⟩ := cells w (Below.refl _ _) 0 hn
  simp only [Nat.zero_mul, Nat.add_zero] at z1 z2
  clear hl h hbd cells gmem hH
  go_enter Try.func33, Try.ntmps33
  generalize hz0 : gt l 0 = o at z1 z2
  obtain ⟨ox, oy⟩ := o
  go_upto_region 3 with (fail)
  have B0 : PtBlk (w.alloc (bx ox oy)) w.heap.size [(ox, oy)] := PtBlk.box _ _ _
  have hb0 : Below w.heap.size w (w.alloc (bx ox oy)) := (Below.refl _ _).alloc (Nat.le_refl _) _
  have hs0 : (w.alloc (bx ox oy)).heap.size = w.heap.size + 1 := by simp
  generalize w.alloc (bx ox oy) = w0 at *
  go_wp2_with fail
  have HZ : Hid (∀ W, Below w.heap.size w W → W.cell? ⟨b, off, none⟩ = some (.int .i64 ox) ∧ W.cell? ⟨b, off + 1, none⟩ = some (.int .i64 oy)) := Lib.hid fun W hW =>
    ⟨(hW.cell (p := ⟨b, off, none⟩) hb).trans z1, (hW.cell (p := ⟨b, off + 1, none⟩) hb).trans z2⟩
  have L0 : lowTo l 0 = (ox, oy) := hz0
  clear z1 z2
  go_loopw [4, 6] (fun s i wr => ∃ k : Nat, k ≤ n ∧ i = .int .i64 k ∧ s = .bool (flatTo l k) ∧ PtBlk wr w.heap.size [lowTo l k] ∧ Below w.heap.size w wr ∧ w.heap.size < wr.heap.size) (fun _ i _ => n - (intOf i).toNat)
  case atStart => exact ⟨0, Nat.zero_le _, rfl, rfl, by rw [L0]; exact B0, hb0, by omega⟩
  case round =>
    clear B0 hb0 hs0 L0
    obtain ⟨k, hk, rfl, rfl, hlow, hbw, hgr⟩ := hrel
    have HBW := Lib.hid hbw
    by_cases hlt : k < n
    · obtain ⟨h1, h2⟩ := HC.out wr hbw k hlt
      have hB : b < wr.heap.size := by omega
      have dk := HBD.out _ (HG.out k hlt)
      have dl := HBD.out _ (HLM.out k hk)
      have EL : Hid (lowTo l (k + 1) = if firstP (gt l k) (lowTo l k) then gt l k else lowTo l k) := Lib.hid rfl
      have EF : Hid (flatTo l (k + 1) = (flatTo l k && flatAt l k)) := Lib.hid (flatTo_succ l k)
      have EA : Hid (flatAt l k = (List.range n).all (flat0 l k)) := Lib.hid (by unfold flatAt; rw [HL.out])
      have EC : Hid (∀ q, flat0 l k q = (crossP (ox, oy) (gt l k) (gt l q) == 0)) := Lib.hid fun q => by unfold flat0; rw [hz0]
      have EC2 : Hid (∀ q, q < n → Bd (gt l q)) := Lib.hid fun q hq => HBD.out _ (HG.out q hq)
      have d0 : Bd (ox, oy) := hz0 ▸ HBD.out _ (HG.out 0 (by omega))
      generalize hpk : gt l k = p at *
      generalize hpl : lowTo l k = lo at *
      obtain ⟨x, y⟩ := p
      obtain ⟨lx, ly⟩ := lo
      have HLO := Lib.hid hlow
      obtain ⟨l1, l2⟩ := hlow.one
      have F := fun W => Lib.hid (first_any x y lx ly W)
      have EFB : Hid (firstP (x, y) (lx, ly) = firstB x y lx ly) := Lib.hid rfl
      have K1 := fun d os => Lib.hid (Calls.regrown_of ((F (grow (redrawn wr d) os)).out))
      have k1 := cell_regrown h1
      have k2 := cell_regrown h2
      have k3 := cell_regrown l1
      have k4 := cell_regrown l2
      clear h1 h2 l1 l2 F
      go_wp2_with fail
      refine wp_region_quiet_below (by kernel_rfl) (by kernel_rfl) ?_
      repeat (go_big_quiet_step (first | (with_reducible exact (K1 _ _).out)))
      refine wpQuiet_nil ?_
      intro _ hw'
      obtain ⟨⟨dq, osq⟩, hw''⟩ := hw'
      subst hw''
      have hbr := below_regrown wr dq osq
      have HB2 := Lib.hid (HBW.out.trans (hbr.mono HBW.out.size))
      have HLO2 := Lib.hid (HLO.out.below hbr hgr)
      have hg2 := Nat.lt_of_lt_of_le hgr hbr.size
      obtain ⟨h1, h2⟩ := HC.out _ HB2.out k hlt
      rw [hpk] at h1 h2
      generalize grow (redrawn wr dq) osq = w2 at *
      clear hbr k1 k2 k3 k4
      obtain ⟨l1, l2⟩ := HLO2.out.one
      have f1 := HLO2.out.frozen 0
      have f2 := HLO2.out.frozen 1
      cases hf : firstB x y lx ly
      · have LO3 : Hid (PtBlk w2 w.heap.size [lowTo l (k + 1)]) := Lib.hid (by
          rw [EL.out, EFB.out, hf]; exact HLO2.out)
        have HB3 := HB2
        have hg3 := hg2
        clear f1 f2 l1 l2 h1 h2 HB2 HLO2
        have HT : Hid (∀ q, (List.range (q + 1)).all (flat0 l k) = ((List.range q).all (flat0 l k) && flat0 l k q)) := Lib.hid fun q => range_all_succ _ q
        go_wp2_with fail
        go_loopw [4, 7] (fun s i wi => ∃ q : Nat, q ≤ n ∧ i = .int .i64 q ∧ s = .bool (flatTo l k && (List.range q).all (flat0 l k)) ∧ PtBlk wi w.heap.size [lowTo l (k + 1)] ∧ Below w.heap.size w wi ∧ w.heap.size < wi.heap.size) (fun _ i _ => n - (intOf i).toNat)
        case atStart => exact ⟨0, Nat.zero_le _, rfl, by simp, LO3.out, HB3.out, hg3⟩
        case round =>
          clear LO3 HB3 hg3
          obtain ⟨q, hq, rfl, rfl, hlo, hbq, hgq⟩ := hrel
          have HLQ := Lib.hid hlo
          have HBQ := Lib.hid hbq
          by_cases hlq : q < n
          · have HS : Hid ((flatTo l k && (List.range (q + 1)).all (flat0 l k)) = ((flatTo l k && (List.range q).all (flat0 l k)) && flat0 l k q)) := Lib.hid (by rw [HT.out, Bool.and_assoc])
            have HFE : Hid ((flatTo l k && (List.range q).all (flat0 l k)) = false → flatTo l (k + 1) = false) := Lib.hid fun hh => by
              rw [EF.out, EA.out]
              cases hf2 : flatTo l k
              · rfl
              · rw [hf2, Bool.true_and] at hh
                rw [Bool.true_and]
                rw [List.all_eq_false] at hh ⊢
                obtain ⟨z, hz, hz2⟩ := hh
                exact ⟨z, List.mem_range.2 (by have := List.mem_range.1 hz; omega), hz2⟩
            generalize (flatTo l k && (List.range q).all (flat0 l k)) = tb at *
            cases tb
            · have HF0 := Lib.hid (HFE.out rfl)
              go_wp2_with fail
              go_roundw
              case rel => exact ⟨k + 1, by omega, by go_num, by rw [HF0.out], HLQ.out, HBQ.out, hgq⟩
              case measure => simp [intOf]; omega
            · obtain ⟨j1, j2⟩ := HZ.out wr hbq
              obtain ⟨j3, j4⟩ := HC.out wr hbq k hlt
              obtain ⟨j5, j6⟩ := HC.out wr hbq q hlq
              rw [hpk] at j3 j4
              have ECQ := Lib.hid (EC.out q)
              have dq2 := EC2.out q hlq
              generalize gt l q = pq at *
              obtain ⟨rx, ry⟩ := pq
              have C := fun W => Lib.hid (cross_any ox oy x y rx ry W d0.1 d0.2 dk.1 dk.2 dq2.1 dq2.2)
              replace ECQ : Hid (flat0 l k q = (cross ox oy x y rx ry == 0)) := ECQ
              clear dq2
              generalize cross ox oy x y rx ry = cr at *
              have KC := fun d os => Lib.hid (Calls.regrown_of ((C (grow (redrawn wr d) os)).out))
              have t1 := cell_regrown j1
              have t2 := cell_regrown j2
              have t3 := cell_regrown j3
              have t4 := cell_regrown j4
              have t5 := cell_regrown j5
              have t6 := cell_regrown j6
              clear j1 j2 j3 j4 j5 j6 C
              go_wp2_with fail
              refine wp_region_quiet_below (by kernel_rfl) (by kernel_rfl) ?_
              repeat (go_big_quiet_step (first | (with_reducible exact (KC _ _).out)))
              refine wpQuiet_nil ?_
              intro _ hw'
              obtain ⟨⟨dq, osq⟩, hw''⟩ := hw'
              subst hw''
              have hbr := below_regrown wr dq osq
              have HBQ2 := Lib.hid (HBQ.out.trans (hbr.mono HBQ.out.size))
              have HLQ2 := Lib.hid (HLQ.out.below hbr hgq)
              have hgq2 := Nat.lt_of_lt_of_le hgq hbr.size
              generalize grow (redrawn wr dq) osq = w4 at *
              clear hbr t1 t2 t3 t4 t5 t6
              go_wp2_with fail
              go_roundw
              case rel => exact ⟨q + 1, by omega, by go_num, by rw [HS.out, ECQ.out]; rfl, HLQ2.out, HBQ2.out, hgq2⟩
              case measure => simp [intOf]; omega
          · obtain rfl : q = n := by omega
            have HFE : Hid ((flatTo l k && (List.range q).all (flat0 l k)) = flatTo l (k + 1)) := Lib.hid (by rw [EF.out, EA.out])
            have HFI : Hid (∀ tb, (flatTo l k && (List.range q).all (flat0 l k)) = tb → tb = flatTo l (k + 1)) := Lib.hid fun tb e => e ▸ HFE.out
            generalize htb : (flatTo l k && (List.range q).all (flat0 l k)) = tb at *
            have HFT := Lib.hid (HFI.out tb rfl)
            clear HFE HFI htb
            cases tb
            all_goals
              go_wp2_with fail
              go_roundw
              case rel => exact ⟨k + 1, by omega, by go_num, by rw [← HFT.out], HLQ.out, HBQ.out, hgq⟩
              case measure => simp [intOf]; omega
      · have LO3 : Hid (PtBlk ((w2.setCell ⟨w.heap.size, 0, none⟩ (.int .i64 x)).setCell ⟨w.heap.size, 1, none⟩ (.int .i64 y)) w.heap.size [lowTo l (k + 1)]) := Lib.hid (by
          rw [EL.out, EFB.out, hf]; exact HLO2.out.put x y)
        have HB3 : Hid (Below w.heap.size w ((w2.setCell ⟨w.heap.size, 0, none⟩ (.int .i64 x)).setCell ⟨w.heap.size, 1, none⟩ (.int .i64 y))) := Lib.hid ((HB2.out.setCell (by simp) _).setCell (by simp) _)
        have hg3 : w.heap.size < ((w2.setCell ⟨w.heap.size, 0, none⟩ (.int .i64 x)).setCell ⟨w.heap.size, 1, none⟩ (.int .i64 y)).heap.size := by simpa using hg2
        clear HB2 HLO2
        have HT : Hid (∀ q, (List.range (q + 1)).all (flat0 l k) = ((List.range q).all (flat0 l k) && flat0 l k q)) := Lib.hid fun q => range_all_succ _ q
        go_wp2_with fail
        go_loopw [4, 7] (fun s i wi => ∃ q : Nat, q ≤ n ∧ i = .int .i64 q ∧ s = .bool (flatTo l k && (List.range q).all (flat0 l k)) ∧ PtBlk wi w.heap.size [lowTo l (k + 1)] ∧ Below w.heap.size w wi ∧ w.heap.size < wi.heap.size) (fun _ i _ => n - (intOf i).toNat)
        case atStart => exact ⟨0, Nat.zero_le _, rfl, by simp, LO3.out, HB3.out, hg3⟩
        case round =>
          clear LO3 HB3 hg3
          obtain ⟨q, hq, rfl, rfl, hlo, hbq, hgq⟩ := hrel
          have HLQ := Lib.hid hlo
          have HBQ := Lib.hid hbq
          by_cases hlq : q < n
          · have HS : Hid ((flatTo l k && (List.range (q + 1)).all (flat0 l k)) = ((flatTo l k && (List.range q).all (flat0 l k)) && flat0 l k q)) := Lib.hid (by rw [HT.out, Bool.and_assoc])
            have HFE : Hid ((flatTo l k && (List.range q).all (flat0 l k)) = false → flatTo l (k + 1) = false) := Lib.hid fun hh => by
              rw [EF.out, EA.out]
              cases hf2 : flatTo l k
              · rfl
              · rw [hf2, Bool.true_and] at hh
                rw [Bool.true_and]
                rw [List.all_eq_false] at hh ⊢
                obtain ⟨z, hz, hz2⟩ := hh
                exact ⟨z, List.mem_range.2 (by have := List.mem_range.1 hz; omega), hz2⟩
            generalize (flatTo l k && (List.range q).all (flat0 l k)) = tb at *
            cases tb
            · have HF0 := Lib.hid (HFE.out rfl)
              go_wp2_with fail
              go_roundw
              case rel => exact ⟨k + 1, by omega, by go_num, by rw [HF0.out], HLQ.out, HBQ.out, hgq⟩
              case measure => simp [intOf]; omega
            · obtain ⟨j1, j2⟩ := HZ.out wr hbq
              obtain ⟨j3, j4⟩ := HC.out wr hbq k hlt
              obtain ⟨j5, j6⟩ := HC.out wr hbq q hlq
              rw [hpk] at j3 j4
              have ECQ := Lib.hid (EC.out q)
              have dq2 := EC2.out q hlq
              generalize gt l q = pq at *
              obtain ⟨rx, ry⟩ := pq
              have C := fun W => Lib.hid (cross_any ox oy x y rx ry W d0.1 d0.2 dk.1 dk.2 dq2.1 dq2.2)
              replace ECQ : Hid (flat0 l k q = (cross ox oy x y rx ry == 0)) := ECQ
              clear dq2
              generalize cross ox oy x y rx ry = cr at *
              have KC := fun d os => Lib.hid (Calls.regrown_of ((C (grow (redrawn wr d) os)).out))
              have t1 := cell_regrown j1
              have t2 := cell_regrown j2
              have t3 := cell_regrown j3
              have t4 := cell_regrown j4
              have t5 := cell_regrown j5
              have t6 := cell_regrown j6
              clear j1 j2 j3 j4 j5 j6 C
              go_wp2_with fail
              refine wp_region_quiet_below (by kernel_rfl) (by kernel_rfl) ?_
              repeat (go_big_quiet_step (first | (with_reducible exact (KC _ _).out)))
              refine wpQuiet_nil ?_
              intro _ hw'
              obtain ⟨⟨dq, osq⟩, hw''⟩ := hw'
              subst hw''
              have hbr := below_regrown wr dq osq
              have HBQ2 := Lib.hid (HBQ.out.trans (hbr.mono HBQ.out.size))
              have HLQ2 := Lib.hid (HLQ.out.below hbr hgq)
              have hgq2 := Nat.lt_of_lt_of_le hgq hbr.size
              generalize grow (redrawn wr dq) osq = w4 at *
              clear hbr t1 t2 t3 t4 t5 t6
              go_wp2_with fail
              go_roundw
              case rel => exact ⟨q + 1, by omega, by go_num, by rw [HS.out, ECQ.out]; rfl, HLQ2.out, HBQ2.out, hgq2⟩
              case measure => simp [intOf]; omega
          · obtain rfl : q = n := by omega
            have HFE : Hid ((flatTo l k && (List.range q).all (flat0 l k)) = flatTo l (k + 1)) := Lib.hid (by rw [EF.out, EA.out])
            have HFI : Hid (∀ tb, (flatTo l k && (List.range q).all (flat0 l k)) = tb → tb = flatTo l (k + 1)) := Lib.hid fun tb e => e ▸ HFE.out
            generalize htb : (flatTo l k && (List.range q).all (flat0 l k)) = tb at *
            have HFT := Lib.hid (HFI.out tb rfl)
            clear HFE HFI htb
            cases tb
            all_goals
              go_wp2_with fail
              go_roundw
              case rel => exact ⟨k + 1, by omega, by go_num, by rw [← HFT.out], HLQ.out, HBQ.out, hgq⟩
              case measure => simp [intOf]; omega
    · obtain rfl : k = n := by omega
      generalize hfl : flatTo l k = fb at *
      cases fb
      · have HH := Lib.hid (HHL.out rfl)
        have HFL : Hid (flatTo l l.length = false) := Lib.hid (by rw [HL.out]; exact hfl)
        clear HHL hfl
        have HLO := Lib.hid hlow
        have hlm := HBD.out _ (HLM.out k (Nat.le_refl _))
        clear hlow hbw
        generalize lowTo l k = lo at *
        obtain ⟨lx, ly⟩ := lo
        obtain ⟨l1, l2⟩ := HLO.out.one
        have hsz := HBW.out.size
        have O1 : Hid (PtsOwn (wr.alloc (bx lx ly)) (w.heap.size + 1) (.slice (some ⟨wr.heap.size, 0, none⟩) 1 1) (H.take (0 + 1))) := Lib.hid (by
          have : H.take (0 + 1) = [(lx, ly)] := by
            have h0 : 0 < H.length := by have := HH.out.two; omega
            have e := HH.out.first
            unfold gt at e
            rw [List.getD_eq_getElem?_getD, List.getElem?_eq_getElem h0] at e
            simp only [Option.getD_some] at e
            rw [List.take_succ_eq_append_getElem h0, e]; rfl
          rw [this]
          exact PtsOwn.one wr lx ly hgr)
        have L1 := Lib.hid (HLO.out.alloc (bx lx ly))
        have B1 : Hid (Below w.heap.size w (wr.alloc (bx lx ly))) := Lib.hid (HBW.out.alloc hsz _)
        have hg1 : w.heap.size + 1 ≤ (wr.alloc (bx lx ly)).heap.size := by simp; omega
        obtain ⟨wo, rfl⟩ : ∃ wo : World, wo = wr := ⟨_, rfl⟩
        go_wp2_with fail
        go_loopw [8] (fun s wr => ∃ j : Nat, j < H.length ∧ PtsOwn wr (w.heap.size + 1) s (H.take (j + 1)) ∧ PtBlk wr w.heap.size [(lx, ly)] ∧ Below w.heap.size w wr ∧ w.heap.size + 1 ≤ wr.heap.size) (fun s _ => H.length - slLen s)
        case atStart => exact ⟨0, by have := HH.out.two; omega, O1.out, L1.out, B1.out, hg1⟩
        case round =>
          clear O1 L1 B1 hg1 HLO HBW l1 l2 hsz hgr
          obtain ⟨j, hj, hO, hlo, hbw, hgr⟩ := hrel
          have hjl : (H.take (j + 1)).length = j + 1 := by rw [List.length_take]; omega
          obtain ⟨A1, c1, rfl, hc1, hat⟩ := hO.slice_n hjl
          obtain ⟨g, og, rfl, hgl, hin⟩ := hat (by intro e; rw [e] at hjl; simp at hjl)
          obtain ⟨a1, a2⟩ := hin j (gt H j) (by
            rw [List.getElem?_take, if_pos (by omega)]
            unfold gt; rw [List.getD_eq_getElem?_getD, List.getElem?_eq_getElem hj]; rfl)
          have HO := Lib.hid hO
          have HLO := Lib.hid hlo
          have HBW := Lib.hid hbw
          have HED := Lib.hid (HH.out.edge j hj)
          have HNX : Hid (nx H j = (lx, ly) → j + 1 = H.length) := Lib.hid fun e => by
            rcases Nat.lt_or_ge (j + 1) H.length with q | q
            · rw [gt_nx q] at e
              exact absurd e (HH.out.once (j + 1) (by omega) q)
            · omega
          have HNY : Hid (nx H j ≠ (lx, ly) → j + 1 < H.length ∧ H.take (j + 2) = H.take (j + 1) ++ [nx H j]) := Lib.hid fun e => by
            rcases Nat.lt_or_ge (j + 1) H.length with q | q
            · refine ⟨q, ?_⟩
              rw [gt_nx q, List.take_succ_eq_append_getElem q]
              simp [gt, List.getD, q]
            · exfalso
              apply e
              have : j + 1 = H.length := by omega
              show gt H ((j + 1) % H.length) = _
              rw [this, Nat.mod_self]; exact HH.out.first
          have da := HBD.out _ HED.out.fst
          have hle := HBD.out _ HED.out.snd
          clear hO hat hin hlo hbw
          generalize hpa : gt H j = p at *
          obtain ⟨ax, ay⟩ := p
          have A0 : Hid (PtAt ((wr.alloc (bx ax ay)).alloc (bx ax ay)) wr.heap.size ax ay) := Lib.hid (PtAt.new.alloc _ (by simp))
          have T0 : Hid (PtBlk ((wr.alloc (bx ax ay)).alloc (bx ax ay)) (wr.heap.size + 1) [(ax, ay)]) := Lib.hid (by
            have := PtBlk.box (wr.alloc (bx ax ay)) ax ay
            rwa [World.size_alloc] at this)
          have B0' : Hid (Below wr.heap.size wr ((wr.alloc (bx ax ay)).alloc (bx ax ay))) := Lib.hid ((Below.refl _ _).alloc (Nat.le_refl _) _ |>.alloc (by simp) _)
          have hz2 : ((wr.alloc (bx ax ay)).alloc (bx ax ay)).heap.size = wr.heap.size + 2 := by simp
          obtain ⟨wo, rfl⟩ : ∃ wo : World, wo = wr := ⟨_, rfl⟩
          have hgo : g < wo.heap.size := hgl
          go_wp2_with fail
          generalize (wo.alloc (bx ax ay)).alloc (bx ax ay) = wb at *
          generalize hgo' : wo.heap.size = ga at *
          have hba : w.heap.size < ga := by omega
          go_loopw [11] (fun i wr => ∃ q : Nat, q ≤ k ∧ i = .int .i64 q ∧ PtBlk wr (ga + 1) [(l.take q).foldl (wrapStep (ax, ay)) (ax, ay)] ∧ Below (ga + 1) wb wr ∧ ga + 2 ≤ wr.heap.size) (fun i _ => k - (intOf i).toNat)
          case atStart => exact ⟨0, Nat.zero_le _, rfl, T0.out, Below.refl _ _, by omega⟩
          case round =>
            clear T0 hz2 a1 a2
            obtain ⟨q, hq, rfl, hto, hbi, hgi⟩ := hrel
            have HTO := Lib.hid hto
            have HBI := Lib.hid hbi
            have HBO : Hid (Below ga wo wr) := Lib.hid (B0'.out.trans (hbi.mono (by omega)))
            have HBWQ : Hid (Below w.heap.size w wr) := Lib.hid (HBW.out.trans (HBO.out.mono (by omega)))
            have HLQ : Hid (PtBlk wr w.heap.size [(lx, ly)]) := Lib.hid (HLO.out.below HBO.out hba)
            have HAQ : Hid (PtAt wr ga ax ay) := Lib.hid (PtAt.below hbi (by omega) A0.out)
            have HTM : Hid (Bd ((l.take q).foldl (wrapStep (ax, ay)) (ax, ay))) := Lib.hid (by
              rcases wrap_mem (ax, ay) (l.take q) (ax, ay) with h | h
              · exact HBD.out _ (List.take_subset _ _ h)
              · rw [h]; exact da)
            clear hto hbi
            by_cases hlq : q < k
            · obtain ⟨h1, h2⟩ := HC.out wr HBWQ.out q hlq
              have hB : b < wr.heap.size := by omega
              have ES : Hid ((l.take (q + 1)).foldl (wrapStep (ax, ay)) (ax, ay) = wrapStep (ax, ay) ((l.take q).foldl (wrapStep (ax, ay)) (ax, ay)) (gt l q)) := Lib.hid (by
                have hql : q < l.length := by rw [HL.out]; exact hlq
                rw [List.take_succ_eq_append_getElem hql, List.foldl_append]
                simp [gt, List.getD, hql])
              have dp := HBD.out _ (HG.out q hlq)
              have dt := HTM.out
              generalize (l.take q).foldl (wrapStep (ax, ay)) (ax, ay) = tt at *
              generalize gt l q = pp at *
              obtain ⟨tx, ty⟩ := tt
              obtain ⟨px, py⟩ := pp
              have gp := guard_pt
              have ep := eq_pt px py ax ay
              have hb5 : Below wr.heap.size wr (wr.alloc (bx px py)) := (Below.refl _ _).alloc (Nat.le_refl _) _
              have hs5 : (wr.alloc (bx px py)).heap.size = wr.heap.size + 1 := by simp
              have hs5' : (wr.alloc (.cells #[.int .i64 px, .int .i64 py] 38)).heap.size = wr.heap.size + 1 := by simp
              have P5 : PtAt (wr.alloc (bx px py)) wr.heap.size px py := PtAt.new
              obtain ⟨b1, b2⟩ := HAQ.out
              obtain ⟨c1', c2'⟩ := HTO.out.one
              have hg1 : ga < wr.heap.size := by omega
              have hg2 : ga + 1 < wr.heap.size := by omega
              cases he : eqI px py ax ay
              · have hne : ¬ ((px, py) = (ax, ay)) := fun e => by rw [eqI_iff.2 e] at he; cases he
                have HYES : Hid ((tx, ty) = (ax, ay) ∨ crossP (ax, ay) (tx, ty) (px, py) < 0 ∨ (crossP (ax, ay) (tx, ty) (px, py) = 0 ∧ onP (ax, ay) (px, py) (tx, ty) = true) → wrapStep (ax, ay) (tx, ty) (px, py) = (px, py)) := Lib.hid fun hh => by
                  unfold wrapStep; rw [if_neg hne, if_pos hh]
                have HNO : Hid (¬ ((tx, ty) = (ax, ay) ∨ crossP (ax, ay) (tx, ty) (px, py) < 0 ∨ (crossP (ax, ay) (tx, ty) (px, py) = 0 ∧ onP (ax, ay) (px, py) (tx, ty) = true)) → wrapStep (ax, ay) (tx, ty) (px, py) = (tx, ty)) := Lib.hid fun hh => by
                  unfold wrapStep; rw [if_neg hne, if_neg hh]
                have C := fun W => Lib.hid (cross_any ax ay tx ty px py W da.1 da.2 dt.1 dt.2 dp.1 dp.2)
                have TO := fun W => Lib.hid (on_any ax ay px py tx ty W da.1 da.2 dp.1 dp.2 dt.1 dt.2)
                have HCR : Hid (crossP (ax, ay) (tx, ty) (px, py) = cross ax ay tx ty px py) := Lib.hid rfl
                have HON : Hid (onP (ax, ay) (px, py) (tx, ty) = onB ax ay px py tx ty) := Lib.hid rfl
                clear hne
                generalize cross ax ay tx ty px py = cr at *
                generalize onB ax ay px py tx ty = ob at *
                go_wp2_with fail
                refine ((C _).out).mono ?_
                rintro e w5 ⟨rfl, hb6⟩
                have hb7 := hb5.trans (hb6.mono hb5.size)
                obtain ⟨b1, b2⟩ := PtAt.below hb7 hg1 HAQ.out
                have HT5 := Lib.hid (HTO.out.below hb7 hg2)
                obtain ⟨c1', c2'⟩ := HT5.out.one
                have f1 := HT5.out.frozen 0
                have f2 := HT5.out.frozen 1
                obtain ⟨e1, e2⟩ := PtAt.below hb6 (by rw [hs5]; omega) P5
                have HBI5 : Hid (Below (ga + 1) wb w5) := Lib.hid (HBI.out.trans (hb7.mono (by omega)))
                have hgi5 : ga + 2 ≤ w5.heap.size := by have := hb7.size; omega
                have hgp : wr.heap.size < w5.heap.size := by have := hb6.size; rw [hs5'] at this; omega
                clear hb5 hb6 hb7 P5 ep h1 h2 he C
                have ep := eq_pt tx ty ax ay
                cases he2 : eqI tx ty ax ay
                · have hne2 : ¬ ((tx, ty) = (ax, ay)) := fun e => by rw [eqI_iff.2 e] at he2; cases he2
                  by_cases hc0 : cr < 0
                  · have hd1 : decide (cr < 0) = true := decide_eq_true hc0
                    have HSIDE : Hid ((tx, ty) = (ax, ay) ∨ crossP (ax, ay) (tx, ty) (px, py) < 0 ∨ (crossP (ax, ay) (tx, ty) (px, py) = 0 ∧ onP (ax, ay) (px, py) (tx, ty) = true)) := Lib.hid (.inr (.inl (by rw [HCR.out]; exact hc0)))
                    clear hne2
                    go_wp2_with fail
                    go_roundw
                    case rel => exact ⟨q + 1, by omega, by go_num, by rw [ES.out, HYES.out HSIDE.out]; exact HT5.out.put px py, (HBI5.out.setCell (by simp) _).setCell (by simp) _, by simpa using hgi5⟩
                    case measure => simp [intOf]; omega
                  · have hd1 : decide (cr < 0) = false := decide_eq_false hc0
                    cases hd2 : (cr == 0)
                    · have HSIDE : Hid (¬ ((tx, ty) = (ax, ay) ∨ crossP (ax, ay) (tx, ty) (px, py) < 0 ∨ (crossP (ax, ay) (tx, ty) (px, py) = 0 ∧ onP (ax, ay) (px, py) (tx, ty) = true))) := Lib.hid (by
                        rw [HCR.out]
                        rintro (h | h | ⟨h, _⟩)
                        · exact hne2 h
                        · exact hc0 h
                        · rw [h] at hd2; cases hd2)
                      clear hne2
                      go_wp2_with fail
                      go_roundw
                      case rel => exact ⟨q + 1, by omega, by go_num, by rw [ES.out, HNO.out HSIDE.out]; exact HT5.out, HBI5.out, hgi5⟩
                      case measure => simp [intOf]; omega
                    · have hcz : cr = 0 := by simpa using hd2
                      cases hob : ob
                      · have HSIDE : Hid (¬ ((tx, ty) = (ax, ay) ∨ crossP (ax, ay) (tx, ty) (px, py) < 0 ∨ (crossP (ax, ay) (tx, ty) (px, py) = 0 ∧ onP (ax, ay) (px, py) (tx, ty) = true))) := Lib.hid (by
                          rw [HCR.out, HON.out, hob]
                          rintro (h | h | ⟨_, h⟩)
                          · exact hne2 h
                          · exact hc0 h
                          · cases h)
                        rw [hob] at TO
                        clear hne2
                        go_wp2_with fail
                        refine ((TO _).out).mono ?_
                        rintro e w6 ⟨rfl, hb6⟩
                        replace HT5 := Lib.hid (HT5.out.below hb6 (by omega))
                        replace HBI5 : Hid (Below (ga + 1) wb w6) := Lib.hid (HBI5.out.trans (hb6.mono (by omega)))
                        replace hgi5 : ga + 2 ≤ w6.heap.size := by have := hb6.size; omega
                        go_wp2_with fail
                        go_roundw
                        case rel => exact ⟨q + 1, by omega, by go_num, by rw [ES.out, HNO.out HSIDE.out]; exact HT5.out, HBI5.out, hgi5⟩
                        case measure => simp [intOf]; omega
                      · have HSIDE : Hid ((tx, ty) = (ax, ay) ∨ crossP (ax, ay) (tx, ty) (px, py) < 0 ∨ (crossP (ax, ay) (tx, ty) (px, py) = 0 ∧ onP (ax, ay) (px, py) (tx, ty) = true)) := Lib.hid (.inr (.inr ⟨by rw [HCR.out]; exact hcz, by rw [HON.out, hob]⟩))
                        rw [hob] at TO
                        clear hne2
                        go_wp2_with fail
                        refine ((TO _).out).mono ?_
                        rintro e w6 ⟨rfl, hb6⟩
                        obtain ⟨e1, e2⟩ := PtAt.below hb6 hgp ⟨e1, e2⟩
                        replace HT5 := Lib.hid (HT5.out.below hb6 (by omega))
                        replace HBI5 : Hid (Below (ga + 1) wb w6) := Lib.hid (HBI5.out.trans (hb6.mono (by omega)))
                        replace hgi5 : ga + 2 ≤ w6.heap.size := by have := hb6.size; omega
                        obtain ⟨c1', c2'⟩ := HT5.out.one
                        have f1 := HT5.out.frozen 0
                        have f2 := HT5.out.frozen 1
                        go_wp2_with fail
                        go_roundw
                        case rel => exact ⟨q + 1, by omega, by go_num, by rw [ES.out, HYES.out HSIDE.out]; exact HT5.out.put px py, (HBI5.out.setCell (by simp) _).setCell (by simp) _, by simpa using hgi5⟩
                        case measure => simp [intOf]; omega
                · have HSIDE : Hid ((tx, ty) = (ax, ay) ∨ crossP (ax, ay) (tx, ty) (px, py) < 0 ∨ (crossP (ax, ay) (tx, ty) (px, py) = 0 ∧ onP (ax, ay) (px, py) (tx, ty) = true)) := Lib.hid (.inl (eqI_iff.1 he2))
                  go_wp2_with fail
                  go_roundw
                  case rel => exact ⟨q + 1, by omega, by go_num, by rw [ES.out, HYES.out HSIDE.out]; exact HT5.out.put px py, (HBI5.out.setCell (by simp) _).setCell (by simp) _, by simpa using hgi5⟩
                  case measure => simp [intOf]; omega
              · have HKE : Hid (wrapStep (ax, ay) (tx, ty) (px, py) = (tx, ty)) := Lib.hid (by unfold wrapStep; rw [if_pos (eqI_iff.1 he)])
                go_wp2_with fail
                go_roundw
                case rel => exact ⟨q + 1, by omega, by go_num, by rw [ES.out, HKE.out]; exact HTO.out.alloc _, HBI.out.trans (hb5.mono (by omega)), by rw [hs5']; omega⟩
                case measure => simp [intOf]; omega
            · obtain rfl : q = k := by omega
              have HW : Hid ((l.take q).foldl (wrapStep (ax, ay)) (ax, ay) = nx H j) := Lib.hid (by
                rw [List.take_of_length_le (by rw [HL.out]; omega)]
                exact wrap_edge HED.out)
              rw [HW.out] at HTO
              clear HTM HW
              have O6 := Lib.hid (HO.out.belows HBO.out (Nat.le_of_eq hgo'))
              obtain ⟨l1, l2⟩ := HLQ.out.one
              generalize hnt : nx H j = t at *
              obtain ⟨tx, ty⟩ := t
              obtain ⟨t1, t2⟩ := HTO.out.one
              have gp := guard_pt
              have ep := eq_pt tx ty lx ly
              cases he : eqI tx ty lx ly
              · obtain ⟨hj2, htk⟩ := HNY.out (fun e => by rw [eqI_iff.2 e] at he; cases he)
                have HTK := Lib.hid htk
                have hA1 : (H.take (j + 1)).length + [(tx, ty)].length ≤ 100000 := by rw [hjl]; simp; omega
                have hA2 : w.heap.size + 1 ≤ (wr.alloc (bx tx ty)).heap.size := by rw [World.size_alloc]; omega
                clear htk HNX HNY HED
                go_wp2_with (at_builtin; refine wpList_papp rfl (.tmp 104) (.tmp 106) rfl (w.heap.size + 1) _ (H.take (j + 1)) [(tx, ty)] (some ⟨wr.heap.size, 0, none⟩) 1 1 rfl rfl (O6.out.alloc _) rfl (PtsAt.one wr tx ty) hA1 hA2 ?_; intro v1 w7 ho hg hat; have HO7 := Lib.hid ho; have HG7 := Lib.hid hg; clear ho hg hat)
                have HB7 : Hid (Below (w.heap.size + 1) wr w7) := Lib.hid (((Below.refl _ _).alloc (by omega) _).grown HG7.out hA2 (fun k hk => (O6.out.base k hk).1))
                have HO8 : Hid (PtsOwn w7 (w.heap.size + 1) v1 (H.take (j + 1 + 1))) := Lib.hid (by rw [HTK.out]; exact HO7.out)
                have hs7 : w.heap.size + 1 ≤ w7.heap.size := by have := HB7.out.size; omega
                have HL7 := Lib.hid (HLQ.out.below HB7.out (by omega))
                have HW7 := Lib.hid (HBWQ.out.trans (HB7.out.mono (by omega)))
                clear HO7 HG7 hA1 hA2
                go_wp2_with fail
                go_roundw
                case rel => exact ⟨j + 1, hj2, HO8.out, HL7.out, HW7.out, hs7⟩
                case measure =>
                  obtain ⟨A9, c9, e9, _, _⟩ := HO8.out.slice_n (n := j + 2) (by rw [List.length_take]; omega)
                  rw [e9]
                  simp [slLen]; omega
              · have hjH : j + 1 = H.length := HNX.out (eqI_iff.1 he)
                have HOF : Hid (PtsOwn wr w.heap.size (.slice (some ⟨g, og, none⟩) (j + 1) c1) H) := Lib.hid (by
                  have := O6.out.low (base' := w.heap.size) (by omega)
                  rwa [show H.take (j + 1) = H by rw [hjH, List.take_length]] at this)
                clear HNX HNY HED
                go_wp2_with fail
                go_ret2
                exact ⟨HBWQ.out, .inr ⟨HFL.out, _, rfl, HOF.out⟩⟩
      · have HFL : Hid (flatTo l l.length = true) := Lib.hid (by rw [HL.out]; exact hfl)
        go_wp2_with fail
        go_ret2
        exact ⟨HBW.out, .inl ⟨HFL.out, rfl⟩⟩
end Go.Proofs.Ytlmdmgbhfoehgaa
