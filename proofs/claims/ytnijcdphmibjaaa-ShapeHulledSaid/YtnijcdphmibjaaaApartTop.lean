/- Package shape's checkConvex and Apart; the law's own 'convex'; the reference's Moved and Apart. -/
import Derived.Test.YtnijcdphmibjaaaDevBeyond
namespace Go.Proofs.Ytnijcdphmibjaaa
open Go.RowKit Go.Sort
attribute [local go_sem ↓] run_min_mn run_max_mx Go.wp_at_zero Go.wp_at_succ

def conE (l : List Pt) : Int := if polyB l then (if convexB l then 0 else 2) else 1
theorem conE_cases (l : List Pt) : (conE l = 1 ∧ polyB l = false) ∨ (conE l = 2 ∧ polyB l = true ∧ convexB l = false) ∨ (conE l = 0 ∧ polyB l = true ∧ convexB l = true) := by
  unfold conE
  cases polyB l <;> cases convexB l <;> simp
theorem conE_zero {l : List Pt} (h0 : conE l = 0) : polyB l = true ∧ convexB l = true := by
  rcases conE_cases l with h | h | h
  · rw [h.1] at h0; cases h0
  · rw [h.1] at h0; cases h0
  · exact h.2
theorem conE_rng (l : List Pt) : 0 ≤ conE l ∧ conE l ≤ 2 := by
  rcases conE_cases l with h | h | h <;> omega

def convsE : List (List Pt) → Int
  | [] => 0
  | l :: L => if conE l = 0 then convsE L else conE l
theorem convsE_skip {L : List (List Pt)} {k : Nat} (hk : k < L.length) (h : conE L[k] = 0) : convsE (L.drop (k + 1)) = convsE (L.drop k) := by
  rw [List.drop_eq_getElem_cons hk]
  show _ = if conE L[k] = 0 then convsE (L.drop (k + 1)) else conE L[k]
  rw [if_pos h]
theorem convsE_here {L : List (List Pt)} {k : Nat} (hk : k < L.length) (h : conE L[k] ≠ 0) : convsE (L.drop k) = conE L[k] := by
  rw [List.drop_eq_getElem_cons hk]
  show (if conE L[k] = 0 then convsE (L.drop (k + 1)) else conE L[k]) = _
  rw [if_neg h]

/-- A row of slices of points. -/
def PolysIn (w : World) (b off : Nat) (L : List (List Pt)) : Prop :=
  ∀ i l, L[i]? = some l → ∃ A n c, w.cell? ⟨b, off + i, none⟩ = some (.slice A n c) ∧ l.length = n ∧ n ≤ 1000000 ∧ PtsAt w A l
theorem PolysIn.below {w w' : World} {b off : Nat} {L : List (List Pt)} (h : PolysIn w b off L) (hb : Below w.heap.size w w') (hB : b < w.heap.size) : PolysIn w' b off L := fun i l hi => by
  obtain ⟨A, n, c, h1, h2, h3, h4⟩ := h i l hi
  exact ⟨A, n, c, (hb.cell (p := ⟨b, _, none⟩) hB).trans h1, h2, h3, h4.below hb⟩

set_option maxRecDepth 100000 in
set_option maxHeartbeats 1000000 in
theorem checkConvex_any (b off n c : Nat) (L : List (List Pt)) (w : World) (hl : L.length = n) (hn' : n ≤ 1000) (h : PolysIn w b off L) (hb : b < w.heap.size) :
    Calls Try.prog 73 #[.slice (some ⟨b, off, none⟩) n c] w fun e w' => e = .returned (.int .i64 (convsE L)) ∧ Below w.heap.size w w' := by
  have HL := Lib.hid hl
  have HP := Lib.hid h
  clear hl h
  go_enter Try.func73, Try.ntmps73
  go_wp2
  go_loopw [7] (fun i wr => ∃ k : Nat, k ≤ n ∧ i = .int .i64 k ∧ convsE (L.drop k) = convsE L ∧ Below w.heap.size w wr) (fun i _ => n - (intOf i).toNat)
  case atStart => exact ⟨0, Nat.zero_le _, rfl, rfl, Below.refl _ _⟩
  case round =>
    obtain ⟨k, hk, rfl, hz, hbw⟩ := hrel
    have HZ := Lib.hid hz
    clear hz
    by_cases hlt : k < n
    · have hkl : k < L.length := by rw [HL.out]; exact hlt
      obtain ⟨A, m, d, h1, h2, h3, h4⟩ := (HP.out.below hbw hb) k L[k] (List.getElem?_eq_getElem hkl)
      have hB : b < wr.heap.size := Nat.lt_of_lt_of_le hb hbw.size
      have KP := fun W hW => Lib.hid (isPolygon_any A m d L[k] W h2 h3 (h4.below (w' := W) hW))
      have HE1 : Hid (conE L[k] = 0 → convsE (L.drop (k + 1)) = convsE L) := Lib.hid fun h => (convsE_skip hkl h).trans HZ.out
      have HE2 : Hid (conE L[k] ≠ 0 → convsE L = conE L[k]) := Lib.hid fun h => HZ.out.symm.trans (convsE_here hkl h)
      generalize L[k] = l at *
      cases hp : polyB l
      · have HE : Hid (convsE L = 1) := Lib.hid (by
          have e : conE l = 1 := by unfold conE; rw [hp]; rfl
          rw [HE2.out (by rw [e]; decide), e])
        rw [hp] at KP
        clear h2 h4
        go_wp2_with fail
        refine ((KP _ (Below.refl _ _)).out).mono ?_
        rintro e w1 ⟨rfl, hb1⟩
        have hbw1 := hbw.trans (hb1.mono hbw.size)
        go_wp2_with fail
        go_ret
        exact ⟨ret_int HE.out.symm, hbw1⟩
      · rw [hp] at KP
        obtain ⟨b2, off2, rfl, g1, g2, g3, g4, g5⟩ := h4.poly h2 hp
        have KC := fun W hW => Lib.hid (isConvex_any b2 off2 m d l W h2 (by omega) (by omega) (g4.below (B := wr.heap.size) hW g3) (Nat.lt_of_lt_of_le g3 hW.size) g5)
        rw [convex_same] at KC
        clear h2 h4 g4 g5
        cases hc : convexB l
        · have HE : Hid (convsE L = 2) := Lib.hid (by
            have e : conE l = 2 := by unfold conE; rw [hp, hc]; rfl
            rw [HE2.out (by rw [e]; decide), e])
          rw [hc] at KC
          go_wp2_with fail
          refine ((KP _ (Below.refl _ _)).out).mono ?_
          rintro e w1 ⟨rfl, hb1⟩
          go_wp2_with fail
          refine ((KC _ hb1).out).mono ?_
          rintro e w2 ⟨rfl, hb2⟩
          have hbw2 := hbw.trans ((hb1.trans (hb2.mono hb1.size)).mono hbw.size)
          go_wp2_with fail
          go_ret
          exact ⟨ret_int HE.out.symm, hbw2⟩
        · have HE := Lib.hid (HE1.out (by unfold conE; rw [hp, hc]; rfl))
          rw [hc] at KC
          go_wp2_with fail
          refine ((KP _ (Below.refl _ _)).out).mono ?_
          rintro e w1 ⟨rfl, hb1⟩
          go_wp2_with fail
          refine ((KC _ hb1).out).mono ?_
          rintro e w2 ⟨rfl, hb2⟩
          have hbw2 := hbw.trans ((hb1.trans (hb2.mono hb1.size)).mono hbw.size)
          go_wp2_with fail
          go_roundw
          case rel => exact ⟨k + 1, by omega, by go_num, HE.out, hbw2⟩
          case measure => simp [intOf]; omega
    · have HE : Hid (convsE L = 0) := Lib.hid (by
        rw [← HZ.out, List.drop_of_length_le (by rw [HL.out]; omega)]; rfl)
      go_wp2_with fail
      go_ret
      exact ⟨ret_int HE.out.symm, hbw⟩

theorem lawConvex_any (A : Option Addr) (n c : Nat) (l : List Pt) (w : World) (hn : l.length = n) (hbig : n ≤ 1000000) (hx : PtsAt w A l) :
    Calls Try.prog 37 #[.slice A n c] w fun e w' => e = .returned (.int .i64 (conE l)) ∧ Below w.heap.size w w' := by
  have K := Lib.hid (polygonX_any A n c l w hn hbig hx)
  cases hp : polyB l
  · have e1 : conE l = 1 := by unfold conE; rw [hp]; rfl
    rw [e1]
    rw [hp] at K
    clear hn hx
    go_enter Try.func37, Try.ntmps37
    go_wp2_with fail
    refine (K.out).mono ?_
    rintro e w' ⟨rfl, hb⟩
    go_wp2
    go_ret
    exact ⟨rfl, hb⟩
  · have e1 : conE l = if convexB l then 0 else 2 := by unfold conE; rw [hp]; rfl
    have E1 := Lib.hid e1
    rw [hp] at K
    obtain ⟨b, off, rfl, h1, h2, h3, h4, h5⟩ := hx.poly hn hp
    have S := fun W hW => Lib.hid (convex_any b off n c l W hn (by omega) (by omega) (h4.below (B := w.heap.size) hW h3) (Nat.lt_of_lt_of_le h3 hW.size) h5)
    clear hn hx h4 h5 e1
    generalize conE l = r at *
    cases hs : convexB l
    all_goals
      have E2 := Lib.hid (E1.out.trans (by rw [hs]))
      rw [hs] at S
      go_enter Try.func37, Try.ntmps37
      go_wp2_with fail
      refine (K.out).mono ?_
      rintro e w1 ⟨rfl, hb⟩
      go_wp2_with fail
      refine ((S _ hb).out).mono ?_
      rintro e w2 ⟨rfl, hb2⟩
      go_wp2
      go_ret
      exact ⟨ret_int E2.out.symm, hb.trans (hb2.mono hb.size)⟩

theorem ok_Bd {l : List Pt} (h : l.all okP = true) : ∀ x ∈ l, Bd x := fun x hx => Bd.of_ok (List.all_eq_true.1 h x hx)
theorem moved_Bd {l : List Pt} {v : Pt} (h : l.all okP = true) (hv : validB v.1 v.2 20000 = true) : ∀ x ∈ movedL l v, Bd x := fun x hx => by
  obtain ⟨p, hp, rfl⟩ := List.mem_map.1 hx
  obtain ⟨h1, h2⟩ := okP_bd (List.all_eq_true.1 h p hp)
  have : (-20000 ≤ v.1 ∧ v.1 ≤ 20000) ∧ (-20000 ≤ v.2 ∧ v.2 ≤ 20000) := by simpa [validB, inB] using hv
  unfold Bd addP
  simp only
  omega
theorem valid_Bd2 {v : Pt} (hv : validB v.1 v.2 20000 = true) : Bd v := by
  have : (-20000 ≤ v.1 ∧ v.1 ≤ 20000) ∧ (-20000 ≤ v.2 ∧ v.2 ≤ 20000) := by simpa [validB, inB] using hv
  unfold Bd
  omega

/-- What Apart says: whether, and the error. -/
def apE (a b : List Pt) (v : Pt) : Int := if conE a = 0 then (if conE b = 0 then (if validB v.1 v.2 20000 then 0 else 1) else conE b) else conE a
def apX (a b : List Pt) (v : Pt) : Bool := if apE a b v = 0 then apartB a (movedL b v) else false
theorem apE_zero {a b : List Pt} {v : Pt} (h : apE a b v = 0) : conE a = 0 ∧ conE b = 0 ∧ validB v.1 v.2 20000 = true := by
  unfold apE at h
  split at h
  · split at h
    · split at h
      · exact ⟨by assumption, by assumption, by assumption⟩
      · cases h
    · rename_i h1 h2; exact absurd h h2
  · rename_i h2; exact absurd h h2
theorem convs_two (a b : List Pt) : convsE [a, b] = if conE a = 0 then conE b else conE a := by
  show (if conE a = 0 then (if conE b = 0 then 0 else conE b) else conE a) = _
  split
  · split
    · rename_i h; exact h.symm
    · rfl
  · rfl

set_option maxRecDepth 100000 in
set_option maxHeartbeats 1000000 in
theorem apartX_any (A : Option Addr) (n c : Nat) (A' : Option Addr) (m d : Nat) (a b : List Pt) (v : Pt) (w : World) (hn : a.length = n) (hbig : n ≤ 1000000) (hx : PtsAt w A a) (hm : b.length = m) (hbig' : m ≤ 1000000) (hy : PtsAt w A' b) :
    Calls Try.prog 40 #[.slice A n c, .slice A' m d, .agg #[.int .i64 v.1, .int .i64 v.2]] w fun e w' => e = .returned (.tuple #[.bool (apX a b v), .int .i64 (apE a b v)]) ∧ Below w.heap.size w w' := by
  have hb0 : Below w.heap.size w (w.alloc (bx v.1 v.2)) := (Below.refl _ _).alloc (Nat.le_refl _) _
  have P0 : PtAt (w.alloc (bx v.1 v.2)) w.heap.size v.1 v.2 := PtAt.new
  have hz0 : (w.alloc (bx v.1 v.2)).heap.size = w.heap.size + 1 := by simp
  have hx0 := hx.below hb0
  have hy0 := hy.below hb0
  generalize hw0 : w.alloc (bx v.1 v.2) = w0 at *
  have hb1 : Below w0.heap.size w0 (w0.alloc (.cells #[.slice A n c, .slice A' m d] 22)) := (Below.refl _ _).alloc (Nat.le_refl _) _
  have hP : PolysIn (w0.alloc (.cells #[.slice A n c, .slice A' m d] 22)) w0.heap.size 0 [a, b] := by
    intro i l hi
    match i, hi with
    | 0, hi =>
      obtain rfl : a = l := by simpa using hi
      exact ⟨A, n, c, by simp [World.cell?_alloc_new], hn, hbig, hx0.below hb1⟩
    | 1, hi =>
      obtain rfl : b = l := by simpa using hi
      exact ⟨A', m, d, by simp [World.cell?_alloc_new], hm, hbig', hy0.below hb1⟩
  rw [hz0] at hP
  have K := Lib.hid (checkConvex_any (w.heap.size + 1) 0 2 2 [a, b] _ rfl (by omega) hP (by simp; omega))
  have HB1 := Lib.hid (hb0.trans (hb1.mono hb0.size))
  have P1 := PtAt.below hb1 (by omega) P0
  have hgr : w.heap.size < (w0.alloc (.cells #[.slice A n c, .slice A' m d] 22)).heap.size := by simp; omega
  have hC := convs_two a b
  have V := fun W => Lib.hid (isNear_any v.1 v.2 20000 (by omega) W)
  have HX := Lib.hid hx
  have HY := Lib.hid hy
  clear hb0 P0 hx0 hy0 hb1 hP
  by_cases h0 : convsE [a, b] = 0
  · have ha : conE a = 0 := by
      rw [hC] at h0
      split at h0
      · assumption
      · rename_i h; exact absurd h0 h
    have hb : conE b = 0 := by rw [hC, if_pos ha] at h0; exact h0
    obtain ⟨pa, ca⟩ := conE_zero ha
    obtain ⟨pb, cb⟩ := conE_zero hb
    rw [h0] at K
    cases hv : validB v.1 v.2 20000
    · have e1 : apE a b v = 1 := by unfold apE; rw [if_pos ha, if_pos hb, hv]; rfl
      have e2 : apX a b v = false := by unfold apX; rw [e1]; rfl
      rw [e1, e2]
      rw [hv] at V
      clear hC h0 ha hb pa ca pb cb hv e1 e2 HX HY hx hy hn hm
      go_enter Try.func40, Try.ntmps40
      go_upto_region 1 with (fail)
      clear hw0
      go_wp2_with fail
      refine (K.out).mono ?_
      rintro e w1 ⟨rfl, hb1⟩
      obtain ⟨p1, p2⟩ := PtAt.below hb1 hgr P1
      have hbw1 := HB1.out.trans (hb1.mono HB1.out.size)
      go_wp2_with fail
      refine ((V _).out).mono ?_
      rintro e w2 ⟨rfl, hb2⟩
      have hbw2 := hbw1.trans (hb2.mono hbw1.size)
      go_wp2
      go_ret2
      exact ⟨rfl, hbw2⟩
    · have e1 : apE a b v = 0 := by unfold apE; rw [if_pos ha, if_pos hb, hv]; rfl
      have e2 : apX a b v = apartB a (movedL b v) := by unfold apX; rw [e1]; rfl
      rw [e1, e2]
      rw [hv] at V
      obtain ⟨b1, o1, rfl, g1, g2, g3, g4, g5⟩ := hx.poly hn pa
      obtain ⟨b2, o2, rfl, f1, f2, f3, f4, f5⟩ := hy.poly hm pb
      have KM := fun W (hW : Below w.heap.size w W) => Lib.hid (moved_any b2 o2 m d b v W hm (by omega) (f4.below hW f3) (Nat.lt_of_lt_of_le f3 hW.size) (Bd.all f5) (valid_Bd2 hv))
      have KA := fun g2 W (hW : Below w.heap.size w W) (hM : PtBlk W g2 (movedL b v)) => Lib.hid (areApart_any b1 o1 n c g2 0 m m a (movedL b v) W hn (by omega) (by omega) (g4.below hW g3) (Nat.lt_of_lt_of_le g3 hW.size) (ok_Bd g5) ((movedL_length b v).trans hm) (by omega) (by omega) hM.pts hM.lt (moved_Bd f5 hv))
      clear hC h0 ha hb pa ca pb cb hv e1 e2 HX HY hx hy hn hm g4 g5 f4 f5
      generalize apartB a (movedL b v) = r at *
      generalize movedL b v = mv at *
      go_enter Try.func40, Try.ntmps40
      go_upto_region 1 with (fail)
      clear hw0
      go_wp2_with fail
      refine (K.out).mono ?_
      rintro e w1 ⟨rfl, hb1⟩
      obtain ⟨p1, p2⟩ := PtAt.below hb1 hgr P1
      have hbw1 := HB1.out.trans (hb1.mono HB1.out.size)
      have hgr1 : w.heap.size < w1.heap.size := Nat.lt_of_lt_of_le hgr hb1.size
      clear hb1
      go_wp2_with fail
      refine ((V _).out).mono ?_
      rintro e w2 ⟨rfl, hb2⟩
      obtain ⟨p1, p2⟩ := PtAt.below hb2 hgr1 ⟨p1, p2⟩
      have hbw2 := hbw1.trans (hb2.mono hbw1.size)
      clear hb2
      go_wp2_with fail
      refine ((KM _ hbw2).out).mono ?_
      rintro e w3 ⟨g, rfl, hg, hM, hb3⟩
      have hbw3 := hbw2.trans (hb3.mono hbw2.size)
      clear hb3
      have KA1 := KA g w3 hbw3 hM
      clear hM hg
      go_wp2_with fail
      refine (KA1.out).mono ?_
      rintro e w4 ⟨rfl, hb4⟩
      have hbw4 := hbw3.trans (hb4.mono hbw3.size)
      go_wp2
      go_ret2
      exact ⟨rfl, hbw4⟩
  · have e1 : apE a b v = convsE [a, b] := by
      rw [hC]; unfold apE
      split
      · rename_i ha
        rw [if_neg]
        rw [hC, if_pos ha] at h0; exact h0
      · rfl
    have e2 : apX a b v = false := by unfold apX; rw [if_neg (by rw [e1]; exact h0)]
    rw [e1, e2]
    have hrng : 0 ≤ convsE [a, b] ∧ convsE [a, b] ≤ 2 := by
      rw [hC]; have := conE_rng a; have := conE_rng b; split <;> omega
    generalize convsE [a, b] = r at *
    clear hC e1 e2 HX HY hx hy hn hm V
    go_enter Try.func40, Try.ntmps40
    go_upto_region 1 with (fail)
    clear hw0
    go_wp2_with fail
    refine (K.out).mono ?_
    rintro e w1 ⟨rfl, hb1⟩
    have hbw1 := HB1.out.trans (hb1.mono HB1.out.size)
    go_wp2
    go_ret2
    exact ⟨rfl, hbw1⟩
end Go.Proofs.Ytnijcdphmibjaaa
