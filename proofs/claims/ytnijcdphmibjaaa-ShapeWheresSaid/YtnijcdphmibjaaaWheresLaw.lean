/- ShapeWheres: the law's walk. -/
import Derived.Test.YtnijcdphmibjaaaWhereTop
import Derived.Test.YtnijcdphmibjaaaAreasLaw
namespace Go.Proofs.Ytnijcdphmibjaaa
open Go.RowKit Go.Sort

set_option maxHeartbeats 2000000 in
set_option maxRecDepth 100000 in
theorem wheres_law (A : Option Addr) (n c : Nat) (xs : List Pt) (px py : Int) (w : World) (hn : xs.length = n) (hc : n ≤ c) (hbig : n ≤ 9223372036854775807) (hx : PtsAt w A xs) :
    Calls Try.prog 4 #[.slice A n c, .agg #[.int .i64 px, .int .i64 py]] w fun e w' => e = .returned (.bool true) ∧ Below w.heap.size w w' := by
  have hb0 : Below w.heap.size w (w.alloc (bx px py)) := (Below.refl _ _).alloc (Nat.le_refl _) _
  have K := Lib.hid (pcut_any A n c 20 xs (w.alloc (bx px py)) hn hc hbig (by omega) (hx.below hb0))
  have hlen := take_len (k := 20) hn
  have hW0 : w.heap.size < (w.alloc (bx px py)).heap.size := by simp
  have P0 : PtAt (w.alloc (bx px py)) w.heap.size px py := PtAt.new
  generalize xs.take (cutN n 20) = l at *
  clear hn hc hbig hx
  go_enter Try.func4, Try.ntmps4
  go_upto_region 1 with (fail)
  generalize w.alloc (bx px py) = w0 at *
  obtain ⟨p1, p2⟩ := P0
  go_wp2_with fail
  refine (K.out).mono ?_
  rintro e w1 ⟨v, rfl, hown, hb1⟩
  obtain ⟨p1, p2⟩ := PtAt.below hb1 hW0 ⟨p1, p2⟩
  obtain ⟨A1, c1, rfl, hc1, hat, -⟩ := hown.slice
  have KW := fun W hW => Lib.hid (whereX_any A1 l.length c1 l (px, py) W rfl (by omega) (hat.belows (B := w1.heap.size) hW (Nat.le_refl _)))
  have KS := fun W hW => Lib.hid (lawSimple_any A1 l.length c1 l W rfl (by omega) (hat.belows (B := w1.heap.size) hW (Nat.le_refl _)))
  have KV := fun W => Lib.hid (valid_any px py 10000 (by omega) W)
  have L := fun W => Lib.hid (lives4_any W)
  have HAT := Lib.hid hat
  have HW1 := Lib.hid (hb0.trans (hb1.mono hb0.size))
  have hW1 : w.heap.size < w1.heap.size := Nat.lt_of_lt_of_le hW0 hb1.size
  clear K hown hc1 hat hb1 hb0 hW0
  by_cases h0 : simpE l = 0
  · obtain ⟨hp, hs⟩ : polyB l = true ∧ simpleB l = true := simpE_zero h0
    obtain ⟨b, off, rfl, h1, h2, h3, h4, h5⟩ := HAT.out.poly rfl hp
    rw [h0] at KS
    cases hv : validB px py 10000
    · have e1 : whereX l (px, py) = 0 := by unfold whereX; rw [if_neg (by simp only; rw [hv]; simp)]
      have e2 : whereE l (px, py) = 1 := by unfold whereE; rw [if_pos h0]; simp only; rw [hv]; rfl
      rw [e1, e2] at KW
      rw [hv] at KV
      clear hp hs h4 h5 e1 e2 HAT h0 hv
      generalize l.length = m at *
      go_wp2_with fail
      refine ((KW _ (Below.refl _ _)).out).mono ?_
      rintro e w2 ⟨rfl, hb2⟩
      obtain ⟨p1, p2⟩ := PtAt.below hb2 hW1 ⟨p1, p2⟩
      have hW2 : w.heap.size < w2.heap.size := Nat.lt_of_lt_of_le hW1 hb2.size
      go_wp2_with fail
      refine ((KS _ hb2).out).mono ?_
      rintro e w3 ⟨rfl, hb3⟩
      obtain ⟨p1, p2⟩ := PtAt.below hb3 hW2 ⟨p1, p2⟩
      have hb3' := hb2.trans (hb3.mono hb2.size)
      clear hb2 hb3
      go_wp2_with fail
      refine ((KV _).out).mono ?_
      rintro e w4 ⟨rfl, hb4⟩
      have hb4' := hb3'.trans (hb4.mono hb3'.size)
      clear hb3' hb4
      go_wp2_with fail
      refine ((L _).out).mono ?_
      rintro e w6 ⟨rfl, hb6⟩
      have hb6' := hb4'.trans (hb6.mono hb4'.size)
      go_wp2
      go_ret
      exact ⟨rfl, HW1.out.trans (hb6'.mono HW1.out.size)⟩
    · have e1 : whereX l (px, py) = whereR l (px, py) := by unfold whereX; rw [if_pos ⟨h0, hv⟩]
      have e2 : whereE l (px, py) = 0 := by unfold whereE; rw [if_pos h0]; simp only; rw [hv]; rfl
      rw [e1, e2] at KW
      rw [hv] at KV
      have KR := fun W hW => Lib.hid (whereR_any b off l.length c1 l (px, py) W rfl (by omega) (by omega) (h4.below (B := w1.heap.size) hW h3) (Nat.lt_of_lt_of_le h3 hW.size) (Bd.all h5) (valid_Bd (p := (px, py)) hv))
      clear hp hs h4 h5 e1 e2 HAT h0 hv
      generalize l.length = m at *
      generalize whereR l (px, py) = r at *
      go_wp2_with fail
      refine ((KW _ (Below.refl _ _)).out).mono ?_
      rintro e w2 ⟨rfl, hb2⟩
      obtain ⟨p1, p2⟩ := PtAt.below hb2 hW1 ⟨p1, p2⟩
      have hW2 : w.heap.size < w2.heap.size := Nat.lt_of_lt_of_le hW1 hb2.size
      go_wp2_with fail
      refine ((KS _ hb2).out).mono ?_
      rintro e w3 ⟨rfl, hb3⟩
      obtain ⟨p1, p2⟩ := PtAt.below hb3 hW2 ⟨p1, p2⟩
      have hb3' := hb2.trans (hb3.mono hb2.size)
      have hW3 : w.heap.size < w3.heap.size := Nat.lt_of_lt_of_le hW2 hb3.size
      clear hb2 hb3
      go_wp2_with fail
      refine ((KV _).out).mono ?_
      rintro e w4 ⟨rfl, hb4⟩
      obtain ⟨p1, p2⟩ := PtAt.below hb4 hW3 ⟨p1, p2⟩
      have hb4' := hb3'.trans (hb4.mono hb3'.size)
      clear hb3' hb4
      go_wp2_with fail
      refine ((KR _ hb4').out).mono ?_
      rintro e w5 ⟨rfl, hb5⟩
      have hb5' := hb4'.trans (hb5.mono hb4'.size)
      clear hb4' hb5
      go_wp2_with fail
      refine ((L _).out).mono ?_
      rintro e w6 ⟨rfl, hb6⟩
      have hb6' := hb5'.trans (hb6.mono hb5'.size)
      go_wp2
      go_ret
      exact ⟨rfl, HW1.out.trans (hb6'.mono HW1.out.size)⟩
  · have e1 : whereX l (px, py) = 0 := by unfold whereX; rw [if_neg (by rintro ⟨h, _⟩; exact h0 h)]
    have e2 : whereE l (px, py) = simpE l := by unfold whereE; rw [if_neg h0]
    rw [e1, e2] at KW
    clear e1 e2 HAT KV
    generalize l.length = m at *
    generalize simpE l = r at *
    go_wp2_with fail
    refine ((KW _ (Below.refl _ _)).out).mono ?_
    rintro e w2 ⟨rfl, hb2⟩
    go_wp2_with fail
    refine ((KS _ hb2).out).mono ?_
    rintro e w3 ⟨rfl, hb3⟩
    have hb3' := hb2.trans (hb3.mono hb2.size)
    clear hb2 hb3
    go_wp2_with fail
    refine ((L _).out).mono ?_
    rintro e w6 ⟨rfl, hb6⟩
    have hb6' := hb3'.trans (hb6.mono hb3'.size)
    go_wp2
    go_ret
    exact ⟨rfl, HW1.out.trans (hb6'.mono HW1.out.size)⟩
end Go.Proofs.Ytnijcdphmibjaaa
