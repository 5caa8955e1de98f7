/- ShapeAreas: the law's walk. -/
import Derived.Test.YtnijcdphmibjaaaDevTop
import Derived.Test.YtnijcdphmibjaaaPtsCut
import Derived.Test.YtnijcdphmibjaaaLives4
namespace Go.Proofs.Ytnijcdphmibjaaa
open Go.RowKit Go.Sort

theorem take_len {xs : List Pt} {n k : Nat} (h : xs.length = n) : (xs.take (cutN n k)).length ≤ max 33 k := by
  rw [List.length_take]; unfold cutN; split <;> omega

set_option maxHeartbeats 2000000 in
set_option maxRecDepth 100000 in
theorem areas_law (A : Option Addr) (n c : Nat) (xs : List Pt) (w : World) (hn : xs.length = n) (hc : n ≤ c) (hbig : n ≤ 9223372036854775807) (hx : PtsAt w A xs) :
    Calls Try.prog 3 #[.slice A n c] w fun e w' => e = .returned (.bool true) ∧ Below w.heap.size w w' := by
  have K := Lib.hid (pcut_any A n c 20 xs w hn hc hbig (by omega) hx)
  have hlen := take_len (k := 20) hn
  generalize xs.take (cutN n 20) = l at *
  clear hn hc hbig hx
  go_enter Try.func3, Try.ntmps3
  go_wp2_with fail
  refine (K.out).mono ?_
  rintro e w1 ⟨v, rfl, hown, hb1⟩
  obtain ⟨A1, c1, rfl, hc1, hat, -⟩ := hown.slice
  have KA := fun W hW => Lib.hid (area2X_any A1 l.length c1 l W rfl (by omega) (hat.belows (B := w1.heap.size) hW (Nat.le_refl _)))
  have KS := fun W hW => Lib.hid (simpleX_any A1 l.length c1 l W rfl (by omega) (hat.belows (B := w1.heap.size) hW (Nat.le_refl _)))
  have KC := fun W hW => Lib.hid (convexX_any A1 l.length c1 l W rfl (by omega) (hat.belows (B := w1.heap.size) hW (Nat.le_refl _)))
  have KP := fun W hW => Lib.hid (polygonX_any A1 l.length c1 l W rfl (by omega) (hat.belows (B := w1.heap.size) hW (Nat.le_refl _)))
  have HAT := Lib.hid hat
  have HW1 := Lib.hid hb1
  clear K hown hc1 hat hb1
  cases hp : polyB l
  · have e1 : area2X l = 0 := by unfold area2X; rw [hp]; rfl
    have e2 : errX l = 1 := by unfold errX; rw [hp]; rfl
    have e3 : simpleX l = false := by unfold simpleX; rw [hp]; rfl
    have e4 : convexX l = false := by unfold convexX; rw [hp]; rfl
    rw [e1, e2] at KA
    rw [e3, e2] at KS
    rw [e4, e2] at KC
    rw [hp] at KP
    clear e1 e2 e3 e4 hp
    generalize l.length = m at *
    go_wp2_with fail
    refine ((KA _ (Below.refl _ _)).out).mono ?_
    rintro e w2 ⟨rfl, hb2⟩
    go_wp2_with fail
    refine ((KS _ hb2).out).mono ?_
    rintro e w3 ⟨rfl, hb3⟩
    have hb3' := hb2.trans (hb3.mono hb2.size)
    go_wp2_with fail
    refine ((KC _ hb3').out).mono ?_
    rintro e w4 ⟨rfl, hb4⟩
    have hb4' := hb3'.trans (hb4.mono hb3'.size)
    go_wp2_with fail
    refine ((KP _ hb4').out).mono ?_
    rintro e w5 ⟨rfl, hb5⟩
    have hb5' := hb4'.trans (hb5.mono hb4'.size)
    clear hb2 hb3 hb3' hb4 hb4' hb5
    have L := fun W => Lib.hid (lives4_any W)
    go_wp2_with fail
    refine ((L _).out).mono ?_
    rintro e w6 ⟨rfl, hb6⟩
    have hb6' := hb5'.trans (hb6.mono hb5'.size)
    go_wp2
    go_ret
    exact ⟨rfl, HW1.out.trans (hb6'.mono HW1.out.size)⟩
  · obtain ⟨b, off, rfl, h1, h2, h3, h4, h5⟩ := HAT.out.poly rfl hp
    have e1 : area2X l = area2 l := by unfold area2X; rw [hp]; rfl
    have e2 : errX l = 0 := by unfold errX; rw [hp]; rfl
    have e3 : simpleX l = simpleB l := by unfold simpleX; rw [hp]; rfl
    have e4 : convexX l = convexB l := by unfold convexX; rw [hp]; rfl
    rw [e1, e2] at KA
    rw [e3, e2] at KS
    rw [e4, e2] at KC
    rw [hp] at KP
    have RA := fun W hW => Lib.hid (area2_any b off l.length c1 l W rfl (by omega) (by omega) (h4.below (B := w1.heap.size) hW h3) (Nat.lt_of_lt_of_le h3 hW.size) h5)
    have RS := fun W hW => Lib.hid (simple_any b off l.length c1 l W rfl (by omega) (by omega) (h4.below (B := w1.heap.size) hW h3) (Nat.lt_of_lt_of_le h3 hW.size) h5)
    have RC := fun W hW => Lib.hid (convex_any b off l.length c1 l W rfl (by omega) (by omega) (h4.below (B := w1.heap.size) hW h3) (Nat.lt_of_lt_of_le h3 hW.size) h5)
    clear e1 e2 e3 e4 hp h4 h5 HAT
    generalize l.length = m at *
    generalize area2 l = r1 at *
    generalize simpleB l = r2 at *
    generalize convexB l = r3 at *
    go_wp2_with fail
    refine ((KA _ (Below.refl _ _)).out).mono ?_
    rintro e w2 ⟨rfl, hb2⟩
    go_wp2_with fail
    refine ((KS _ hb2).out).mono ?_
    rintro e w3 ⟨rfl, hb3⟩
    have hb3' := hb2.trans (hb3.mono hb2.size)
    go_wp2_with fail
    refine ((KC _ hb3').out).mono ?_
    rintro e w4 ⟨rfl, hb4⟩
    have hb4' := hb3'.trans (hb4.mono hb3'.size)
    go_wp2_with fail
    refine ((KP _ hb4').out).mono ?_
    rintro e w5 ⟨rfl, hb5⟩
    have hb5' := hb4'.trans (hb5.mono hb4'.size)
    clear hb2 hb3 hb3' hb4 hb4' hb5 KA KS KC KP
    have L := fun W => Lib.hid (lives4_any W)
    go_wp2_with fail
    refine ((RA _ hb5').out).mono ?_
    rintro e w6 ⟨rfl, hb6⟩
    have hb6' := hb5'.trans (hb6.mono hb5'.size)
    go_wp2_with fail
    refine ((RS _ hb6').out).mono ?_
    rintro e w7 ⟨rfl, hb7⟩
    have hb7' := hb6'.trans (hb7.mono hb6'.size)
    go_wp2_with fail
    refine ((RC _ hb7').out).mono ?_
    rintro e w8 ⟨rfl, hb8⟩
    have hb8' := hb7'.trans (hb8.mono hb7'.size)
    go_wp2_with fail
    refine ((L _).out).mono ?_
    rintro e w9 ⟨rfl, hb9⟩
    have hb9' := hb8'.trans (hb9.mono hb8'.size)
    go_wp2
    go_ret
    exact ⟨rfl, HW1.out.trans (hb9'.mono HW1.out.size)⟩
end Go.Proofs.Ytnijcdphmibjaaa
