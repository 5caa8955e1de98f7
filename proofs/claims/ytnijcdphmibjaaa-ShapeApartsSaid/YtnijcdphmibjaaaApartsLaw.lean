/- ShapeAparts: the law's walk. -/
import Derived.Test.YtnijcdphmibjaaaRefApart
import Derived.Test.YtnijcdphmibjaaaAreasLaw
namespace Go.Proofs.Ytnijcdphmibjaaa
open Go.RowKit Go.Sort

set_option maxHeartbeats 4000000 in
set_option maxRecDepth 100000 in
theorem aparts_law (A0 : Option Addr) (n0 c0 : Nat) (xs0 : List Pt) (A1 : Option Addr) (n1 c1 : Nat) (xs1 : List Pt) (px py : Int) (w : World)
    (hn0 : xs0.length = n0) (hc0 : n0 ≤ c0) (hbig0 : n0 ≤ 9223372036854775807) (hx0 : PtsAt w A0 xs0) (hn1 : xs1.length = n1) (hc1 : n1 ≤ c1) (hbig1 : n1 ≤ 9223372036854775807) (hx1 : PtsAt w A1 xs1) :
    Calls Try.prog 7 #[.slice A0 n0 c0, .slice A1 n1 c1, .agg #[.int .i64 px, .int .i64 py]] w fun e w' => e = .returned (.bool true) ∧ Below w.heap.size w w' := by
  have hb0 : Below w.heap.size w (w.alloc (bx px py)) := (Below.refl _ _).alloc (Nat.le_refl _) _
  have KA := fun W (hW : Below w.heap.size w W) => Lib.hid (pcut_any A0 n0 c0 12 xs0 W hn0 hc0 hbig0 (by omega) (hx0.below hW))
  have KB := fun W (hW : Below w.heap.size w W) => Lib.hid (pcut_any A1 n1 c1 12 xs1 W hn1 hc1 hbig1 (by omega) (hx1.below hW))
  have hlenA := take_len (k := 12) hn0
  have hlenB := take_len (k := 12) hn1
  have hW0 : w.heap.size < (w.alloc (bx px py)).heap.size := by simp
  have P0 : PtAt (w.alloc (bx px py)) w.heap.size px py := PtAt.new
  generalize xs0.take (cutN n0 12) = a at *
  generalize xs1.take (cutN n1 12) = b at *
  clear hn0 hc0 hbig0 hx0 hn1 hc1 hbig1 hx1
  go_enter Try.func7, Try.ntmps7
  go_upto_region 1 with (fail)
  generalize w.alloc (bx px py) = w0 at *
  obtain ⟨p1, p2⟩ := P0
  go_wp2_with fail
  refine ((KA _ hb0).out).mono ?_
  rintro e w1 ⟨v, rfl, hown, hb1⟩
  obtain ⟨p1, p2⟩ := PtAt.below hb1 hW0 ⟨p1, p2⟩
  obtain ⟨G1, d1, rfl, hd1, hat1, -⟩ := hown.slice
  have hbw1 := hb0.trans (hb1.mono hb0.size)
  have hW1 : w.heap.size < w1.heap.size := Nat.lt_of_lt_of_le hW0 hb1.size
  clear hown hd1 hb1 hb0 hW0 KA
  go_wp2_with fail
  refine ((KB _ hbw1).out).mono ?_
  rintro e w2 ⟨v, rfl, hown, hb2⟩
  obtain ⟨p1, p2⟩ := PtAt.below hb2 hW1 ⟨p1, p2⟩
  obtain ⟨G2, d2, rfl, hd2, hat2, -⟩ := hown.slice
  have HAT1 := Lib.hid (hat1.below hb2)
  have HAT2 := Lib.hid hat2
  have HW2 := Lib.hid (hbw1.trans (hb2.mono hbw1.size))
  have hW2 : w.heap.size < w2.heap.size := Nat.lt_of_lt_of_le hW1 hb2.size
  clear hown hd2 hb2 hbw1 hW1 KB hat1 hat2
  have KX := fun W (hW : Below w2.heap.size w2 W) => Lib.hid (apartX_any G1 a.length d1 G2 b.length d2 a b (px, py) W rfl (by omega) (HAT1.out.below hW) rfl (by omega) (HAT2.out.below hW))
  have K1 := fun W (hW : Below w2.heap.size w2 W) => Lib.hid (lawConvex_any G1 a.length d1 a W rfl (by omega) (HAT1.out.below hW))
  have K2 := fun W (hW : Below w2.heap.size w2 W) => Lib.hid (lawConvex_any G2 b.length d2 b W rfl (by omega) (HAT2.out.below hW))
  have KV := fun W => Lib.hid (valid_any px py 20000 (by omega) W)
  have L := fun W => Lib.hid (lives4_any W)
  have ra := conE_rng a
  have rb := conE_rng b
  by_cases ha : conE a = 0
  · by_cases hb : conE b = 0
    · obtain ⟨pa, ca⟩ := conE_zero ha
      obtain ⟨pb, cb⟩ := conE_zero hb
      rw [ha] at K1
      rw [hb] at K2
      cases hv : validB px py 20000
      · have e1 : apE a b (px, py) = 1 := by unfold apE; rw [if_pos ha, if_pos hb]; simp only; rw [hv]; rfl
        have e2 : apX a b (px, py) = false := by unfold apX; rw [e1]; rfl
        rw [e1, e2] at KX
        rw [hv] at KV
        clear e1 e2 ha hb hv HAT1 HAT2 ra rb
        generalize a.length = m1 at *
        generalize b.length = m2 at *
        go_wp2_with fail
        refine ((KX _ (Below.refl _ _)).out).mono ?_
        rintro e w3 ⟨rfl, hb3⟩
        obtain ⟨p1, p2⟩ := PtAt.below hb3 hW2 ⟨p1, p2⟩
        have hW3 : w.heap.size < w3.heap.size := Nat.lt_of_lt_of_le hW2 hb3.size
        go_wp2_with fail
        refine ((K1 _ hb3).out).mono ?_
        rintro e w4 ⟨rfl, hb4⟩
        obtain ⟨p1, p2⟩ := PtAt.below hb4 hW3 ⟨p1, p2⟩
        have hbr4 := hb3.trans (hb4.mono hb3.size)
        have hW4 : w.heap.size < w4.heap.size := Nat.lt_of_lt_of_le hW3 hb4.size
        clear hb3 hb4
        go_wp2_with fail
        refine ((K2 _ hbr4).out).mono ?_
        rintro e w5 ⟨rfl, hb5⟩
        obtain ⟨p1, p2⟩ := PtAt.below hb5 hW4 ⟨p1, p2⟩
        have hbr5 := hbr4.trans (hb5.mono hbr4.size)
        clear hb5 hbr4
        go_wp2_with fail
        refine ((KV _).out).mono ?_
        rintro e w6 ⟨rfl, hb6⟩
        have hbr6 := hbr5.trans (hb6.mono hbr5.size)
        clear hb6 hbr5
        go_wp2_with fail
        refine ((L _).out).mono ?_
        rintro e w7 ⟨rfl, hb7⟩
        have hbr7 := hbr6.trans (hb7.mono hbr6.size)
        go_wp2
        go_ret
        exact ⟨rfl, HW2.out.trans (hbr7.mono HW2.out.size)⟩
      · have e1 : apE a b (px, py) = 0 := by unfold apE; rw [if_pos ha, if_pos hb]; simp only; rw [hv]; rfl
        have e2 : apX a b (px, py) = apartB a (movedL b (px, py)) := by unfold apX; rw [e1]; rfl
        rw [e1, e2] at KX
        obtain ⟨b1, o1, rfl, g1, g2, g3, g4, g5⟩ := HAT1.out.poly rfl pa
        obtain ⟨b2, o2, rfl, f1, f2, f3, f4, f5⟩ := HAT2.out.poly rfl pb
        have KM := fun W (hW : Below w2.heap.size w2 W) => Lib.hid (refMoved_any b2 o2 b.length d2 b (px, py) W rfl (by omega) (f4.below hW f3) (Nat.lt_of_lt_of_le f3 hW.size) (Bd.all f5) (valid_Bd2 (v := (px, py)) hv))
        have hml : (movedL b (px, py)).length = b.length := movedL_length b (px, py)
        have KR := fun g2 o2 d W (hW : Below w2.heap.size w2 W) (hM : PtsIn W g2 o2 (movedL b (px, py))) (hg : g2 < W.heap.size) => Lib.hid (refApart_any b1 o1 a.length d1 g2 o2 b.length d a (movedL b (px, py)) W rfl (by omega) (by omega) (g4.below hW g3) (Nat.lt_of_lt_of_le g3 hW.size) (ok_Bd g5) hml (by omega) (by omega) hM hg (moved_Bd f5 hv))
        have hm0 : movedL b (px, py) ≠ [] := by intro e; rw [e] at hml; simp at hml; omega
        rw [hv] at KV
        clear e1 e2 ha hb hv HAT1 HAT2 ra rb g4 g5 f4 f5
        generalize apartB a (movedL b (px, py)) = r at *
        generalize movedL b (px, py) = mv at *
        generalize a.length = m1 at *
        generalize b.length = m2 at *
        go_wp2_with fail
        refine ((KX _ (Below.refl _ _)).out).mono ?_
        rintro e w3 ⟨rfl, hb3⟩
        obtain ⟨p1, p2⟩ := PtAt.below hb3 hW2 ⟨p1, p2⟩
        have hW3 : w.heap.size < w3.heap.size := Nat.lt_of_lt_of_le hW2 hb3.size
        go_wp2_with fail
        refine ((K1 _ hb3).out).mono ?_
        rintro e w4 ⟨rfl, hb4⟩
        obtain ⟨p1, p2⟩ := PtAt.below hb4 hW3 ⟨p1, p2⟩
        have hbr4 := hb3.trans (hb4.mono hb3.size)
        have hW4 : w.heap.size < w4.heap.size := Nat.lt_of_lt_of_le hW3 hb4.size
        clear hb3 hb4
        go_wp2_with fail
        refine ((K2 _ hbr4).out).mono ?_
        rintro e w5 ⟨rfl, hb5⟩
        obtain ⟨p1, p2⟩ := PtAt.below hb5 hW4 ⟨p1, p2⟩
        have hbr5 := hbr4.trans (hb5.mono hbr4.size)
        have hW5 : w.heap.size < w5.heap.size := Nat.lt_of_lt_of_le hW4 hb5.size
        clear hb5 hbr4
        go_wp2_with fail
        refine ((KV _).out).mono ?_
        rintro e w6 ⟨rfl, hb6⟩
        obtain ⟨p1, p2⟩ := PtAt.below hb6 hW5 ⟨p1, p2⟩
        have hbr6 := hbr5.trans (hb6.mono hbr5.size)
        clear hb6 hbr5
        go_wp2_with fail
        refine ((KM _ hbr6).out).mono ?_
        rintro e w7 ⟨v, rfl, hown, hb7⟩
        obtain ⟨G3, d3, rfl, hd3, hat3, -⟩ := hown.slice
        obtain ⟨b3, o3, rfl, hb3, hin3⟩ := hat3 hm0
        have hbr7 := hbr6.trans (hb7.mono hbr6.size)
        have KR1 := KR b3 o3 d3 w7 hbr7 hin3 hb3
        rw [hml] at *
        clear hb7 hbr6 hown hd3 hat3 hin3 hb3
        go_wp2_with fail
        refine (KR1.out).mono ?_
        rintro e w8 ⟨rfl, hb8⟩
        have hbr8 := hbr7.trans (hb8.mono hbr7.size)
        clear hb8 hbr7
        go_wp2_with fail
        refine ((L _).out).mono ?_
        rintro e w9 ⟨rfl, hb9⟩
        have hbr9 := hbr8.trans (hb9.mono hbr8.size)
        go_wp2
        go_ret
        exact ⟨rfl, HW2.out.trans (hbr9.mono HW2.out.size)⟩
    · have e1 : apE a b (px, py) = conE b := by unfold apE; rw [if_pos ha, if_neg hb]
      have e2 : apX a b (px, py) = false := by unfold apX; rw [if_neg (by rw [e1]; exact hb)]
      rw [e1, e2] at KX
      rw [ha] at K1
      clear e1 e2 ha HAT1 HAT2 ra KV
      generalize a.length = m1 at *
      generalize b.length = m2 at *
      generalize conE b = r at *
      go_wp2_with fail
      refine ((KX _ (Below.refl _ _)).out).mono ?_
      rintro e w3 ⟨rfl, hb3⟩
      go_wp2_with fail
      refine ((K1 _ hb3).out).mono ?_
      rintro e w4 ⟨rfl, hb4⟩
      have hbr4 := hb3.trans (hb4.mono hb3.size)
      clear hb3 hb4
      go_wp2_with fail
      refine ((K2 _ hbr4).out).mono ?_
      rintro e w5 ⟨rfl, hb5⟩
      have hbr5 := hbr4.trans (hb5.mono hbr4.size)
      clear hb5 hbr4
      go_wp2_with fail
      refine ((L _).out).mono ?_
      rintro e w7 ⟨rfl, hb7⟩
      have hbr7 := hbr5.trans (hb7.mono hbr5.size)
      go_wp2
      go_ret
      exact ⟨rfl, HW2.out.trans (hbr7.mono HW2.out.size)⟩
  · have e1 : apE a b (px, py) = conE a := by unfold apE; rw [if_neg ha]
    have e2 : apX a b (px, py) = false := by unfold apX; rw [if_neg (by rw [e1]; exact ha)]
    rw [e1, e2] at KX
    clear e1 e2 HAT1 HAT2 rb KV K2
    generalize a.length = m1 at *
    generalize b.length = m2 at *
    generalize conE a = r at *
    go_wp2_with fail
    refine ((KX _ (Below.refl _ _)).out).mono ?_
    rintro e w3 ⟨rfl, hb3⟩
    go_wp2_with fail
    refine ((K1 _ hb3).out).mono ?_
    rintro e w4 ⟨rfl, hb4⟩
    have hbr4 := hb3.trans (hb4.mono hb3.size)
    clear hb3 hb4
    go_wp2_with fail
    refine ((L _).out).mono ?_
    rintro e w7 ⟨rfl, hb7⟩
    have hbr7 := hbr4.trans (hb7.mono hbr4.size)
    go_wp2
    go_ret
    exact ⟨rfl, HW2.out.trans (hbr7.mono HW2.out.size)⟩
end Go.Proofs.Ytnijcdphmibjaaa
