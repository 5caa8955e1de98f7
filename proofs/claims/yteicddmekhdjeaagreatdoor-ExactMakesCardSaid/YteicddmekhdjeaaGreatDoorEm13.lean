/- Parts of the proof, one after the other: BigNewR. -/
import Derived.Test.YteicddmekhdjeaaGreatDoorEm12
/- number.New at integers of a word at most. -/
namespace Go.Proofs.YteicddmekhdjeaaGreatDoor
open Go.RowKit Go.Sort

theorem sgnN_abs (x y : Int) : (sgnN x y).natAbs = x.natAbs := by
  unfold sgnN
  split
  · exact Int.natAbs_neg x
  · rfl
theorem sgnN_ne {y : Int} (h : y ≠ 0) : sgnN y y ≠ 0 := by
  unfold sgnN
  split <;> omega
/-- What lies in the boxes behind the signs' change, and behind the divisor. -/
def NwTo (w : World) (g : Nat) (x y : Int) (wx : World) : Prop := ∃ s A n c t A' m c', OR w wx g s A n c x t A' m c' y

set_option maxRecDepth 100000 in
set_option maxHeartbeats 4000000 in
theorem newW_any (x y : Int) (v u : Value) (w : World) (hx : ZW w v x) (hy : ZW w u y) (hxl : x.natAbs ≤ 9223372036854775808) (hyl : y.natAbs ≤ 9223372036854775808) (h0 : y ≠ 0) :
    Calls Tryz.prog 22 #[v, u] w (RetQW ((sgnN x y).tdiv (Int.gcd x y)) ((sgnN y y).tdiv (Int.gcd x y)) w) := by
  obtain ⟨s, A, n, c, rfl⟩ := hx.form
  obtain ⟨t, A', m, c', rfl⟩ := hy.form
  generalize hg : w.heap.size = g
  have O0 := OR.new hg hx hy
  have SG := fun V (h : ZW V (.agg #[.int .i64 t, .slice A' m c']) y) => Lib.hid (sign_zw y _ V h)
  have NA := fun V (h : ZW V (.agg #[.int .i64 s, .slice A n c]) x) => Lib.hid (negW x _ V h)
  have NB := fun V (h : ZW V (.agg #[.int .i64 t, .slice A' m c']) y) => Lib.hid (negW y _ V h)
  have hXl : (sgnN x y).natAbs ≤ 9223372036854775808 := by rw [sgnN_abs]; exact hxl
  have hYl : (sgnN y y).natAbs ≤ 9223372036854775808 := by rw [sgnN_abs]; exact hyl
  have hG0 : ((Int.gcd x y : Nat) : Int) ≠ 0 := by
    have := Int.gcd_pos_of_ne_zero_right x h0
    omega
  have hGl : ((Int.gcd x y : Nat) : Int).natAbs ≤ 9223372036854775808 := by
    have := Nat.gcd_le_right (m := x.natAbs) (n := y.natAbs) (by omega)
    rw [Int.natAbs_natCast]
    show Nat.gcd x.natAbs y.natAbs ≤ _
    omega
  have DV := fun V v u h1 h2 => zdivisorW (sgnN x y) (sgnN y y) v u V h1 h2 hXl hYl
  rw [sgnN_abs, sgnN_abs] at DV
  change ∀ V v u _ _, Calls _ _ _ _ (RetZV ((Int.gcd x y : Nat) : Int) V) at DV
  have DV := fun V v u h1 h2 => Lib.hid (DV V v u h1 h2)
  have DA := fun V v u (h1 : ZW V v (sgnN x y)) (h2 : ZW V u ((Int.gcd x y : Nat) : Int)) => Lib.hid (zdividedW (sgnN x y) ((Int.gcd x y : Nat) : Int) v u V h1 h2 hXl hGl hG0)
  have DB := fun V v u (h1 : ZW V v (sgnN y y)) (h2 : ZW V u ((Int.gcd x y : Nat) : Int)) => Lib.hid (zdividedW (sgnN y y) ((Int.gcd x y : Nat) : Int) v u V h1 h2 hYl hGl hG0)
  have ON := fun V v (h : ZW V v ((Int.gcd x y : Nat) : Int)) => one_zw ((Int.gcd x y : Nat) : Int) v V h
  have H1 : Hid (((Int.gcd x y : Nat) : Int) = 1 → (sgnN x y).tdiv (Int.gcd x y : Nat) = sgnN x y ∧ (sgnN y y).tdiv (Int.gcd x y : Nat) = sgnN y y) := Lib.hid (fun e => by rw [e, Int.tdiv_one, Int.tdiv_one]; exact ⟨rfl, rfl⟩)
  have HX : Hid (sgnN x y = if y < 0 then -x else x) := Lib.hid rfl
  have HY : Hid (sgnN y y = if y < 0 then -y else y) := Lib.hid rfl
  generalize (sgnN x y).tdiv (Int.gcd x y : Nat) = QX at *
  generalize (sgnN y y).tdiv (Int.gcd x y : Nat) = QY at *
  generalize ((Int.gcd x y : Nat) : Int) = G at *
  generalize sgnN x y = X at *
  generalize sgnN y y = Y at *
  clear hx hy hxl hyl hXl hYl hG0 hGl
  have HQ : Hid ((y < 0 ∧ cmpI y 0 = -1) ∨ (¬ y < 0 ∧ cmpI y 0 = 1)) := Lib.hid (by
    unfold cmpI
    by_cases h : y < 0
    · rw [if_pos h]; exact .inl ⟨h, rfl⟩
    · rw [if_neg h, if_pos (show 0 < y by omega)]; exact .inr ⟨h, rfl⟩)
  clear h0
  generalize cmpI y 0 = q at *
  go_enter Tryz.func22, Tryz.ntmps22
  go_upto_region 1 with (fail)
  generalize ((w.alloc (.cells #[.int .i64 s, .slice A n c] 39)).alloc (.cells #[.int .i64 t, .slice A' m c'] 39)).alloc (.cells #[.int .i64 0, .slice none 0 0, .int .i64 0, .slice none 0 0] 41) = w0 at *
  have HO0 := Lib.hid O0
  obtain ⟨c0, c1, c2, c3⟩ := O0.held
  clear O0
  go_upto_if 8 with (go_at_call 38; refine ((SG _ HO0.out.zB).out).mono ?_; rintro e w1 ⟨rfl, hb1⟩; have HO1 := Lib.hid (HO0.out.below hb1); clear c0 c1 c2 c3; obtain ⟨c0, c1, c2, c3⟩ := HO1.out.held; clear hb1)
  clear HO0
  go_cut [10] from 9 to 12 (fun _ wx => NwTo w g X Y wx)
  case first =>
    rcases HQ.out with ⟨hy0, rfl⟩ | ⟨hy0, rfl⟩
    · clear HQ
      have HXY : Hid (X = -x ∧ Y = -y) := Lib.hid (by have h1 := HX.out; have h2 := HY.out; rw [if_pos hy0] at h1 h2; exact ⟨h1, h2⟩)
      clear hy0
      go_upto_region 2 with (fail)
      go_region_with (first | (go_at_call 39; (with_reducible refine ((NB _ ?_).out).mono ?_); (first | exact HO2.out.zB | exact HO2.out.drew.zB); rintro e w3 ⟨s3, A3, n3, k3, rfl, hz3, hb3⟩; have O3 : OR w w3 g s A n c x t A' m c' y := (by first | exact HO2.out.below hb3 | exact HO2.out.drew.below hb3); have HO3 := Lib.hid O3; have HZ13 : Hid (ZW w3 (.agg #[.int .i64 s2, .slice A2 n2 k2]) (-x)) := Lib.hid (by first | exact HZ1.out.below hb3 | exact ZW.below (show ZW (World.drew _) _ _ from HZ1.out) hb3); have HZ2 := Lib.hid hz3; clear c0 c1 c2 c3 hb3 hz3; obtain ⟨c0, c1, c2, c3⟩ := O3.held; have f0 := O3.bA.frozen 0; have f1 := O3.bA.frozen 1; have f2 := O3.bB.frozen 0; have f3 := O3.bB.frozen 1; clear O3) | (go_at_call 39; (with_reducible refine ((NA _ ?_).out).mono ?_); (first | exact HO1.out.zA | exact HO1.out.drew.zA); rintro e w2 ⟨s2, A2, n2, k2, rfl, hz2, hb2⟩; have O2 : OR w w2 g s A n c x t A' m c' y := (by first | exact HO1.out.below hb2 | exact HO1.out.drew.below hb2); have HO2 := Lib.hid O2; have HZ1 := Lib.hid hz2; clear c0 c1 c2 c3 hb2 hz2; obtain ⟨c0, c1, c2, c3⟩ := O2.held; clear O2))
      all_goals go_wp2_with fail
      all_goals go_meet
      all_goals (rw [HXY.out.1, HXY.out.2]; exact ⟨_, _, _, _, _, _, _, _, HO3.out.put HZ13.out HZ2.out⟩)
    · clear HQ
      have HXY : Hid (X = x ∧ Y = y) := Lib.hid (by have h1 := HX.out; have h2 := HY.out; rw [if_neg (show ¬ y < 0 by omega)] at h1 h2; exact ⟨h1, h2⟩)
      clear hy0
      go_wp2_with fail
      go_meet
      rw [HXY.out.1, HXY.out.2]
      exact ⟨_, _, _, _, _, _, _, _, HO1.out⟩
  case rest =>
    clear HO1 c0 c1 c2 c3 SG NA NB HX HY HQ
    obtain ⟨s1, A1, n1, k1, t1, A2, n2, k2, hO⟩ := hcut
    have HO0 := Lib.hid hO
    obtain ⟨c0, c1, c2, c3⟩ := hO.held
    clear hO
    go_upto_region 4 with (go_at_call 40; refine ((DV _ _ _ HO0.out.zA HO0.out.zB).out).mono ?_; rintro e w1 ⟨s3, A3, n3, k3, rfl, hz1, hb1⟩; have HO1 := Lib.hid (HO0.out.below hb1); have HZ1 := Lib.hid hz1; clear c0 c1 c2 c3 hz1 hb1)
    have hgg : g + 1 + 1 < w1.heap.size := by
      obtain ⟨u1, B1, i1, d1, u2, B2, i2, d2, hr⟩ := HO1.out.R
      exact hr.lt
    have z2 := IBox.new w1 s3 (.slice A3 n3 k3)
    have hb2 := (Below.refl w1.heap.size w1).alloc (Nat.le_refl _) (.cells #[.int .i64 s3, .slice A3 n3 k3] 39)
    have HO2 := Lib.hid (HO1.out.below hb2)
    have HZ2 := Lib.hid (HZ1.out.below hb2)
    clear HO1 HZ1 hb2
    generalize w1.alloc (.cells #[.int .i64 s3, .slice A3 n3 k3] 39) = w2 at *
    generalize w1.heap.size = gg at *
    have HBX := Lib.hid z2
    have hs2 := z2.lt
    obtain ⟨d0, d1⟩ := z2.cells
    clear z2
    obtain ⟨q1, hq1⟩ : ∃ q1, (G == 1) = q1 := ⟨_, rfl⟩
    rw [hq1] at ON
    have ON := fun V v h => Lib.hid (ON V v h)
    have HQ1 := Lib.hid hq1
    clear hq1
    go_upto_if 18 with (go_at_call 41; refine ((ON _ _ HZ2.out).out).mono ?_; rintro e w3 ⟨rfl, hb3⟩; have O3 := HO2.out.below hb3; have HO3 := Lib.hid O3; have HZ3 := Lib.hid (HZ2.out.below hb3); have z3 := HBX.out.below hb3 hs2; have HBX3 := Lib.hid z3; have hs3 := z3.lt; obtain ⟨d0, d1⟩ := z3.cells; obtain ⟨c0, c1, c2, c3⟩ := O3.held; clear hb3 z3 O3)
    clear HO2 HZ2 HBX hs2 ON DV
    go_cut [21] from 19 to 24 (fun _ wx => NwTo w g QX QY wx)
    case first =>
      cases q1 with
      | true =>
        have HXY := Lib.hid (H1.out (beq_iff_eq.1 HQ1.out))
        go_wp2_with fail
        go_meet
        rw [HXY.out.1, HXY.out.2]
        exact ⟨_, _, _, _, _, _, _, _, HO3.out⟩
      | false =>
        clear H1 HQ1
        go_upto_region 5 with (fail)
        go_region_with (first | (go_at_call 42; (with_reducible refine ((DB _ _ _ ?_ ?_).out).mono ?_); (first | exact HO4.out.zB | exact HO4.out.drew.zB); (first | exact HZ4.out | exact (show ZW (World.drew _) _ _ from HZ4.out)); rintro e w5 ⟨s5, A5, n5, k5, rfl, hz5, hb5⟩; have O5 : OR w w5 g s1 A1 n1 k1 X t1 A2 n2 k2 Y := (by first | exact HO4.out.below hb5 | exact HO4.out.drew.below hb5); have HO5 := Lib.hid O5; have HQ5 : Hid (ZW w5 (.agg #[.int .i64 s4, .slice A4 n4 k4]) QX) := Lib.hid (by first | exact HQX.out.below hb5 | exact ZW.below (show ZW (World.drew _) _ _ from HQX.out) hb5); have HQY := Lib.hid hz5; clear c0 c1 c2 c3 d0 d1 hb5 hz5; obtain ⟨c0, c1, c2, c3⟩ := O5.held; have f0 := O5.bA.frozen 0; have f1 := O5.bA.frozen 1; have f2 := O5.bB.frozen 0; have f3 := O5.bB.frozen 1; clear O5) | (go_at_call 42; (with_reducible refine ((DA _ _ _ ?_ ?_).out).mono ?_); (first | exact HO3.out.zA | exact HO3.out.drew.zA); (first | exact HZ3.out | exact (show ZW (World.drew _) _ _ from HZ3.out)); rintro e w4 ⟨s4, A4, n4, k4, rfl, hz4, hb4⟩; have O4 : OR w w4 g s1 A1 n1 k1 X t1 A2 n2 k2 Y := (by first | exact HO3.out.below hb4 | exact HO3.out.drew.below hb4); have HO4 := Lib.hid O4; have HZ4 : Hid (ZW w4 (.agg #[.int .i64 s3, .slice A3 n3 k3]) G) := Lib.hid (by first | exact HZ3.out.below hb4 | exact ZW.below (show ZW (World.drew _) _ _ from HZ3.out) hb4); have z4 : IBox w4 gg s3 (.slice A3 n3 k3) := (by first | exact HBX3.out.below hb4 hs3 | exact IBox.below (show IBox (World.drew _) _ _ _ from HBX3.out) hb4 hs3); have HQX := Lib.hid hz4; clear c0 c1 c2 c3 d0 d1 hb4 hz4; obtain ⟨c0, c1, c2, c3⟩ := O4.held; obtain ⟨d0, d1⟩ := z4.cells; clear O4 z4))
        all_goals go_wp2_with fail
        all_goals go_meet
        all_goals exact ⟨_, _, _, _, _, _, _, _, HO5.out.put HQ5.out HQY.out⟩
    case rest =>
      clear HO3 HZ3 HBX3 c0 c1 c2 c3 d0 d1 DA DB H1 HQ1
      obtain ⟨s5, A5, n5, k5, t5, A6, n6, k6, hO⟩ := hcut
      obtain ⟨c0, c1, c2, c3⟩ := hO.held
      obtain ⟨u1, B1, i1, j1, u2, B2, i2, j2, hr⟩ := hO.R
      obtain ⟨r0, r1, r2, r3⟩ := hr.cells
      have f0 := hr.frozen 0
      have f1 := hr.frozen 1
      have f2 := hr.frozen 2
      have f3 := hr.frozen 3
      obtain ⟨pz, pu, pb⟩ := hr.put s5 t5 (.slice A5 n5 k5) (.slice A6 n6 k6)
      obtain ⟨p0, p1, p2, p3⟩ := pz.cells
      have HF := Lib.hid (And.intro (hO.zA.put pu) (And.intro (hO.zB.put pu) (pb hO.bel (by omega))))
      clear hO hr pz pu pb
      go_wp2_with fail
      refine bodyPost_ret (v := .agg #[.int .i64 s5, .slice A5 n5 k5, .int .i64 t5, .slice A6 n6 k6]) (by simp [results, Tryz.results22, go_sem, p0, p1, p2, p3]) rfl ?_
      exact ⟨s5, A5, n5, k5, t5, A6, n6, k6, rfl, HF.out.1, HF.out.2.1, by rw [hg]; exact HF.out.2.2⟩
end Go.Proofs.YteicddmekhdjeaaGreatDoor
