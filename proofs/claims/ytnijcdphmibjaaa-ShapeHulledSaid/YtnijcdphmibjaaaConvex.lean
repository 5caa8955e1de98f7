/- Is a polygon convex in normal form? The reference's function. -/
import Derived.Test.YtnijcdphmibjaaaSimple
namespace Go.Proofs.Ytnijcdphmibjaaa
open Go.RowKit Go.Sort
attribute [local go_sem ↓] run_min_mn run_max_mx Go.wp_at_zero Go.wp_at_succ


set_option maxHeartbeats 800000 in
theorem convex_any (b off n c : Nat) (l : List Pt) (w : World) (hl : l.length = n) (hn : 2 < n) (hn' : n ≤ 100) (h : PtsIn w b off l) (hb : b < w.heap.size) (hok : l.all okP = true) :
    Calls Try.prog 27 #[.slice (some ⟨b, off, none⟩) n c] w fun e w' =>
      e = .returned (.bool (convexB l)) ∧ Below w.heap.size w w' := by
  have S := fun W hW => Lib.hid (simple_any b off n c l W hl hn hn' (h.below (B := w.heap.size) hW hb) (Nat.lt_of_lt_of_le hb hW.size) hok)
  cases hs : simpleB l
  · have HS := Lib.hid hs
    clear hs
    go_enter Try.func27, Try.ntmps27
    go_wp2_with fail
    refine ((S _ (Below.refl _ _)).out).mono ?_
    rintro e w1 ⟨rfl, hb1⟩
    rw [HS.out]
    go_wp2_with fail
    go_ret
    exact ⟨ret_bool (by simp [convexB, HS.out]), hb1⟩
  · have HS := Lib.hid hs
    clear hs
    go_enter Try.func27, Try.ntmps27
    go_wp2_with fail
    refine ((S _ (Below.refl _ _)).out).mono ?_
    rintro e w1 ⟨rfl, hb1⟩
    rw [HS.out]
    clear S
    go_wp2_with fail
    go_loopw [3] (fun i wr => ∃ k : Nat, k ≤ n ∧ i = .int .i64 k ∧ (∀ j, j < k → convexAt l j = true) ∧ Below w.heap.size w wr) (fun i _ => n - (intOf i).toNat)
    case atStart => exact ⟨0, Nat.zero_le _, rfl, by omega, hb1⟩
    case round =>
      clear hb1
      obtain ⟨k, hk, rfl, hz, hbw⟩ := hrel
      by_cases hlt : k < n
      · obtain ⟨p, hp⟩ : ∃ p, l[k]? = some p := ⟨l[k]'(by omega), List.getElem?_eq_getElem _⟩
        obtain ⟨p0, hp0⟩ : ∃ p, l[0]? = some p := ⟨l[0]'(by omega), List.getElem?_eq_getElem _⟩
        have hpx : gt l k = p := by unfold gt; rw [List.getD_eq_getElem?_getD, hp]; rfl
        have hpx0 : gt l 0 = p0 := by unfold gt; rw [List.getD_eq_getElem?_getD, hp0]; rfl
        have hpts := h.below hbw hb
        have hB : b < wr.heap.size := Nat.lt_of_lt_of_le hb hbw.size
        obtain ⟨h1, h2⟩ := hpts k p hp
        obtain ⟨h3, h4⟩ := hpts 0 p0 hp0
        have N := fun d os => Lib.hid (Calls.regrown_of (next_any b off n c l k (grow (redrawn wr d) os) hl (by omega) (by omega) (by omega) (hpts.below (below_regrown wr d os) hB)))
        have N2 := fun d os => Lib.hid (Calls.regrown_of (next_any1 b off n c l k (grow (redrawn wr d) os) hl (by omega) (by omega) (by omega) (hpts.below (below_regrown wr d os) hB)))
        have ok1 := okP_bd (getD_ok hok k)
        rw [show l.getD k (0, 0) = gt l k from rfl, hpx] at ok1
        have ok2 := okP_bd (nx_ok hok k)
        have ok3 := okP_bd (nx_ok hok (k + 1))
        have e1 : convexAt l k = (!decide (crossP p (nx l k) (nx l (k + 1)) ≤ 0) && (k == 0 || firstP p0 p)) := by unfold convexAt; rw [hpx, hpx0]
        have E1 := Lib.hid e1
        have HZ := Lib.hid hz
        have HL := Lib.hid hl
        clear e1 hz hp hp0 hpx hpx0 hpts h hok hl
        generalize nx l k = q at *
        generalize nx l (k + 1) = r at *
        obtain ⟨x, y⟩ := p
        obtain ⟨x0, y0⟩ := p0
        obtain ⟨qx, qy⟩ := q
        obtain ⟨rx, ry⟩ := r
        obtain ⟨⟨b1, b2⟩, b3, b4⟩ := ok1
        obtain ⟨⟨b5, b6⟩, b7, b8⟩ := ok2
        obtain ⟨⟨b9, b10⟩, b11, b12⟩ := ok3
        have C := fun d os => Lib.hid (Calls.regrown_of (cross_any x y qx qy rx ry (grow (redrawn wr d) os) (by omega) (by omega) (by omega) (by omega) (by omega) (by omega)))
        have F := fun d os => Lib.hid (Calls.regrown_of (first_any x0 y0 x y (grow (redrawn wr d) os)))
        have t1 := cell_regrown h1
        have t2 := cell_regrown h2
        have t3 := cell_regrown h3
        have t4 := cell_regrown h4
        simp only [Nat.zero_mul, Nat.add_zero] at t3 t4
        clear h1 h2 h3 h4
        cases g1 : decide (cross x y qx qy rx ry ≤ 0)
        · rcases Nat.eq_zero_or_pos k with hk0 | hk0
          · have g2 : decide (0 < k) = false := by simp [hk0]
            have HK0 := Lib.hid hk0
            clear hk0
            go_wp2_with fail
            refine wp_region_quiet_below (by kernel_rfl) (by kernel_rfl) ?_
            repeat (go_big_quiet_step (first | (with_reducible exact (N _ _).out) | (with_reducible exact (N2 _ _).out) | (with_reducible exact (C _ _).out) | (with_reducible exact (F _ _).out)))
            refine wpQuiet_nil ?_
            intro _ hw'
            obtain ⟨⟨dq, osq⟩, hw''⟩ := hw'
            subst hw''
            go_wp2_with fail
            go_roundw
            case rel => exact ⟨k + 1, by omega, by go_num, fun j hj => by
              rcases Nat.lt_or_eq_of_le (Nat.le_of_lt_succ hj) with h' | h'
              · exact HZ.out j h'
              · rw [h', E1.out]; unfold crossP; rw [g1, HK0.out]; rfl, hbw.trans ((below_regrown wr dq osq).mono hbw.size)⟩
            case measure => simp [intOf]; omega
          · have g2 : decide (0 < k) = true := by simp; omega
            have g3 : (k == 0) = false := by rw [beq_eq_false_iff_ne]; omega
            have G3 := Lib.hid g3
            clear g3
            cases g4 : firstB x0 y0 x y
            · go_wp2_with fail
              refine wp_region_quiet_below (by kernel_rfl) (by kernel_rfl) ?_
              repeat (go_big_quiet_step (first | (with_reducible exact (N _ _).out) | (with_reducible exact (N2 _ _).out) | (with_reducible exact (C _ _).out) | (with_reducible exact (F _ _).out)))
              refine wpQuiet_nil ?_
              intro _ hw'
              obtain ⟨⟨dq, osq⟩, hw''⟩ := hw'
              subst hw''
              go_wp2_with fail
              go_ret
              exact ⟨ret_bool (convexB_no (HL.out.symm ▸ hlt) (by rw [E1.out]; unfold crossP firstP; rw [g1, g4, G3.out]; rfl)).symm, hbw.trans ((below_regrown wr dq osq).mono hbw.size)⟩
            · go_wp2_with fail
              refine wp_region_quiet_below (by kernel_rfl) (by kernel_rfl) ?_
              repeat (go_big_quiet_step (first | (with_reducible exact (N _ _).out) | (with_reducible exact (N2 _ _).out) | (with_reducible exact (C _ _).out) | (with_reducible exact (F _ _).out)))
              refine wpQuiet_nil ?_
              intro _ hw'
              obtain ⟨⟨dq, osq⟩, hw''⟩ := hw'
              subst hw''
              go_wp2_with fail
              go_roundw
              case rel => exact ⟨k + 1, by omega, by go_num, fun j hj => by
                rcases Nat.lt_or_eq_of_le (Nat.le_of_lt_succ hj) with h' | h'
                · exact HZ.out j h'
                · rw [h', E1.out]; unfold crossP firstP; rw [g1, g4]; simp, hbw.trans ((below_regrown wr dq osq).mono hbw.size)⟩
              case measure => simp [intOf]; omega
        · go_wp2_with fail
          refine wp_region_quiet_below (by kernel_rfl) (by kernel_rfl) ?_
          repeat (go_big_quiet_step (first | (with_reducible exact (N _ _).out) | (with_reducible exact (N2 _ _).out) | (with_reducible exact (C _ _).out) | (with_reducible exact (F _ _).out)))
          refine wpQuiet_nil ?_
          intro _ hw'
          obtain ⟨⟨dq, osq⟩, hw''⟩ := hw'
          subst hw''
          go_wp2_with fail
          go_ret
          exact ⟨ret_bool (convexB_no (HL.out.symm ▸ hlt) (by rw [E1.out]; unfold crossP; rw [g1]; rfl)).symm, hbw.trans ((below_regrown wr dq osq).mono hbw.size)⟩
      · have hkn : k = n := by omega
        have hfin : convexB l = true := convexB_yes HS.out (fun j hj => hz j (by omega))
        have HFIN := Lib.hid hfin
        clear hfin hz h hok hl
        go_wp2_with fail
        go_ret
        exact ⟨ret_bool HFIN.out.symm, hbw⟩
end Go.Proofs.Ytnijcdphmibjaaa
