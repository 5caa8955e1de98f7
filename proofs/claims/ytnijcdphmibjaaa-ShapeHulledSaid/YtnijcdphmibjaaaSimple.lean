/- Is a polygon simple? The reference's function. -/
import Derived.Test.YtnijcdphmibjaaaArea
import Derived.Laws.StructEq
import Derived.KernelRfl
namespace Go.Proofs.Ytnijcdphmibjaaa
open Go.RowKit Go.Sort
attribute [local go_sem ↓] run_min_mn run_max_mx Go.wp_at_zero Go.wp_at_succ

theorem eq_pt (a b c d : Int) (w : World) : (Op.equalIn 10000 33 (.agg #[.int .i64 a, .int .i64 b]) (.agg #[.int .i64 c, .int .i64 d])).run Try.prog w = .ok (eqI a b c d) w := by
  have u3 := Try.underlying3
  have hS : Try.prog.underlying 33 = some (.struct (Try.prog.fieldsOf 33)) := by kernel_rfl
  have hp : Try.prog.stoodInHeld 33 = false := by kernel_rfl
  rw [show (10000 : Nat) = 9999 + 1 from rfl, run_equalIn_agg w 9999 _ _ _ hS hp]
  simp only [Program.fieldsOf, Try.underlying33]
  go_simp
  by_cases h1 : a = c <;> by_cases h2 : b = d <;> simp [eqI, h1, h2]
theorem guard_pt : Try.prog.eqGuardType Try.prog.depth 33 = false := by kernel_rfl

set_option maxHeartbeats 800000 in
theorem simple_any (b off n c : Nat) (l : List Pt) (w : World) (hl : l.length = n) (hn : 2 < n) (hn' : n ≤ 100) (h : PtsIn w b off l) (hb : b < w.heap.size) (hok : l.all okP = true) :
    Calls Try.prog 26 #[.slice (some ⟨b, off, none⟩) n c] w fun e w' =>
      e = .returned (.bool (simpleB l)) ∧ Below w.heap.size w w' := by
  go_enter Try.func26, Try.ntmps26
  go_wp2
  go_loopw [4] (fun i wr => ∃ k : Nat, k ≤ n ∧ i = .int .i64 k ∧ (∀ j, j < k → zeroAt l j = false) ∧ Below w.heap.size w wr) (fun i _ => n - (intOf i).toNat)
  case atStart => exact ⟨0, Nat.zero_le _, rfl, by omega, Below.refl _ _⟩
  case round =>
    obtain ⟨k, hk, rfl, hz, hbw⟩ := hrel
    by_cases hlt : k < n
    · obtain ⟨p, hp⟩ : ∃ p, l[k]? = some p := ⟨l[k]'(by omega), List.getElem?_eq_getElem _⟩
      obtain ⟨h1, h2⟩ := (h.below hbw hb) k p hp
      have N := fun d os => Lib.hid (Calls.regrown_of (next_any b off n c l k (grow (redrawn wr d) os) hl (by omega) (by omega) (by omega) ((h.below hbw hb).below (below_regrown wr d os) (Nat.lt_of_lt_of_le hb hbw.size))))
      have e1 : zeroAt l k = eqP p (nx l k) := by unfold zeroAt gt; rw [List.getD_eq_getElem?_getD, hp]; rfl
      have E1 := Lib.hid e1
      have HZ := Lib.hid hz
      have HL := Lib.hid hl
      clear e1 hz
      generalize nx l k = q at *
      have t1 := cell_regrown h1
      have t2 := cell_regrown h2
      obtain ⟨x, y⟩ := p
      obtain ⟨qx, qy⟩ := q
      clear hp h hok hl h1 h2
      have gp := guard_pt
      have ep := eq_pt x y qx qy
      cases he : eqI x y qx qy
      · go_wp2_with fail
        refine wp_region_quiet_below (by kernel_rfl) (by kernel_rfl) ?_
        repeat (go_big_quiet_step (exact (N _ _).out))
        refine wpQuiet_nil ?_
        intro _ hw'
        obtain ⟨⟨dq, osq⟩, hw''⟩ := hw'
        subst hw''
        go_wp2_with fail
        go_roundw
        case rel => exact ⟨k + 1, by omega, by go_num, fun j hj => by
          rcases Nat.lt_or_eq_of_le (Nat.le_of_lt_succ hj) with h' | h'
          · exact HZ.out j h'
          · rw [h', E1.out]; exact he, hbw.trans ((below_regrown wr dq osq).mono hbw.size)⟩
        case measure => simp [intOf]; omega
      · go_wp2_with fail
        refine wp_region_quiet_below (by kernel_rfl) (by kernel_rfl) ?_
        repeat (go_big_quiet_step (exact (N _ _).out))
        refine wpQuiet_nil ?_
        intro _ hw'
        obtain ⟨⟨dq, osq⟩, hw''⟩ := hw'
        subst hw''
        go_wp2_with fail
        go_ret
        exact ⟨ret_bool (simpleB_zero (HL.out.symm ▸ hlt) (by rw [E1.out]; exact he)).symm, hbw.trans ((below_regrown wr dq osq).mono hbw.size)⟩
    · obtain rfl : n = k := by omega
      have HZ := Lib.hid hz
      clear hz hlt hk
      go_wp2_with fail
      go_loopw [5] (fun i wr => ∃ m : Nat, m ≤ n ∧ i = .int .i64 m ∧ (∀ j, j < m → foldAt l j = false ∧ ∀ q, j + 2 ≤ q → q < n → hitAt l j q = false) ∧ Below w.heap.size w wr) (fun i _ => n - (intOf i).toNat)
      case atStart => exact ⟨0, Nat.zero_le _, rfl, by omega, hbw⟩
      case round =>
        clear hbw
        obtain ⟨m, hm, rfl, hf0, hbw⟩ := hrel
        by_cases hlt : m < n
        · obtain ⟨p, hp⟩ : ∃ p, l[m]? = some p := ⟨l[m]'(by omega), List.getElem?_eq_getElem _⟩
          have hpx : gt l m = p := by unfold gt; rw [List.getD_eq_getElem?_getD, hp]; rfl
          obtain ⟨h1, h2⟩ := (h.below hbw hb) m p hp
          have hB : b < wr.heap.size := Nat.lt_of_lt_of_le hb hbw.size
          have hpts := h.below hbw hb
          have N := fun W hW => Lib.hid (next_any b off n c l m W hl (by omega) (by omega) (by omega) (hpts.below (B := wr.heap.size) hW hB))
          have N2 := fun W hW => Lib.hid (next_any1 b off n c l m W hl (by omega) (by omega) (by omega) (hpts.below (B := wr.heap.size) hW hB))
          have ok1 := okP_bd (getD_ok hok m)
          have ok2 := okP_bd (nx_ok hok m)
          have ok3 := okP_bd (nx_ok hok (m + 1))
          have ef : foldAt l m = (onP p (nx l m) (nx l (m + 1)) || onP (nx l m) (nx l (m + 1)) p) := by unfold foldAt; rw [hpx]
          have eh : ∀ q, hitAt l m q = (!((q + 1) % n == m) && meetP p (nx l m) (gt l q) (nx l q)) := fun q => by unfold hitAt; rw [hpx, hl]
          have EF := Lib.hid ef
          have EH := Lib.hid eh
          have HF := Lib.hid hf0
          have HL := Lib.hid hl
          have HP := Lib.hid hpts
          have HOK := Lib.hid hok
          have ok1' : (-10000 ≤ p.1 ∧ p.1 ≤ 10000) ∧ (-10000 ≤ p.2 ∧ p.2 ≤ 10000) := by rw [← hpx]; exact ok1
          clear ok1 hp hpx hpts ef eh hf0 hl h hok
          generalize nx l m = q at *
          generalize nx l (m + 1) = r at *
          obtain ⟨x, y⟩ := p
          obtain ⟨qx, qy⟩ := q
          obtain ⟨rx, ry⟩ := r
          obtain ⟨⟨b1, b2⟩, b3, b4⟩ := ok1'
          obtain ⟨⟨b5, b6⟩, b7, b8⟩ := ok2
          obtain ⟨⟨b9, b10⟩, b11, b12⟩ := ok3
          go_wp2_with fail
          go_cut [6, 7] (fun s t wx => TwoPts wr x y qx qy s t wx)
          case first =>
            have lt2 : wr.heap.size < wr.heap.size + 1 + 1 := by omega
            have n1 := World.new_ne wr _ h1
            have n2 := World.new_ne wr _ h2
            go_region_held3 (fun w' => Below wr.heap.size wr w' ∧ w'.cell? ⟨b, off + m * 2, none⟩ = some (.int .i64 x) ∧ w'.cell? ⟨b, off + m * 2 + 1, none⟩ = some (.int .i64 y))
              (((repeat (first | refine keep_drew ?_ | refine keep_alloc ?_ hB _ | refine keep_set ?_ hB _ (by simp) _)); (first | assumption | exact hS | exact ⟨Below.refl _ _, h1, h2⟩)))
              (first | ((go_at_call 64; refine ((N _ ?_).out).mono ?_; (exact And.left (by assumption)); rintro e w' ⟨rfl, hb'⟩; have hS := keep_call (by assumption) hB hb'; obtain ⟨hc', hf'⟩ := old_cells hb'; have hz' := hb'.size; try simp at hz'; try (have hz2 : wr.heap.size < w'.heap.size := by omega))))
            all_goals (go_wp2_with fail; go_meet)
            all_goals
              have hS1 := hS.1
              refine ⟨_, _, rfl, rfl, ?_, ?_, ?_⟩
              · constructor <;> (first | (go_simp; done))
              · constructor <;> (first | (go_simp; done))
              · go_grown
          case rest =>
            obtain ⟨g, hh, rfl, rfl, P1, P2, hbc⟩ := hcut
            have hgb : g < wc.heap.size := block_lt_of_cell P1.1
            have hhb : hh < wc.heap.size := block_lt_of_cell P2.1
            go_wp2_with fail
            refine ((N2 _ hbc).out).mono ?_
            rintro e w2 ⟨rfl, hb2⟩
            have P3 := PtAt.below hb2 hgb P1
            have P4 := PtAt.below hb2 hhb P2
            have hw2 := hb2.size
            have hbc2 := hbc.trans (hb2.mono hbc.size)
            have hgb2 : g < w2.heap.size := by omega
            have hhb2 : hh < w2.heap.size := by omega
            clear hb2 P1 P2 hbc hgb hhb hw2
            obtain ⟨p1, p2⟩ := P3
            obtain ⟨p3, p4⟩ := P4
            have P5 : PtAt (w2.alloc (.cells #[.int .i64 rx, .int .i64 ry] 33)) w2.heap.size rx ry := PtAt.new
            have O1 := fun W => Lib.hid (on_any x y qx qy rx ry W (by omega) (by omega) (by omega) (by omega) (by omega) (by omega))
            have O2 := fun W => Lib.hid (on_any qx qy rx ry x y W (by omega) (by omega) (by omega) (by omega) (by omega) (by omega))
            have hbn : Below w.heap.size w (w2.alloc (.cells #[.int .i64 rx, .int .i64 ry] 33)) := (hbw.trans (hbc2.mono hbw.size)).alloc (Nat.le_trans hbw.size hbc2.size) _
            have hbn2 : Below wr.heap.size wr (w2.alloc (.cells #[.int .i64 rx, .int .i64 ry] 33)) := hbc2.alloc hbc2.size _
            cases o1 : onB x y qx qy rx ry
            · go_wp2_with fail
              refine ((O1 _).out).mono ?_
              rintro e w3 ⟨rfl, hb3⟩
              have P3 := PtAt.below hb3 (by rw [World.size_alloc]; omega) (PtAt.alloc (b := g) (x := x) (y := y) _ hgb2 ⟨p1, p2⟩)
              have P4 := PtAt.below hb3 (by rw [World.size_alloc]; omega) (PtAt.alloc (b := hh) (x := qx) (y := qy) _ hhb2 ⟨p3, p4⟩)
              have P6 := PtAt.below hb3 (by rw [World.size_alloc]; omega) P5
              have hb5 := hbn.trans (hb3.mono hbn.size)
              have hb6 := hbn2.trans (hb3.mono hbn2.size)
              clear hb3 hbn hbn2 P5 p1 p2 p3 p4 hbc2 hbw
              obtain ⟨p1, p2⟩ := P3
              obtain ⟨p3, p4⟩ := P4
              obtain ⟨p5, p6⟩ := P6
              rw [o1]
              go_wp2_with fail
              cases o2 : onB qx qy rx ry x y
              · refine ((O2 _).out).mono ?_
                rintro e w4 ⟨rfl, hb3⟩
                rw [o2]
                have hgb3 : g < w3.heap.size := block_lt_of_cell p1
                have hhb3 : hh < w3.heap.size := block_lt_of_cell p3
                have P3 := PtAt.below hb3 hgb3 ⟨p1, p2⟩
                have P4 := PtAt.below hb3 hhb3 ⟨p3, p4⟩
                have hb7 := hb5.trans (hb3.mono hb5.size)
                have hb8 := hb6.trans (hb3.mono hb6.size)
                have hfold : foldAt l m = false := by rw [EF.out]; unfold onP; rw [o1, o2]; rfl
                have HFO := Lib.hid hfold
                clear hfold hb3 hb5 hb6 p1 p2 p3 p4 p5 p6 O1 O2 o1 o2 hgb2 hhb2 hgb3 hhb3
                go_wp2_with fail
                obtain ⟨wo, rfl⟩ : ∃ wo : World, wo = wr := ⟨_, rfl⟩
                go_loopw [9] (fun kk w5 => ∃ q : Nat, m + 2 ≤ q ∧ kk = .int .i64 q ∧ (q ≤ n ∨ q = m + 2) ∧ (∀ j, m + 2 ≤ j → j < q → j < n → hitAt l m j = false) ∧ PtAt w5 g x y ∧ PtAt w5 hh qx qy ∧ Below wo.heap.size wo w5 ∧ Below w.heap.size w w5) (fun kk _ => n + 2 - (intOf kk).toNat)
                case atStart => exact ⟨m + 2, Nat.le_refl _, by go_num, .inr rfl, fun j h1 h2 => by omega, P3, P4, hb8, hb7⟩
                case round =>
                  clear hb7 hb8 P3 P4
                  obtain ⟨q, hq1, rfl, hq2, hits, P3, P4, hb8, hb7⟩ := hrel
                  obtain ⟨p1, p2⟩ := P3
                  obtain ⟨p3, p4⟩ := P4
                  have HI := Lib.hid hits
                  clear hits
                  by_cases hlq : q < n
                  · obtain ⟨s, hs⟩ : ∃ s, l[q]? = some s := ⟨l[q]'(by rw [HL.out]; exact hlq), List.getElem?_eq_getElem _⟩
                    have hsx : gt l q = s := by unfold gt; rw [List.getD_eq_getElem?_getD, hs]; rfl
                    have ehq := EH.out q
                    rw [hsx] at ehq
                    have EQ := Lib.hid ehq
                    obtain ⟨s1, s2⟩ := (HP.out.below hb8 hB) q s hs
                    have ok4 : (-10000 ≤ s.1 ∧ s.1 ≤ 10000) ∧ (-10000 ≤ s.2 ∧ s.2 ≤ 10000) := by have := okP_bd (getD_ok HOK.out q); rw [show l.getD q (0, 0) = gt l q from rfl, hsx] at this; exact this
                    have ok5 := okP_bd (nx_ok HOK.out q)
                    have N3 := fun d os => Lib.hid (Calls.regrown_of (next_any b off n c l q (grow (redrawn wr d) os) HL.out (by omega) (by omega) (by omega) ((HP.out.below hb8 hB).below (below_regrown wr d os) (Nat.lt_of_lt_of_le hB hb8.size))))
                    clear hs hsx ehq
                    generalize nx l q = t at *
                    obtain ⟨sx, sy⟩ := s
                    obtain ⟨tx, ty⟩ := t
                    obtain ⟨⟨b13, b14⟩, b15, b16⟩ := ok4
                    obtain ⟨⟨b17, b18⟩, b19, b20⟩ := ok5
                    have M3 := fun d os => Lib.hid (Calls.regrown_of (meet_any x y qx qy sx sy tx ty (grow (redrawn wr d) os) (by omega) (by omega) (by omega) (by omega) (by omega) (by omega) (by omega) (by omega)))
                    have t1 := cell_regrown s1
                    have t2 := cell_regrown s2
                    have t3 := cell_regrown p1
                    have t4 := cell_regrown p2
                    have t5 := cell_regrown p3
                    have t6 := cell_regrown p4
                    have e1 : (0 : Int) ≤ ((q : Int) + 1) % (n : Int) := Int.emod_nonneg _ (by omega)
                    have e2 : ((q + 1) % n == m) = ((((q : Int) + 1) % (n : Int)) == (m : Int)) := by
                      rw [show ((q : Int) + 1) % (n : Int) = (((q + 1) % n : Nat) : Int) from by rw [Int.natCast_emod]; rfl, Bool.eq_iff_iff, beq_iff_eq, beq_iff_eq]
                      exact Int.natCast_inj.symm
                    have E2 := Lib.hid e2
                    clear e2 s1 s2 p1 p2 p3 p4
                    cases hg : ((((q : Int) + 1) % (n : Int)) == (m : Int))
                    · have hg' : ((((q : Int) + 1) % (n : Int)) != (m : Int)) = true := by rw [bne, hg]; rfl
                      cases hm : meetB x y qx qy sx sy tx ty
                      · go_wp2_with fail
                        refine wp_region_quiet_below (by kernel_rfl) (by kernel_rfl) ?_
                        repeat (go_big_quiet_step (first | (with_reducible exact (N3 _ _).out) | (with_reducible exact (M3 _ _).out)))
                        refine wpQuiet_nil ?_
                        intro _ hw'
                        obtain ⟨⟨dq, osq⟩, hw''⟩ := hw'
                        subst hw''
                        go_wp2_with fail
                        go_roundw
                        case rel =>
                          refine ⟨q + 1, by omega, by go_num, .inl (by omega), fun j j1 j2 j3 => ?_, ⟨t3 _ _, t4 _ _⟩, ⟨t5 _ _, t6 _ _⟩, hb8.trans ((below_regrown wr dq osq).mono hb8.size), hb7.trans ((below_regrown wr dq osq).mono hb7.size)⟩
                          rcases Nat.lt_or_eq_of_le (Nat.le_of_lt_succ j2) with h' | h'
                          · exact HI.out j j1 h' j3
                          · rw [h', EQ.out, E2.out]; unfold meetP; rw [hg, hm]; rfl
                        case measure => simp [intOf]; omega
                      · go_wp2_with fail
                        refine wp_region_quiet_below (by kernel_rfl) (by kernel_rfl) ?_
                        repeat (go_big_quiet_step (first | (with_reducible exact (N3 _ _).out) | (with_reducible exact (M3 _ _).out)))
                        refine wpQuiet_nil ?_
                        intro _ hw'
                        obtain ⟨⟨dq, osq⟩, hw''⟩ := hw'
                        subst hw''
                        go_wp2_with fail
                        go_ret
                        exact ⟨ret_bool (simpleB_hit (HL.out.symm ▸ hlt) (HL.out.symm ▸ hlq) hq1 (by rw [EQ.out, E2.out]; unfold meetP; rw [hg, hm]; rfl)).symm, hb7.trans ((below_regrown wr dq osq).mono hb7.size)⟩
                    · have hg' : ((((q : Int) + 1) % (n : Int)) != (m : Int)) = false := by rw [bne, hg]; rfl
                      go_wp2_with fail
                      refine wp_region_quiet_below (by kernel_rfl) (by kernel_rfl) ?_
                      repeat (go_big_quiet_step (first | (with_reducible exact (N3 _ _).out) | (with_reducible exact (M3 _ _).out)))
                      refine wpQuiet_nil ?_
                      intro _ hw'
                      obtain ⟨⟨dq, osq⟩, hw''⟩ := hw'
                      subst hw''
                      go_wp2_with fail
                      go_roundw
                      case rel =>
                        refine ⟨q + 1, by omega, by go_num, .inl (by omega), fun j j1 j2 j3 => ?_, ⟨t3 _ _, t4 _ _⟩, ⟨t5 _ _, t6 _ _⟩, hb8.trans ((below_regrown wr dq osq).mono hb8.size), hb7.trans ((below_regrown wr dq osq).mono hb7.size)⟩
                        rcases Nat.lt_or_eq_of_le (Nat.le_of_lt_succ j2) with h' | h'
                        · exact HI.out j j1 h' j3
                        · rw [h', EQ.out, E2.out]; rw [hg]; rfl
                      case measure => simp [intOf]; omega
                  · go_wp2_with fail
                    go_roundw
                    case rel =>
                      refine ⟨m + 1, by omega, by go_num, fun j hj => ?_, hb7⟩
                      rcases Nat.lt_or_eq_of_le (Nat.le_of_lt_succ hj) with h' | h'
                      · exact HF.out j h'
                      · rw [h']; exact ⟨HFO.out, fun k k1 k2 => HI.out k k1 (by omega) k2⟩
                    case measure => simp [intOf]; omega
              · refine ((O2 _).out).mono ?_
                rintro e w4 ⟨rfl, hb3⟩
                rw [o2]
                go_wp2_with fail
                go_ret
                exact ⟨ret_bool (simpleB_fold (HL.out.symm ▸ hlt) (by rw [EF.out]; unfold onP; rw [o1, o2]; rfl)).symm, hb5.trans (hb3.mono hb5.size)⟩
            · go_wp2_with fail
              refine ((O1 _).out).mono ?_
              rintro e w3 ⟨rfl, hb3⟩
              rw [o1]
              go_wp2_with fail
              go_ret
              exact ⟨ret_bool (simpleB_fold (HL.out.symm ▸ hlt) (by rw [EF.out]; unfold onP; rw [o1]; rfl)).symm, hbn.trans (hb3.mono hbn.size)⟩
        · have hmn : m = n := by omega
          have hfin : simpleB l = true := simpleB_yes (fun j hj => HZ.out j (by rw [← hl]; exact hj)) (fun j hj => by
            obtain ⟨f1, f2⟩ := hf0 j (by omega)
            exact ⟨f1, fun k k1 k2 => f2 k k1 (by omega)⟩)
          have HFIN := Lib.hid hfin
          clear hfin hf0 h hok hl
          go_wp2_with fail
          go_ret
          exact ⟨ret_bool HFIN.out.symm, hbw⟩
end Go.Proofs.Ytnijcdphmibjaaa
