/- Parts of the proof, one after the other: Simple, DevSimple, DevCmp, DevConvex, DevMath, DevSame, DevEq, Convex, DevTop, DevWhere. -/
import Derived.Test.YthbekbfhpedghaaNd1
import Derived.Laws.StructEq
import Derived.KernelRfl
import Derived.Deep.RegionHeld3
import Derived.Deep.DrawnRows
import Derived.Deep.DeepCutAuto
import Derived.StillTailTactics
/- Is a polygon simple? The reference's function. -/
namespace Go.Proofs.Ythbekbfhpedghaa
open Go.RowKit Go.Sort
attribute [local go_sem ↓] run_min_mn run_max_mx Go.wp_at_zero Go.wp_at_succ

theorem eq_pt (a b c d : Int) (w : World) : (Op.equalIn 10000 37 (.agg #[.int .i64 a, .int .i64 b]) (.agg #[.int .i64 c, .int .i64 d])).run Try.prog w = .ok (eqI a b c d) w := by
  have u3 := Try.underlying3
  have hS : Try.prog.underlying 37 = some (.struct (Try.prog.fieldsOf 37)) := by kernel_rfl
  have hp : Try.prog.stoodInHeld 37 = false := by kernel_rfl
  rw [show (10000 : Nat) = 9999 + 1 from rfl, run_equalIn_agg w 9999 _ _ _ hS hp]
  simp only [Program.fieldsOf, Try.underlying37]
  go_simp
  by_cases h1 : a = c <;> by_cases h2 : b = d <;> simp [eqI, h1, h2]
theorem guard_pt : Try.prog.eqGuardType Try.prog.depth 37 = false := by kernel_rfl

set_option maxHeartbeats 800000 in
theorem simple_any (b off n c : Nat) (l : List Pt) (w : World) (hl : l.length = n) (hn : 2 < n) (hn' : n ≤ 100) (h : PtsIn w b off l) (hb : b < w.heap.size) (hok : l.all okP = true) :
    Calls Try.prog 36 #[.slice (some ⟨b, off, none⟩) n c] w fun e w' =>
      e = .returned (.bool (simpleB l)) ∧ Below w.heap.size w w' := by
  go_enter Try.func36, Try.ntmps36
  go_wp2
  go_loopw [4] (fun i wr => ∃ k : Nat, k ≤ n ∧ i = .int .i64 k ∧ (∀ j, j < k → zeroAt l j = false) ∧ Below w.heap.size w wr) (fun i _ => n - (intOf i).toNat)
  case atStart => exact ⟨0, Nat.zero_le _, rfl, by omega, Below.refl _ _⟩
  case round =>
    obtain ⟨k, hk, rfl, hz, hbw⟩ := hrel
    by_cases hlt : k < n
    · obtain ⟨p, hp⟩ : ∃ p, l[k]? = some p := ⟨l[k]'(by omega), List.getElem?_eq_getElem _⟩
      obtain ⟨h1, h2⟩ := (h.below hbw hb) k p hp
      have N := fun d os => Lib.hid (Calls.regrown_of (next_any b off n c l k (grow (redrawn wr d) os) hl (by omega) (by omega) (by omega) ((h.below hbw hb).below (below_regrown wr d os) (Nat.lt_of_lt_of_le hb hbw.size))))
      have e1 : zeroAt l k = eqP p (nx l k) := by unfold zeroAt gt; rw [List.getD_eq_getElem?_getD, hp]; rfl
      have E1 := Lib.hid e1
      have HZ := Lib.hid hz
      have HL := Lib.hid hl
      clear e1 hz
      generalize nx l k = q at *
      have t1 := cell_regrown h1
      have t2 := cell_regrown h2
      obtain ⟨x, y⟩ := p
      obtain ⟨qx, qy⟩ := q
      clear hp h hok hl h1 h2
      have gp := guard_pt
      have ep := eq_pt x y qx qy
      cases he : eqI x y qx qy
      · go_wp2_with fail
        refine wp_region_quiet_below (by kernel_rfl) (by kernel_rfl) ?_
        repeat (go_big_quiet_step (exact (N _ _).out))
        refine wpQuiet_nil ?_
        intro _ hw'
        obtain ⟨⟨dq, osq⟩, hw''⟩ := hw'
        subst hw''
        go_wp2_with fail
        go_roundw
        case rel => exact ⟨k + 1, by omega, by go_num, fun j hj => by
          rcases Nat.lt_or_eq_of_le (Nat.le_of_lt_succ hj) with h' | h'
          · exact HZ.out j h'
          · rw [h', E1.out]; exact he, hbw.trans ((below_regrown wr dq osq).mono hbw.size)⟩
        case measure => simp [intOf]; omega
      · go_wp2_with fail
        refine wp_region_quiet_below (by kernel_rfl) (by kernel_rfl) ?_
        repeat (go_big_quiet_step (exact (N _ _).out))
        refine wpQuiet_nil ?_
        intro _ hw'
        obtain ⟨⟨dq, osq⟩, hw''⟩ := hw'
        subst hw''
        go_wp2_with fail
        go_ret
        exact ⟨ret_bool (simpleB_zero (HL.out.symm ▸ hlt) (by rw [E1.out]; exact he)).symm, hbw.trans ((below_regrown wr dq osq).mono hbw.size)⟩
    · obtain rfl : n = k := by omega
      have HZ := Lib.hid hz
      clear hz hlt hk
      go_wp2_with fail
      go_loopw [5] (fun i wr => ∃ m : Nat, m ≤ n ∧ i = .int .i64 m ∧ (∀ j, j < m → foldAt l j = false ∧ ∀ q, j + 2 ≤ q → q < n → hitAt l j q = false) ∧ Below w.heap.size w wr) (fun i _ => n - (intOf i).toNat)
      case atStart => exact ⟨0, Nat.zero_le _, rfl, by omega, hbw⟩
      case round =>
        clear hbw
        obtain ⟨m, hm, rfl, hf0, hbw⟩ := hrel
        by_cases hlt : m < n
        · obtain ⟨p, hp⟩ : ∃ p, l[m]? = some p := ⟨l[m]'(by omega), List.getElem?_eq_getElem _⟩
          have hpx : gt l m = p := by unfold gt; rw [List.getD_eq_getElem?_getD, hp]; rfl
          obtain ⟨h1, h2⟩ := (h.below hbw hb) m p hp
          have hB : b < wr.heap.size := Nat.lt_of_lt_of_le hb hbw.size
          have hpts := h.below hbw hb
          have N := fun W hW => Lib.hid (next_any b off n c l m W hl (by omega) (by omega) (by omega) (hpts.below (B := wr.heap.size) hW hB))
          have N2 := fun W hW => Lib.hid (next_any1 b off n c l m W hl (by omega) (by omega) (by omega) (hpts.below (B := wr.heap.size) hW hB))
          have ok1 := okP_bd (getD_ok hok m)
          have ok2 := okP_bd (nx_ok hok m)
          have ok3 := okP_bd (nx_ok hok (m + 1))
          have ef : foldAt l m = (onP p (nx l m) (nx l (m + 1)) || onP (nx l m) (nx l (m + 1)) p) := by unfold foldAt; rw [hpx]
          have eh : ∀ q, hitAt l m q = (!((q + 1) % n == m) && meetP p (nx l m) (gt l q) (nx l q)) := fun q => by unfold hitAt; rw [hpx, hl]
          have EF := Lib.hid ef
          have EH := Lib.hid eh
          have HF := Lib.hid hf0
          have HL := Lib.hid hl
          have HP := Lib.hid hpts
          have HOK := Lib.hid hok
          have ok1' : (-10000 ≤ p.1 ∧ p.1 ≤ 10000) ∧ (-10000 ≤ p.2 ∧ p.2 ≤ 10000) := by rw [← hpx]; exact ok1
          clear ok1 hp hpx hpts ef eh hf0 hl h hok
          generalize nx l m = q at *
          generalize nx l (m + 1) = r at *
          obtain ⟨x, y⟩ := p
          obtain ⟨qx, qy⟩ := q
          obtain ⟨rx, ry⟩ := r
          obtain ⟨⟨b1, b2⟩, b3, b4⟩ := ok1'
          obtain ⟨⟨b5, b6⟩, b7, b8⟩ := ok2
          obtain ⟨⟨b9, b10⟩, b11, b12⟩ := ok3
          go_wp2_with fail
          go_cut [6, 7] (fun s t wx => TwoPts wr x y qx qy s t wx)
          case first =>
            have lt2 : wr.heap.size < wr.heap.size + 1 + 1 := by omega
            have n1 := World.new_ne wr _ h1
            have n2 := World.new_ne wr _ h2
            go_region_held3 (fun w' => Below wr.heap.size wr w' ∧ w'.cell? ⟨b, off + m * 2, none⟩ = some (.int .i64 x) ∧ w'.cell? ⟨b, off + m * 2 + 1, none⟩ = some (.int .i64 y))
              (((repeat (first | refine keep_drew ?_ | refine keep_alloc ?_ hB _ | refine keep_set ?_ hB _ (by simp) _)); (first | assumption | exact hS | exact ⟨Below.refl _ _, h1, h2⟩)))
              (first | ((go_at_call 38; refine ((N _ ?_).out).mono ?_; (exact And.left (by assumption)); rintro e w' ⟨rfl, hb'⟩; have hS := keep_call (by assumption) hB hb'; obtain ⟨hc', hf'⟩ := old_cells hb'; have hz' := hb'.size; try simp at hz'; try (have hz2 : wr.heap.size < w'.heap.size := by omega))))
            all_goals (go_wp2_with fail; go_meet)
            all_goals
              have hS1 := hS.1
              refine ⟨_, _, rfl, rfl, ?_, ?_, ?_⟩
              · constructor <;> (first | (go_simp; done))
              · constructor <;> (first | (go_simp; done))
              · go_grown
          case rest =>
            obtain ⟨g, hh, rfl, rfl, P1, P2, hbc⟩ := hcut
            have hgb : g < wc.heap.size := block_lt_of_cell P1.1
            have hhb : hh < wc.heap.size := block_lt_of_cell P2.1
            go_wp2_with fail
            refine ((N2 _ hbc).out).mono ?_
            rintro e w2 ⟨rfl, hb2⟩
            have P3 := PtAt.below hb2 hgb P1
            have P4 := PtAt.below hb2 hhb P2
            have hw2 := hb2.size
            have hbc2 := hbc.trans (hb2.mono hbc.size)
            have hgb2 : g < w2.heap.size := by omega
            have hhb2 : hh < w2.heap.size := by omega
            clear hb2 P1 P2 hbc hgb hhb hw2
            obtain ⟨p1, p2⟩ := P3
            obtain ⟨p3, p4⟩ := P4
            have P5 : PtAt (w2.alloc (.cells #[.int .i64 rx, .int .i64 ry] 37)) w2.heap.size rx ry := PtAt.new
            have O1 := fun W => Lib.hid (on_any x y qx qy rx ry W (by omega) (by omega) (by omega) (by omega) (by omega) (by omega))
            have O2 := fun W => Lib.hid (on_any qx qy rx ry x y W (by omega) (by omega) (by omega) (by omega) (by omega) (by omega))
            have hbn : Below w.heap.size w (w2.alloc (.cells #[.int .i64 rx, .int .i64 ry] 37)) := (hbw.trans (hbc2.mono hbw.size)).alloc (Nat.le_trans hbw.size hbc2.size) _
            have hbn2 : Below wr.heap.size wr (w2.alloc (.cells #[.int .i64 rx, .int .i64 ry] 37)) := hbc2.alloc hbc2.size _
            cases o1 : onB x y qx qy rx ry
            · go_wp2_with fail
              refine ((O1 _).out).mono ?_
              rintro e w3 ⟨rfl, hb3⟩
              have P3 := PtAt.below hb3 (by rw [World.size_alloc]; omega) (PtAt.alloc (b := g) (x := x) (y := y) _ hgb2 ⟨p1, p2⟩)
              have P4 := PtAt.below hb3 (by rw [World.size_alloc]; omega) (PtAt.alloc (b := hh) (x := qx) (y := qy) _ hhb2 ⟨p3, p4⟩)
              have P6 := PtAt.below hb3 (by rw [World.size_alloc]; omega) P5
              have hb5 := hbn.trans (hb3.mono hbn.size)
              have hb6 := hbn2.trans (hb3.mono hbn2.size)
              clear hb3 hbn hbn2 P5 p1 p2 p3 p4 hbc2 hbw
              obtain ⟨p1, p2⟩ := P3
              obtain ⟨p3, p4⟩ := P4
              obtain ⟨p5, p6⟩ := P6
              rw [o1]
              go_wp2_with fail
              cases o2 : onB qx qy rx ry x y
              · refine ((O2 _).out).mono ?_
                rintro e w4 ⟨rfl, hb3⟩
                rw [o2]
                have hgb3 : g < w3.heap.size := block_lt_of_cell p1
                have hhb3 : hh < w3.heap.size := block_lt_of_cell p3
                have P3 := PtAt.below hb3 hgb3 ⟨p1, p2⟩
                have P4 := PtAt.below hb3 hhb3 ⟨p3, p4⟩
                have hb7 := hb5.trans (hb3.mono hb5.size)
                have hb8 := hb6.trans (hb3.mono hb6.size)
                have hfold : foldAt l m = false := by rw [EF.out]; unfold onP; rw [o1, o2]; rfl
                have HFO := Lib.hid hfold
                clear hfold hb3 hb5 hb6 p1 p2 p3 p4 p5 p6 O1 O2 o1 o2 hgb2 hhb2 hgb3 hhb3
                go_wp2_with fail
                obtain ⟨wo, rfl⟩ : ∃ wo : World, wo = wr := ⟨_, rfl⟩
                go_loopw [9] (fun kk w5 => ∃ q : Nat, m + 2 ≤ q ∧ kk = .int .i64 q ∧ (q ≤ n ∨ q = m + 2) ∧ (∀ j, m + 2 ≤ j → j < q → j < n → hitAt l m j = false) ∧ PtAt w5 g x y ∧ PtAt w5 hh qx qy ∧ Below wo.heap.size wo w5 ∧ Below w.heap.size w w5) (fun kk _ => n + 2 - (intOf kk).toNat)
                case atStart => exact ⟨m + 2, Nat.le_refl _, by go_num, .inr rfl, fun j h1 h2 => by omega, P3, P4, hb8, hb7⟩
                case round =>
                  clear hb7 hb8 P3 P4
                  obtain ⟨q, hq1, rfl, hq2, hits, P3, P4, hb8, hb7⟩ := hrel
                  obtain ⟨p1, p2⟩ := P3
                  obtain ⟨p3, p4⟩ := P4
                  have HI := Lib.hid hits
                  clear hits
                  by_cases hlq : q < n
                  · obtain ⟨s, hs⟩ : ∃ s, l[q]? = some s := ⟨l[q]'(by rw [HL.out]; exact hlq), List.getElem?_eq_getElem _⟩
                    have hsx : gt l q = s := by unfold gt; rw [List.getD_eq_getElem?_getD, hs]; rfl
                    have ehq := EH.out q
                    rw [hsx] at ehq
                    have EQ := Lib.hid ehq
                    obtain ⟨s1, s2⟩ := (HP.out.below hb8 hB) q s hs
                    have ok4 : (-10000 ≤ s.1 ∧ s.1 ≤ 10000) ∧ (-10000 ≤ s.2 ∧ s.2 ≤ 10000) := by have := okP_bd (getD_ok HOK.out q); rw [show l.getD q (0, 0) = gt l q from rfl, hsx] at this; exact this
                    have ok5 := okP_bd (nx_ok HOK.out q)
                    have N3 := fun d os => Lib.hid (Calls.regrown_of (next_any b off n c l q (grow (redrawn wr d) os) HL.out (by omega) (by omega) (by omega) ((HP.out.below hb8 hB).below (below_regrown wr d os) (Nat.lt_of_lt_of_le hB hb8.size))))
                    clear hs hsx ehq
                    generalize nx l q = t at *
                    obtain ⟨sx, sy⟩ := s
                    obtain ⟨tx, ty⟩ := t
                    obtain ⟨⟨b13, b14⟩, b15, b16⟩ := ok4
                    obtain ⟨⟨b17, b18⟩, b19, b20⟩ := ok5
                    have M3 := fun d os => Lib.hid (Calls.regrown_of (meet_any x y qx qy sx sy tx ty (grow (redrawn wr d) os) (by omega) (by omega) (by omega) (by omega) (by omega) (by omega) (by omega) (by omega)))
                    have t1 := cell_regrown s1
                    have t2 := cell_regrown s2
                    have t3 := cell_regrown p1
                    have t4 := cell_regrown p2
                    have t5 := cell_regrown p3
                    have t6 := cell_regrown p4
                    have e1 : (0 : Int) ≤ ((q : Int) + 1) % (n : Int) := Int.emod_nonneg _ (by omega)
                    have e2 : ((q + 1) % n == m) = ((((q : Int) + 1) % (n : Int)) == (m : Int)) := by
                      rw [show ((q : Int) + 1) % (n : Int) = (((q + 1) % n : Nat) : Int) from by rw [Int.natCast_emod]; rfl, Bool.eq_iff_iff, beq_iff_eq, beq_iff_eq]
                      exact Int.natCast_inj.symm
                    have E2 := Lib.hid e2
                    clear e2 s1 s2 p1 p2 p3 p4
                    cases hg : ((((q : Int) + 1) % (n : Int)) == (m : Int))
                    · have hg' : ((((q : Int) + 1) % (n : Int)) != (m : Int)) = true := by rw [bne, hg]; rfl
                      cases hm : meetB x y qx qy sx sy tx ty
                      · go_wp2_with fail
                        refine wp_region_quiet_below (by kernel_rfl) (by kernel_rfl) ?_
                        repeat (go_big_quiet_step (first | (with_reducible exact (N3 _ _).out) | (with_reducible exact (M3 _ _).out)))
                        refine wpQuiet_nil ?_
                        intro _ hw'
                        obtain ⟨⟨dq, osq⟩, hw''⟩ := hw'
                        subst hw''
                        go_wp2_with fail
                        go_roundw
                        case rel =>
                          refine ⟨q + 1, by omega, by go_num, .inl (by omega), fun j j1 j2 j3 => ?_, ⟨t3 _ _, t4 _ _⟩, ⟨t5 _ _, t6 _ _⟩, hb8.trans ((below_regrown wr dq osq).mono hb8.size), hb7.trans ((below_regrown wr dq osq).mono hb7.size)⟩
                          rcases Nat.lt_or_eq_of_le (Nat.le_of_lt_succ j2) with h' | h'
                          · exact HI.out j j1 h' j3
                          · rw [h', EQ.out, E2.out]; unfold meetP; rw [hg, hm]; rfl
                        case measure => simp [intOf]; omega
                      · go_wp2_with fail
                        refine wp_region_quiet_below (by kernel_rfl) (by kernel_rfl) ?_
                        repeat (go_big_quiet_step (first | (with_reducible exact (N3 _ _).out) | (with_reducible exact (M3 _ _).out)))
                        refine wpQuiet_nil ?_
                        intro _ hw'
                        obtain ⟨⟨dq, osq⟩, hw''⟩ := hw'
                        subst hw''
                        go_wp2_with fail
                        go_ret
                        exact ⟨ret_bool (simpleB_hit (HL.out.symm ▸ hlt) (HL.out.symm ▸ hlq) hq1 (by rw [EQ.out, E2.out]; unfold meetP; rw [hg, hm]; rfl)).symm, hb7.trans ((below_regrown wr dq osq).mono hb7.size)⟩
                    · have hg' : ((((q : Int) + 1) % (n : Int)) != (m : Int)) = false := by rw [bne, hg]; rfl
                      go_wp2_with fail
                      refine wp_region_quiet_below (by kernel_rfl) (by kernel_rfl) ?_
                      repeat (go_big_quiet_step (first | (with_reducible exact (N3 _ _).out) | (with_reducible exact (M3 _ _).out)))
                      refine wpQuiet_nil ?_
                      intro _ hw'
                      obtain ⟨⟨dq, osq⟩, hw''⟩ := hw'
                      subst hw''
                      go_wp2_with fail
                      go_roundw
                      case rel =>
                        refine ⟨q + 1, by omega, by go_num, .inl (by omega), fun j j1 j2 j3 => ?_, ⟨t3 _ _, t4 _ _⟩, ⟨t5 _ _, t6 _ _⟩, hb8.trans ((below_regrown wr dq osq).mono hb8.size), hb7.trans ((below_regrown wr dq osq).mono hb7.size)⟩
                        rcases Nat.lt_or_eq_of_le (Nat.le_of_lt_succ j2) with h' | h'
                        · exact HI.out j j1 h' j3
                        · rw [h', EQ.out, E2.out]; rw [hg]; rfl
                      case measure => simp [intOf]; omega
                  · go_wp2_with fail
                    go_roundw
                    case rel =>
                      refine ⟨m + 1, by omega, by go_num, fun j hj => ?_, hb7⟩
                      rcases Nat.lt_or_eq_of_le (Nat.le_of_lt_succ hj) with h' | h'
                      · exact HF.out j h'
                      · rw [h']; exact ⟨HFO.out, fun k k1 k2 => HI.out k k1 (by omega) k2⟩
                    case measure => simp [intOf]; omega
              · refine ((O2 _).out).mono ?_
                rintro e w4 ⟨rfl, hb3⟩
                rw [o2]
                go_wp2_with fail
                go_ret
                exact ⟨ret_bool (simpleB_fold (HL.out.symm ▸ hlt) (by rw [EF.out]; unfold onP; rw [o1, o2]; rfl)).symm, hb5.trans (hb3.mono hb5.size)⟩
            · go_wp2_with fail
              refine ((O1 _).out).mono ?_
              rintro e w3 ⟨rfl, hb3⟩
              rw [o1]
              go_wp2_with fail
              go_ret
              exact ⟨ret_bool (simpleB_fold (HL.out.symm ▸ hlt) (by rw [EF.out]; unfold onP; rw [o1]; rfl)).symm, hbn.trans (hb3.mono hbn.size)⟩
        · have hmn : m = n := by omega
          have hfin : simpleB l = true := simpleB_yes (fun j hj => HZ.out j (by rw [← hl]; exact hj)) (fun j hj => by
            obtain ⟨f1, f2⟩ := hf0 j (by omega)
            exact ⟨f1, fun k k1 k2 => f2 k k1 (by omega)⟩)
          have HFIN := Lib.hid hfin
          clear hfin hf0 h hok hl
          go_wp2_with fail
          go_ret
          exact ⟨ret_bool HFIN.out.symm, hbw⟩
end Go.Proofs.Ythbekbfhpedghaa

/- Is a polygon simple? Package shape's function. -/
namespace Go.Proofs.Ythbekbfhpedghaa
open Go.RowKit Go.Sort
attribute [local go_sem ↓] run_min_mn run_max_mx Go.wp_at_zero Go.wp_at_succ

def backP (a b c : Pt) : Bool := backB a.1 a.2 b.1 b.2 c.1 c.2
def meet2P (a b c d : Pt) : Bool := meet2B a.1 a.2 b.1 b.2 c.1 c.2 d.1 d.2
def backAt (l : List Pt) (i : Nat) : Bool := backP (gt l i) (nx l i) (nx l (i + 1))
def hit2At (l : List Pt) (i j : Nat) : Bool := !(i - j == l.length - 1) && meet2P (gt l i) (nx l i) (gt l j) (nx l j)
def simple2At (l : List Pt) (i : Nat) : Bool := !(zeroAt l i || backAt l i) && (List.range l.length).all fun j => decide (i < j + 2) || !hit2At l i j
def simple2B (l : List Pt) : Bool := (List.range l.length).all (simple2At l)

theorem simple2B_no {l : List Pt} {k : Nat} (hk : k < l.length) (h : simple2At l k = false) : simple2B l = false := by
  unfold simple2B
  rw [List.all_eq_false]; exact ⟨k, List.mem_range.2 hk, by simp [h]⟩
theorem simple2At_bad {l : List Pt} {k : Nat} (h : (zeroAt l k || backAt l k) = true) : simple2At l k = false := by simp [simple2At, h]
theorem simple2At_hit {l : List Pt} {k j : Nat} (hj : j < l.length) (h2 : j + 2 ≤ k) (h : hit2At l k j = true) : simple2At l k = false := by
  have : ((List.range l.length).all fun j => decide (k < j + 2) || !hit2At l k j) = false := by
    rw [List.all_eq_false]; refine ⟨j, List.mem_range.2 hj, ?_⟩
    rw [h, decide_eq_false (by omega)]; decide
  unfold simple2At
  rw [this, Bool.and_false]
theorem simple2At_yes {l : List Pt} {k : Nat} (h1 : (zeroAt l k || backAt l k) = false) (h2 : ∀ j, j + 2 ≤ k → hit2At l k j = false) : simple2At l k = true := by
  unfold simple2At
  rw [h1, Bool.not_false, Bool.true_and, List.all_eq_true]
  intro j _
  by_cases e : k < j + 2
  · rw [decide_eq_true e]; rfl
  · rw [h2 j (by omega)]; simp

theorem edge_any1 (b off n c : Nat) (l : List Pt) (i : Nat) (w : World) (hl : l.length = n) (hn : 0 < n) (hn' : n ≤ 1000000) (hi : i ≤ 10000) (h : PtsIn w b off l) :
    Calls Try.prog 47 #[.slice (some ⟨b, off, none⟩) n c, .int .i64 ((i : Int) + 1)] w fun e w' =>
      e = .returned (.tuple #[.agg #[.int .i64 (gt l ((i + 1) % n)).1, .int .i64 (gt l ((i + 1) % n)).2], .agg #[.int .i64 (nx l (i + 1)).1, .int .i64 (nx l (i + 1)).2]]) ∧ Below w.heap.size w w' := by
  have := edge_any b off n c l (i + 1) w hl hn hn' (by omega) h
  rwa [Int.natCast_add i 1] at this

set_option maxRecDepth 100000 in
set_option maxHeartbeats 2000000 in
theorem isSimple_any (b off n c : Nat) (l : List Pt) (w : World) (hl : l.length = n) (hn : 2 < n) (hn' : n ≤ 100) (h : PtsIn w b off l) (hb : b < w.heap.size) (hok : l.all okP = true) :
    Calls Try.prog 50 #[.slice (some ⟨b, off, none⟩) n c] w fun e w' =>
      e = .returned (.bool (simple2B l)) ∧ Below w.heap.size w w' := by
  have HL := Lib.hid hl
  have HP := Lib.hid h
  have HOK := Lib.hid hok
  clear hl h hok
  go_enter Try.func50, Try.ntmps50
  go_wp2
  go_loopw [14] (fun i wr => ∃ k : Nat, k ≤ n ∧ i = .int .i64 k ∧ (∀ j, j < k → simple2At l j = true) ∧ Below w.heap.size w wr) (fun i _ => n - (intOf i).toNat)
  case atStart => exact ⟨0, Nat.zero_le _, rfl, by omega, Below.refl _ _⟩
  case round =>
    obtain ⟨k, hk, rfl, hz, hbw⟩ := hrel
    have HZ := Lib.hid hz
    clear hz
    by_cases hlt : k < n
    · have HPw : Hid (PtsIn wr b off l) := Lib.hid (HP.out.below hbw hb)
      have hB : b < wr.heap.size := Nat.lt_of_lt_of_le hb hbw.size
      have N := fun W hW => Lib.hid (edge_any b off n c l k W HL.out (by omega) (by omega) (by omega) (HPw.out.below (B := wr.heap.size) hW hB))
      rw [Nat.mod_eq_of_lt hlt] at N
      have N1 := fun W hW => Lib.hid (edge_any1 b off n c l k W HL.out (by omega) (by omega) (by omega) (HPw.out.below (B := wr.heap.size) hW hB))
      have NJ := fun (j : Nat) (hj : j < n) W hW => Lib.hid (edge_any b off n c l j W HL.out (by omega) (by omega) (by omega) (HPw.out.below (B := wr.heap.size) hW hB))
      have okr := okP_bd (getD_ok HOK.out ((k + 1) % n))
      rw [show l.getD ((k + 1) % n) (0, 0) = gt l ((k + 1) % n) from rfl] at okr
      have okp := okP_bd (getD_ok HOK.out k)
      rw [show l.getD k (0, 0) = gt l k from rfl] at okp
      have okq := okP_bd (nx_ok HOK.out k)
      have oks := okP_bd (nx_ok HOK.out (k + 1))
      have EZ : Hid (zeroAt l k = eqP (gt l k) (nx l k)) := Lib.hid rfl
      have EB : Hid (backAt l k = backP (gt l k) (nx l k) (nx l (k + 1))) := Lib.hid rfl
      have EH : Hid (∀ j, hit2At l k j = (!(k - j == l.length - 1) && meet2P (gt l k) (nx l k) (gt l j) (nx l j))) := Lib.hid fun _ => rfl
      generalize gt l ((k + 1) % n) = r at *
      generalize gt l k = p at *
      generalize nx l k = q at *
      generalize nx l (k + 1) = s at *
      obtain ⟨x, y⟩ := p
      obtain ⟨qx, qy⟩ := q
      obtain ⟨rx, ry⟩ := r
      obtain ⟨sx, sy⟩ := s
      have gp := guard_pt
      have ep := eq_pt x y qx qy
      have TB := fun W => Lib.hid (turnsBack_any x y qx qy sx sy W (by omega) (by omega) (by omega) (by omega) (by omega) (by omega))
      go_wp2_with fail
      refine ((N _ (Below.refl _ _)).out).mono ?_
      rintro e w1 ⟨rfl, hb1⟩
      go_wp2_with fail
      have B := boxed2 w1 x y qx qy
      generalize (w1.alloc (Go.Proofs.Ythbekbfhpedghaa.bx x y)).alloc (Go.Proofs.Ythbekbfhpedghaa.bx qx qy) = w2 at *
      obtain ⟨P1, P2, hb2, hz2⟩ := B
      have hbr2 := hb1.trans (hb2.mono hb1.size)
      generalize w1.heap.size = g at *
      have hg2 : g + 1 < w2.heap.size := by omega
      clear hb2 hz2 N
      refine ((N1 _ hbr2).out).mono ?_
      rintro e w3 ⟨rfl, hb3⟩
      replace P1 := PtAt.below hb3 (by omega) P1
      replace P2 := PtAt.below hb3 (by omega) P2
      have hbr3 := hbr2.trans (hb3.mono hbr2.size)
      have hg3 : g + 1 < w3.heap.size := by have := hb3.size; omega
      clear hb3 hbr2 hg2 N1
      have B := boxed2 w3 rx ry sx sy
      go_upto_region 6 with (fail)
      generalize (w3.alloc (Go.Proofs.Ythbekbfhpedghaa.bx rx ry)).alloc (Go.Proofs.Ythbekbfhpedghaa.bx sx sy) = w4 at *
      obtain ⟨-, P3, hb4, hz4⟩ := B
      replace P1 := PtAt.below hb4 (by omega) P1
      replace P2 := PtAt.below hb4 (by omega) P2
      have hbr4 := hbr3.trans (hb4.mono hbr3.size)
      have hg4 : g + 1 < w4.heap.size ∧ w3.heap.size + 1 < w4.heap.size := by omega
      clear hb4 hz4 hbr3 hg3
      generalize w3.heap.size = g3 at *
      have hbw4 := hbw.trans (hbr4.mono hbw.size)
      obtain ⟨p1, p2⟩ := P1
      obtain ⟨p3, p4⟩ := P2
      obtain ⟨p5, p6⟩ := P3
      cases he : eqI x y qx qy
      · go_wp2_with fail
        refine ((TB _).out).mono ?_
        rintro e w5 ⟨rfl, hb5⟩
        obtain ⟨p1, p2⟩ := PtAt.below hb5 (by omega) ⟨p1, p2⟩
        obtain ⟨p3, p4⟩ := PtAt.below hb5 (by omega) ⟨p3, p4⟩
        have hbr5 := hbr4.trans (hb5.mono hbr4.size)
        have hbw5 := hbw.trans (hbr5.mono hbw.size)
        have hg5 : g + 1 < w5.heap.size := by have := hb5.size; omega
        clear hb5 hbr4 hbw4 hg4 p5 p6 TB
        cases hk2 : backB x y qx qy sx sy
        · have hbad : (zeroAt l k || backAt l k) = false := by rw [EZ.out, EB.out]; unfold eqP backP; rw [he, hk2]; rfl
          have HBAD := Lib.hid hbad
          clear hbad
          obtain ⟨wo, rfl⟩ : ∃ wo : World, wo = wr := ⟨_, rfl⟩
          go_wp2_with fail
          go_loopw [41] (fun i wr => ∃ q : Nat, i = .int .i64 q ∧ (q = 0 ∨ q + 1 ≤ k) ∧ (∀ j, j < q → hit2At l k j = false) ∧ PtAt wr g x y ∧ PtAt wr (g + 1) qx qy ∧ Below wo.heap.size wo wr ∧ g + 1 < wr.heap.size) (fun i _ => n - (intOf i).toNat)
          case atStart => exact ⟨0, rfl, .inl rfl, by omega, ⟨p1, p2⟩, ⟨p3, p4⟩, hbr5, hg5⟩
          case round =>
            clear p1 p2 p3 p4 hbr5 hg5 hbw5
            obtain ⟨q, rfl, hq, hits, P1, P2, hbr, hg5⟩ := hrel
            have HI := Lib.hid hits
            clear hits
            by_cases hlq : q + 1 < k
            · have NQ := NJ q (by omega) _ hbr
              rw [Nat.mod_eq_of_lt (by omega)] at NQ
              have okc := okP_bd (getD_ok HOK.out q)
              rw [show l.getD q (0, 0) = gt l q from rfl] at okc
              have okd := okP_bd (nx_ok HOK.out q)
              have EQ := Lib.hid (EH.out q)
              generalize gt l q = c1 at *
              generalize nx l q = c2 at *
              obtain ⟨cx, cy⟩ := c1
              obtain ⟨dx, dy⟩ := c2
              have TM := fun W => Lib.hid (meetD_any x y qx qy cx cy dx dy W (by omega) (by omega) (by omega) (by omega) (by omega) (by omega) (by omega) (by omega))
              have hnb : ((((k : Int) - (q : Int)) == ((n : Int) - 1)) = (k - q == l.length - 1)) := by
                rw [HL.out, Bool.eq_iff_iff, beq_iff_eq, beq_iff_eq]; omega
              have HNB := Lib.hid hnb
              clear hnb
              go_wp2_with fail
              refine (NQ.out).mono ?_
              rintro e w6 ⟨rfl, hb6⟩
              replace P1 := PtAt.below hb6 (by omega) P1
              replace P2 := PtAt.below hb6 (by omega) P2
              have hbr6 := hbr.trans (hb6.mono hbr.size)
              have hg6 : g + 1 < w6.heap.size := by have := hb6.size; omega
              clear hb6 hbr hg5
              have B := boxed2 w6 cx cy dx dy
              go_upto_region 13 with (fail)
              generalize (w6.alloc (Go.Proofs.Ythbekbfhpedghaa.bx cx cy)).alloc (Go.Proofs.Ythbekbfhpedghaa.bx dx dy) = w7 at *
              obtain ⟨P3, P4, hb7, hz7⟩ := B
              replace P1 := PtAt.below hb7 (by omega) P1
              replace P2 := PtAt.below hb7 (by omega) P2
              have hbr7 := hbr6.trans (hb7.mono hbr6.size)
              have hg7 : g + 1 < w7.heap.size := by omega
              clear hb7 hz7 hbr6 hg6
              generalize w6.heap.size = g6 at *
              have hbw7 := hbw.trans (hbr7.mono hbw.size)
              obtain ⟨p1, p2⟩ := P1
              obtain ⟨p3, p4⟩ := P2
              obtain ⟨p5, p6⟩ := P3
              obtain ⟨p7, p8⟩ := P4
              cases hg : (((k : Int) - (q : Int)) == ((n : Int) - 1))
              · go_wp2_with fail
                refine ((TM _).out).mono ?_
                rintro e w8 ⟨rfl, hb8⟩
                have P1 := PtAt.below hb8 (by omega) ⟨p1, p2⟩
                have P2 := PtAt.below hb8 (by omega) ⟨p3, p4⟩
                have hbr8 := hbr7.trans (hb8.mono hbr7.size)
                have hbw8 := hbw.trans (hbr8.mono hbw.size)
                have hg8 : g + 1 < w8.heap.size := by have := hb8.size; omega
                clear hb8 hbr7 hbw7 hg7 p1 p2 p3 p4 p5 p6 p7 p8 TM
                cases hm : meet2B x y qx qy cx cy dx dy
                · have hno : hit2At l k q = false := by rw [EQ.out, ← HNB.out]; unfold meet2P; rw [hm]; simp
                  have HNO := Lib.hid hno
                  clear hno
                  go_wp2_with fail
                  go_roundw
                  case rel =>
                    refine ⟨q + 1, by go_num, .inr (by omega), fun j hj => ?_, P1, P2, hbr8, hg8⟩
                    rcases Nat.lt_or_eq_of_le (Nat.le_of_lt_succ hj) with h' | h'
                    · exact HI.out j h'
                    · rw [h']; exact HNO.out
                  case measure => simp [intOf]; omega
                · have hno : simple2B l = false := simple2B_no (by rw [HL.out]; exact hlt) (simple2At_hit (j := q) (by rw [HL.out]; omega) (by omega) (by rw [EQ.out, ← HNB.out]; unfold meet2P; rw [hm, hg]; rfl))
                  have HNO := Lib.hid hno
                  clear hno
                  go_wp2_with fail
                  go_ret
                  exact ⟨ret_bool HNO.out.symm, hbw8⟩
              · have hno : hit2At l k q = false := by rw [EQ.out, ← HNB.out, hg]; rfl
                have HNO := Lib.hid hno
                clear hno
                go_wp2_with fail
                go_roundw
                case rel =>
                  refine ⟨q + 1, by go_num, .inr (by omega), fun j hj => ?_, ⟨p1, p2⟩, ⟨p3, p4⟩, hbr7, hg7⟩
                  rcases Nat.lt_or_eq_of_le (Nat.le_of_lt_succ hj) with h' | h'
                  · exact HI.out j h'
                  · rw [h']; exact HNO.out
                case measure => simp [intOf]; omega
            · have hbw6 := hbw.trans (hbr.mono hbw.size)
              go_wp2_with fail
              go_roundw
              case rel =>
                refine ⟨k + 1, by omega, by go_num, fun j hj => ?_, hbw6⟩
                rcases Nat.lt_or_eq_of_le (Nat.le_of_lt_succ hj) with h' | h'
                · exact HZ.out j h'
                · rw [h']; exact simple2At_yes HBAD.out (fun j hj => HI.out j (by omega))
              case measure => simp [intOf]; omega
        · have hno : simple2B l = false := simple2B_no (by rw [HL.out]; exact hlt) (simple2At_bad (by rw [EZ.out, EB.out]; unfold eqP backP; rw [hk2]; simp))
          have HNO := Lib.hid hno
          clear hno
          go_wp2_with fail
          go_ret
          exact ⟨ret_bool HNO.out.symm, hbw5⟩
      · have hno : simple2B l = false := simple2B_no (by rw [HL.out]; exact hlt) (simple2At_bad (by rw [EZ.out]; unfold eqP; rw [he]; rfl))
        have HNO := Lib.hid hno
        clear hno
        go_wp2_with fail
        go_ret
        exact ⟨ret_bool HNO.out.symm, hbw4⟩
    · obtain rfl : k = n := by omega
      have HF : Hid (simple2B l = true) := Lib.hid (by
        unfold simple2B
        rw [List.all_eq_true]
        intro i hi
        exact HZ.out i (by have := List.mem_range.1 hi; rw [HL.out] at this; exact this))
      go_wp2_with fail
      go_ret
      exact ⟨ret_bool HF.out.symm, hbw⟩
end Go.Proofs.Ythbekbfhpedghaa

/- How package shape compares points. -/
namespace Go.Proofs.Ythbekbfhpedghaa
open Go.RowKit Go.Sort
attribute [local go_sem ↓] run_min_mn run_max_mx

def cmpI (x y : Int) : Int := if x < y then -1 else if y < x then 1 else 0
def orI (x y : Int) : Int := if x = 0 then y else x
def cmpP (ax ay bx by' : Int) : Int := orI (cmpI ay by') (cmpI ax bx)

theorem nan_any (x : Int) (w : World) : Calls Try.prog 78 #[.int .i64 x] w fun e w' => e = .returned (.bool false) ∧ w = w' := by
  go_enter Try.func78, Try.ntmps78
  go_wp2
  go_ret
  exact ⟨rfl, rfl⟩

theorem cmpI_any (x y : Int) (w : World) : Calls Try.prog 68 #[.int .i64 x, .int .i64 y] w fun e w' => e = .returned (.int .i64 (cmpI x y)) ∧ w = w' := by
  go_enter Try.func68, Try.ntmps68
  go_wp2_with (go_at_call 78; refine (nan_any _ _).mono ?_; rintro e w' ⟨rfl, rfl⟩)
  · rename_i h
    go_ret
    exact ⟨ret_int (by rw [cmpI, if_pos h]), rfl⟩
  · rename_i h h'
    go_ret
    exact ⟨ret_int (by rw [cmpI, if_neg (by omega), if_pos (by omega)]), rfl⟩
  · rename_i h h'
    go_ret
    exact ⟨ret_int (by rw [cmpI, if_neg (by omega), if_neg (by omega)]), rfl⟩

theorem or_any (g : Nat) (u v : Int) (w : World) (h0 : w.cell? ⟨g, 0, none⟩ = some (.int .i64 u)) (h1 : w.cell? ⟨g, 1, none⟩ = some (.int .i64 v)) :
    Calls Try.prog 67 #[.slice (some ⟨g, 0, none⟩) 2 2] w fun e w' => e = .returned (.int .i64 (orI u v)) ∧ w = w' := by
  by_cases hu : u = 0
  · subst hu
    by_cases hv : v = 0
    · subst hv
      go_enter Try.func67, Try.ntmps67
      go_wp2
      refine wp_loop_rounds 3 ?_; rw [rounds_succ]
      go_wp2
      rw [rounds_succ]
      go_wp2
      try (rw [rounds_succ]; go_wp2)
      go_ret
      exact ⟨ret_int rfl, rfl⟩
    · have hv' : (v != 0) = true := by simpa using hv
      clear hv
      go_enter Try.func67, Try.ntmps67
      go_wp2
      refine wp_loop_rounds 3 ?_; rw [rounds_succ]
      go_wp2
      rw [rounds_succ]
      go_wp2
      try (rw [rounds_succ]; go_wp2)
      go_ret
      exact ⟨ret_int rfl, rfl⟩
  · have hu' : (u != 0) = true := by simpa using hu
    have H : Hid (orI u v = u) := Lib.hid (by rw [orI, if_neg hu])
    clear hu
    go_enter Try.func67, Try.ntmps67
    go_wp2
    refine wp_loop_rounds 2 ?_; rw [rounds_succ]
    go_wp2
    go_ret
    exact ⟨ret_int H.out.symm, rfl⟩

set_option maxRecDepth 100000 in
set_option maxHeartbeats 1000000 in
theorem compare_any (ax ay bx by' : Int) (w : World) :
    Calls Try.prog 49 #[.agg #[.int .i64 ax, .int .i64 ay], .agg #[.int .i64 bx, .int .i64 by']] w fun e w' =>
      e = .returned (.int .i64 (cmpP ax ay bx by')) ∧ Below w.heap.size w w' := by
  have C1 := fun W => Lib.hid ((cmpI_any ay by' W).mono fun _ _ h => And.intro h.1 h.2.symm)
  have C2 := fun W => Lib.hid ((cmpI_any ax bx W).mono fun _ _ h => And.intro h.1 h.2.symm)
  have H : Hid (cmpP ax ay bx by' = orI (cmpI ay by') (cmpI ax bx)) := Lib.hid rfl
  generalize cmpI ay by' = u at *
  generalize cmpI ax bx = v at *
  generalize cmpP ax ay bx by' = r at *
  go_enter Try.func49, Try.ntmps49
  go_wp2_with fail
  have B := boxed2 w ax ay bx by'
  generalize ((w.alloc (Go.Proofs.Ythbekbfhpedghaa.bx ax ay)).alloc (Go.Proofs.Ythbekbfhpedghaa.bx bx by')) = W0 at *
  obtain ⟨⟨a1, a2⟩, ⟨b1, b2⟩, hb, hz⟩ := B
  have HB := Lib.hid hb
  have hz' := hb.size
  clear hb hz
  refine wp_region_still_tail 10 (by kernel_rfl) (by kernel_rfl) ?_
  simp only [List.take_succ_cons, List.take_zero, List.drop_succ_cons, List.drop_zero]
  change wpStill _ _ W0.drew _ _ _
  replace a1 : W0.drew.cell? _ = _ := a1
  replace a2 : W0.drew.cell? _ = _ := a2
  replace b1 : W0.drew.cell? _ = _ := b1
  replace b2 : W0.drew.cell? _ = _ := b2
  iterate 4 still_step
  still_call (C1 _).out
  iterate 4 still_step
  still_call (C2 _).out
  refine wpStill_nil ?_
  change wpList _ _ _ _ _ W0.drew
  go_wp2_with fail
  refine (or_any _ u v _ (by go_simp) (by go_simp)).mono ?_
  rintro e w' ⟨rfl, rfl⟩
  go_wp2
  go_ret
  exact ⟨ret_int H.out.symm, HB.out.drew.alloc (by simpa using hz') _⟩

end Go.Proofs.Ythbekbfhpedghaa

/- Is a polygon convex in normal form? Package shape's function. -/
namespace Go.Proofs.Ythbekbfhpedghaa
open Go.RowKit Go.Sort
attribute [local go_sem ↓] run_min_mn run_max_mx Go.wp_at_zero Go.wp_at_succ

def cmpQ (a b : Pt) : Int := cmpP a.1 a.2 b.1 b.2
def convex2At (l : List Pt) (i : Nat) : Bool := !(decide (crossP (gt l i) (nx l i) (nx l (i + 1)) ≤ 0) || decide (cmpQ (gt l i) (gt l 0) < 0))
def convex2B (l : List Pt) : Bool := (List.range l.length).all (convex2At l) && simple2B l
theorem convex2B_no {l : List Pt} {k : Nat} (hk : k < l.length) (h : convex2At l k = false) : convex2B l = false := by
  have : (List.range l.length).all (convex2At l) = false := by
    rw [List.all_eq_false]; exact ⟨k, List.mem_range.2 hk, by simp [h]⟩
  simp [convex2B, this]

set_option maxRecDepth 100000 in
set_option maxHeartbeats 2000000 in
theorem isConvex_any (b off n c : Nat) (l : List Pt) (w : World) (hl : l.length = n) (hn : 2 < n) (hn' : n ≤ 100) (h : PtsIn w b off l) (hb : b < w.heap.size) (hok : l.all okP = true) :
    Calls Try.prog 29 #[.slice (some ⟨b, off, none⟩) n c] w fun e w' =>
      e = .returned (.bool (convex2B l)) ∧ Below w.heap.size w w' := by
  have HL := Lib.hid hl
  have HP := Lib.hid h
  have HOK := Lib.hid hok
  have S := fun W hW => Lib.hid (isSimple_any b off n c l W hl hn hn' (h.below (B := w.heap.size) hW hb) (Nat.lt_of_lt_of_le hb hW.size) hok)
  clear hl h hok
  go_enter Try.func29, Try.ntmps29
  go_wp2
  go_loopw [10] (fun i wr => ∃ k : Nat, k ≤ n ∧ i = .int .i64 k ∧ (∀ j, j < k → convex2At l j = true) ∧ Below w.heap.size w wr) (fun i _ => n - (intOf i).toNat)
  case atStart => exact ⟨0, Nat.zero_le _, rfl, by omega, Below.refl _ _⟩
  case round =>
    obtain ⟨k, hk, rfl, hz, hbw⟩ := hrel
    have HZ := Lib.hid hz
    clear hz
    by_cases hlt : k < n
    · have HPw : Hid (PtsIn wr b off l) := Lib.hid (HP.out.below hbw hb)
      have hB : b < wr.heap.size := Nat.lt_of_lt_of_le hb hbw.size
      have N := fun W hW => Lib.hid (edge_any b off n c l k W HL.out (by omega) (by omega) (by omega) (HPw.out.below (B := wr.heap.size) hW hB))
      rw [Nat.mod_eq_of_lt hlt] at N
      have N1 := fun W hW => Lib.hid (edge_any1 b off n c l k W HL.out (by omega) (by omega) (by omega) (HPw.out.below (B := wr.heap.size) hW hB))
      obtain ⟨q0, hq0⟩ : ∃ p, l[0]? = some p := ⟨l[0]'(by rw [HL.out]; omega), List.getElem?_eq_getElem _⟩
      have hqx0 : gt l 0 = q0 := by unfold gt; rw [List.getD_eq_getElem?_getD, hq0]; rfl
      have okp := okP_bd (getD_ok HOK.out k)
      rw [show l.getD k (0, 0) = gt l k from rfl] at okp
      have okq := okP_bd (nx_ok HOK.out k)
      have oks := okP_bd (nx_ok HOK.out (k + 1))
      obtain ⟨z1, z2⟩ := HPw.out 0 q0 hq0
      simp only [Nat.zero_mul, Nat.add_zero] at z1 z2
      have E1 : Hid (convex2At l k = !(decide (crossP (gt l k) (nx l k) (nx l (k + 1)) ≤ 0) || decide (cmpQ (gt l k) q0 < 0))) := Lib.hid (by rw [← hqx0]; rfl)
      clear hq0 hqx0
      generalize gt l ((k + 1) % n) = r at *
      generalize gt l k = p at *
      generalize nx l k = q at *
      generalize nx l (k + 1) = s at *
      obtain ⟨x, y⟩ := p
      obtain ⟨qx, qy⟩ := q
      obtain ⟨rx, ry⟩ := r
      obtain ⟨sx, sy⟩ := s
      obtain ⟨zx, zy⟩ := q0
      have TU := fun W => Lib.hid (turn_any x y qx qy sx sy W (by omega) (by omega) (by omega) (by omega) (by omega) (by omega))
      have TC := fun W => Lib.hid (compare_any x y zx zy W)
      clear okp okq oks
      go_wp2_with fail
      refine ((N _ (Below.refl _ _)).out).mono ?_
      rintro e w1 ⟨rfl, hb1⟩
      go_wp2_with fail
      have B := boxed2 w1 x y qx qy
      generalize (w1.alloc (Go.Proofs.Ythbekbfhpedghaa.bx x y)).alloc (Go.Proofs.Ythbekbfhpedghaa.bx qx qy) = w2 at *
      obtain ⟨P1, P2, hb2, hz2⟩ := B
      have hbr2 := hb1.trans (hb2.mono hb1.size)
      generalize w1.heap.size = g at *
      have hg2 : g + 1 < w2.heap.size := by omega
      clear hb2 hz2 N
      refine ((N1 _ hbr2).out).mono ?_
      rintro e w3 ⟨rfl, hb3⟩
      replace P1 := PtAt.below hb3 (by omega) P1
      replace P2 := PtAt.below hb3 (by omega) P2
      have hbr3 := hbr2.trans (hb3.mono hbr2.size)
      have hg3 : g + 1 < w3.heap.size := by have := hb3.size; omega
      clear hb3 hbr2 hg2 N1
      have B := boxed2 w3 rx ry sx sy
      go_upto_region 6 with (fail)
      generalize (w3.alloc (Go.Proofs.Ythbekbfhpedghaa.bx rx ry)).alloc (Go.Proofs.Ythbekbfhpedghaa.bx sx sy) = w4 at *
      obtain ⟨-, P3, hb4, hz4⟩ := B
      replace P1 := PtAt.below hb4 (by omega) P1
      replace P2 := PtAt.below hb4 (by omega) P2
      have hbr4 := hbr3.trans (hb4.mono hbr3.size)
      replace z1 := (hbr4.cell (p := ⟨b, _, none⟩) hB).trans z1
      replace z2 := (hbr4.cell (p := ⟨b, _, none⟩) hB).trans z2
      clear hb4 hz4 hbr3 hg3
      generalize w3.heap.size = g3 at *
      have hbw4 := hbw.trans (hbr4.mono hbw.size)
      obtain ⟨p1, p2⟩ := P1
      obtain ⟨p3, p4⟩ := P2
      obtain ⟨p5, p6⟩ := P3
      have K1 := fun d os => Lib.hid (Calls.regrown_of ((TU (grow (redrawn w4 d) os)).out))
      have K2 := fun d os => Lib.hid (Calls.regrown_of ((TC (grow (redrawn w4 d) os)).out))
      have t1 := cell_regrown p1
      have t2 := cell_regrown p2
      have t3 := cell_regrown p3
      have t4 := cell_regrown p4
      have t5 := cell_regrown p5
      have t6 := cell_regrown p6
      have t7 := cell_regrown z1
      have t8 := cell_regrown z2
      clear p1 p2 p3 p4 p5 p6 z1 z2 TU TC
      have E1' : Hid (convex2At l k = !(decide (cross x y qx qy sx sy ≤ 0) || decide (cmpP x y zx zy < 0))) := E1
      clear E1
      generalize cross x y qx qy sx sy = u at *
      generalize cmpP x y zx zy = v at *
      cases g1 : decide (u ≤ 0)
      · cases g2 : decide (v < 0)
        · have hyes : convex2At l k = true := by rw [E1'.out, g1, g2]; rfl
          have HY := Lib.hid hyes
          clear hyes
          refine wp_region_quiet_below (by kernel_rfl) (by kernel_rfl) ?_
          repeat (go_big_quiet_step (first | (with_reducible exact (K1 _ _).out) | (with_reducible exact (K2 _ _).out)))
          refine wpQuiet_nil ?_
          intro _ hw'
          obtain ⟨⟨dq, osq⟩, hw''⟩ := hw'
          subst hw''
          go_wp2_with fail
          go_roundw
          case rel => exact ⟨k + 1, by omega, by go_num, fun j hj => by
            rcases Nat.lt_or_eq_of_le (Nat.le_of_lt_succ hj) with h' | h'
            · exact HZ.out j h'
            · rw [h']; exact HY.out, hbw4.trans ((below_regrown w4 dq osq).mono hbw4.size)⟩
          case measure => simp [intOf]; omega
        · have hno : convex2B l = false := convex2B_no (by rw [HL.out]; exact hlt) (by rw [E1'.out, g2]; simp)
          have HNO := Lib.hid hno
          clear hno
          refine wp_region_quiet_below (by kernel_rfl) (by kernel_rfl) ?_
          repeat (go_big_quiet_step (first | (with_reducible exact (K1 _ _).out) | (with_reducible exact (K2 _ _).out)))
          refine wpQuiet_nil ?_
          intro _ hw'
          obtain ⟨⟨dq, osq⟩, hw''⟩ := hw'
          subst hw''
          go_wp2_with fail
          go_ret
          exact ⟨ret_bool HNO.out.symm, hbw4.trans ((below_regrown w4 dq osq).mono hbw4.size)⟩
      · have hno : convex2B l = false := convex2B_no (by rw [HL.out]; exact hlt) (by rw [E1'.out, g1]; simp)
        have HNO := Lib.hid hno
        clear hno
        refine wp_region_quiet_below (by kernel_rfl) (by kernel_rfl) ?_
        repeat (go_big_quiet_step (first | (with_reducible exact (K1 _ _).out) | (with_reducible exact (K2 _ _).out)))
        refine wpQuiet_nil ?_
        intro _ hw'
        obtain ⟨⟨dq, osq⟩, hw''⟩ := hw'
        subst hw''
        go_wp2_with fail
        go_ret
        exact ⟨ret_bool HNO.out.symm, hbw4.trans ((below_regrown w4 dq osq).mono hbw4.size)⟩
    · obtain rfl : k = n := by omega
      have HF : Hid (convex2B l = simple2B l) := Lib.hid (by
        unfold convex2B
        have : (List.range l.length).all (convex2At l) = true := by
          rw [List.all_eq_true]
          intro i hi
          exact HZ.out i (by have := List.mem_range.1 hi; rw [HL.out] at this; exact this)
        rw [this, Bool.true_and])
      go_wp2_with fail
      refine ((S _ hbw).out).mono ?_
      rintro e w1 ⟨rfl, hb1⟩
      go_wp2_with fail
      go_ret
      exact ⟨ret_bool HF.out.symm, hbw.trans (hb1.mono hbw.size)⟩
end Go.Proofs.Ythbekbfhpedghaa

/- Two ways to say that edges meet, that they turn back, that a polygon is simple and convex: they are the same. Plain mathematics. -/
namespace Go.Proofs.Ythbekbfhpedghaa

/-- u lies between 0 and p. -/
def btw (u p : Int) : Prop := (0 ≤ u ∧ u ≤ p) ∨ (p ≤ u ∧ u ≤ 0)
theorem btw_of {D t u p : Int} (hD : 0 < D) (h : D * u = t * p) (h0 : 0 ≤ t) (h1 : t ≤ D) : btw u p := by
  rcases Int.le_total 0 p with hp | hp
  · have a : 0 ≤ t * p := Int.mul_nonneg h0 hp
    have b : t * p ≤ D * p := Int.mul_le_mul_of_nonneg_right h1 hp
    refine .inl ⟨?_, ?_⟩
    · rcases Int.lt_or_le u 0 with g | g
      · have := Int.mul_neg_of_pos_of_neg hD g; omega
      · exact g
    · exact Int.le_of_mul_le_mul_left (by omega) hD
  · have a : t * p ≤ 0 := Int.mul_nonpos_of_nonneg_of_nonpos h0 hp
    have b : D * p ≤ t * p := Int.mul_le_mul_of_nonpos_right h1 hp
    refine .inr ⟨?_, ?_⟩
    · exact Int.le_of_mul_le_mul_left (by omega) hD
    · rcases Int.lt_or_le 0 u with g | g
      · have := Int.mul_pos hD g; omega
      · exact g
theorem of_btw {D t u p : Int} (hD : 0 < D) (h : D * u = t * p) (hp : p ≠ 0) (hb : btw u p) : 0 ≤ t ∧ t ≤ D := by
  rcases hb with ⟨b1, b2⟩ | ⟨b1, b2⟩
  · have hp' : 0 < p := by omega
    have a : 0 ≤ D * u := Int.mul_nonneg (by omega) b1
    have b : D * u ≤ D * p := Int.mul_le_mul_of_nonneg_left b2 (by omega)
    refine ⟨?_, Int.le_of_mul_le_mul_right (by omega) hp'⟩
    rcases Int.lt_or_le t 0 with g | g
    · have := Int.mul_neg_of_neg_of_pos g hp'; omega
    · exact g
  · have hp' : 0 < -p := by omega
    have e : t * -p = D * -u := by rw [Int.mul_neg, Int.mul_neg, h]
    have a : 0 ≤ D * -u := Int.mul_nonneg (by omega) (by omega)
    have b : D * -u ≤ D * -p := Int.mul_le_mul_of_nonneg_left (by omega) (by omega)
    refine ⟨?_, Int.le_of_mul_le_mul_right (a := -p) (by omega) hp'⟩
    rcases Int.lt_or_le t 0 with g | g
    · have := Int.mul_neg_of_neg_of_pos g hp'; omega
    · exact g

/-- Weighted means: one cannot lie before all of the others. -/
theorem apart_no {D w t u r p : Int} (hD : 0 < D) (hw : 0 ≤ w) (hw' : w ≤ D) (ht : 0 ≤ t) (ht' : t ≤ D) (h : D * u + w * r = t * p) (h1 : u < 0) (h2 : u + r < 0) (h3 : u - p < 0) (h4 : u + r - p < 0) : False := by
  have k1 : D * u + w * r = (D - w) * u + w * (u + r) := by grind
  rcases Int.le_total 0 p with hp | hp
  · have a : 0 ≤ t * p := Int.mul_nonneg ht hp
    have b1 : (D - w) * u ≤ 0 := Int.mul_nonpos_of_nonneg_of_nonpos (by omega) (by omega)
    have b2 : w * (u + r) ≤ 0 := Int.mul_nonpos_of_nonneg_of_nonpos hw (by omega)
    rcases Int.lt_or_le 0 w with g | g
    · have := Int.mul_neg_of_pos_of_neg g h2; omega
    · have : 0 < D - w := by omega
      have := Int.mul_neg_of_pos_of_neg this h1; omega
  · have k2 : D * u + w * r - D * p = (D - w) * (u - p) + w * (u + r - p) := by grind
    have k3 : t * p - D * p = (D - t) * (-p) := by grind
    have a : 0 ≤ (D - t) * (-p) := Int.mul_nonneg (by omega) (by omega)
    have b1 : (D - w) * (u - p) ≤ 0 := Int.mul_nonpos_of_nonneg_of_nonpos (by omega) (by omega)
    have b2 : w * (u + r - p) ≤ 0 := Int.mul_nonpos_of_nonneg_of_nonpos hw (by omega)
    rcases Int.lt_or_le 0 w with g | g
    · have := Int.mul_neg_of_pos_of_neg g h4; omega
    · have : 0 < D - w := by omega
      have := Int.mul_neg_of_pos_of_neg this h3; omega
theorem apart_no' {D w t u r p : Int} (hD : 0 < D) (hw : 0 ≤ w) (hw' : w ≤ D) (ht : 0 ≤ t) (ht' : t ≤ D) (h : D * u + w * r = t * p) (h1 : 0 < u) (h2 : 0 < u + r) (h3 : 0 < u - p) (h4 : 0 < u + r - p) : False := by
  refine apart_no (u := -u) (r := -r) (p := -p) hD hw hw' ht ht' ?_ (by omega) (by omega) (by omega) (by omega)
  rw [Int.mul_neg, Int.mul_neg, Int.mul_neg, ← h]; omega

/-- Edges from (0, 0) to (p, q) and from (u, v) by (r, s). -/
def al (p q u v : Int) : Int := p * v - u * q
def opp (a b : Int) : Prop := mn a b ≤ 0 ∧ 0 ≤ mx a b
theorem opp_iff {a b : Int} : opp a b ↔ (a ≤ 0 ∧ 0 ≤ b) ∨ (b ≤ 0 ∧ 0 ≤ a) := by
  unfold opp mn mx
  by_cases h : b < a <;> by_cases h' : a < b <;> simp [h, h'] <;> omega
/-- Do the intervals 0..p and u..u+r overlap? -/
def ov (p u r : Int) : Prop := (mn 0 p ≤ mx u (u + r)) ∧ (mn u (u + r) ≤ mx 0 p)

theorem ov_of {D w t u r p : Int} (hD : 0 < D) (hw : 0 ≤ w) (hw' : w ≤ D) (ht : 0 ≤ t) (ht' : t ≤ D) (h : D * u + w * r = t * p) : ov p u r := by
  have a := apart_no hD hw hw' ht ht' h
  have b := apart_no' hD hw hw' ht ht' h
  unfold ov mn mx
  constructor
  · rcases Int.lt_or_le u 0 with g1 | g1 <;> rcases Int.lt_or_le (u + r) 0 with g2 | g2 <;> rcases Int.lt_or_le (u - p) 0 with g3 | g3 <;> rcases Int.lt_or_le (u + r - p) 0 with g4 | g4 <;> first | exact (a g1 g2 g3 g4).elim | (split <;> split <;> omega)
  · rcases Int.lt_or_le 0 u with g1 | g1 <;> rcases Int.lt_or_le 0 (u + r) with g2 | g2 <;> rcases Int.lt_or_le 0 (u - p) with g3 | g3 <;> rcases Int.lt_or_le 0 (u + r - p) with g4 | g4 <;> first | exact (b g1 g2 g3 g4).elim | (split <;> split <;> omega)

theorem cross_ids (p q r s u v : Int) :
    al p q (u + r) (v + s) = al p q u v + (p * s - r * q) ∧ (u * s - r * v) - (p * s - r * q) = r * (q - v) - (p - u) * s ∧
    (p * s - r * q) * u - al p q u v * r = (u * s - r * v) * p ∧ (p * s - r * q) * v - al p q u v * s = (u * s - r * v) * q := by
  unfold al
  refine ⟨by grind, by grind, by grind, by grind⟩

/-- If both edges reach both lines and the edges are not along each other, the boxes overlap. -/
theorem boxes_of {p q r s u v : Int} (hD : p * s - r * q ≠ 0) (h1 : opp (al p q u v) (al p q (u + r) (v + s))) (h2 : opp (u * s - r * v) (r * (q - v) - (p - u) * s)) : ov p u r ∧ ov q v s := by
  obtain ⟨i1, i2, i3, i4⟩ := cross_ids p q r s u v
  rw [opp_iff] at h1 h2
  rw [i1] at h1
  rw [← i2] at h2
  generalize al p q u v = a at *
  generalize u * s - r * v = c at *
  generalize p * s - r * q = D at *
  rcases Int.lt_or_lt_of_ne hD with g | g
  · exact ⟨ov_of (D := -D) (w := a) (t := -c) (by omega) (by omega) (by omega) (by omega) (by omega) (by rw [Int.neg_mul, Int.neg_mul]; omega), ov_of (D := -D) (w := a) (t := -c) (by omega) (by omega) (by omega) (by omega) (by omega) (by rw [Int.neg_mul, Int.neg_mul]; omega)⟩
  · exact ⟨ov_of (D := D) (w := -a) (t := c) (by omega) (by omega) (by omega) (by omega) (by omega) (by rw [Int.neg_mul]; omega), ov_of (D := D) (w := -a) (t := c) (by omega) (by omega) (by omega) (by omega) (by omega) (by rw [Int.neg_mul]; omega)⟩

/-- A point on the first edge: the second edge's line is reached. -/
theorem reach_of_on {p q r s u v : Int} (hne : p ≠ 0 ∨ q ≠ 0) (h0 : al p q u v = 0) (b1 : btw u p) (b2 : btw v q) : opp (u * s - r * v) (r * (q - v) - (p - u) * s) := by
  obtain ⟨i1, i2, i3, i4⟩ := cross_ids p q r s u v
  rw [h0, Int.zero_mul, Int.sub_zero] at i3 i4
  rw [opp_iff, ← i2]
  generalize u * s - r * v = c at *
  generalize p * s - r * q = D at *
  rcases Int.lt_trichotomy D 0 with g | g | g
  · rcases hne with hp | hp
    · have := of_btw (D := -D) (t := -c) (by omega) (by rw [Int.neg_mul, Int.neg_mul, i3]) hp b1; omega
    · have := of_btw (D := -D) (t := -c) (by omega) (by rw [Int.neg_mul, Int.neg_mul, i4]) hp b2; omega
  · rw [g, Int.zero_mul] at i3 i4
    have : c = 0 := by
      rcases hne with hp | hp
      · rcases Int.mul_eq_zero.1 i3.symm with h | h
        · exact h
        · exact absurd h hp
      · rcases Int.mul_eq_zero.1 i4.symm with h | h
        · exact h
        · exact absurd h hp
    omega
  · rcases hne with hp | hp
    · have := of_btw g i3 hp b1; omega
    · have := of_btw g i4 hp b2; omega

theorem btw_dim {p q x y : Int} (hp : p ≠ 0) (h : p * y = x * q) (hb : btw x p) : btw y q := by
  rcases Int.lt_or_lt_of_ne hp with g | g
  · refine btw_of (D := -p) (t := -x) (by omega) (by rw [Int.neg_mul, Int.neg_mul, h]) ?_ ?_ <;> (unfold btw at hb; omega)
  · refine btw_of (D := p) (t := x) g h ?_ ?_ <;> (unfold btw at hb; omega)

theorem ov_one {p u r : Int} (h : ov p u r) : btw u p ∨ btw (u + r) p ∨ (btw (-u) r ∧ r ≠ 0) := by
  unfold ov mn mx at h
  unfold btw
  obtain ⟨h1, h2⟩ := h
  split at h1 <;> split at h1 <;> split at h2 <;> split at h2 <;> omega

/-- All on one line: an end of one edge lies on the other. -/
theorem line_on {p q r s u v : Int} (hne : p ≠ 0 ∨ q ≠ 0) (h0 : p * v = u * q) (h1 : p * s = r * q) (h2 : u * s = r * v) (o1 : ov p u r) (o2 : ov q v s) :
    (btw u p ∧ btw v q) ∨ (btw (u + r) p ∧ btw (v + s) q) ∨ (btw (-u) r ∧ btw (-v) s) := by
  by_cases hp : p = 0
  · subst hp
    have hq : q ≠ 0 := by rcases hne with h | h; exact absurd rfl h; exact h
    have hu : u = 0 := by
      rcases Int.mul_eq_zero.1 (show u * q = 0 by omega) with h | h
      · exact h
      · exact absurd h hq
    have hr : r = 0 := by
      rcases Int.mul_eq_zero.1 (show r * q = 0 by omega) with h | h
      · exact h
      · exact absurd h hq
    subst hu hr
    have z : btw (0 : Int) 0 := .inl ⟨by omega, by omega⟩
    rcases ov_one o2 with h | h | ⟨h, -⟩
    · exact .inl ⟨z, h⟩
    · exact .inr (.inl ⟨z, h⟩)
    · exact .inr (.inr ⟨z, h⟩)
  · rcases ov_one o1 with h | h | ⟨h, hr⟩
    · exact .inl ⟨h, btw_dim hp h0 h⟩
    · refine .inr (.inl ⟨h, btw_dim hp ?_ h⟩)
      rw [Int.mul_add, Int.add_mul, h0, h1]
    · refine .inr (.inr ⟨h, btw_dim hr ?_ h⟩)
      rw [Int.mul_neg, Int.neg_mul, h2]

end Go.Proofs.Ythbekbfhpedghaa

/- Package shape and the reference find the same: edges that meet or turn back, simple polygons, convex polygons. -/
namespace Go.Proofs.Ythbekbfhpedghaa

theorem mn_spec (a b : Int) : mn a b ≤ a ∧ mn a b ≤ b ∧ (mn a b = a ∨ mn a b = b) := by
  unfold mn; split <;> omega
theorem mx_spec (a b : Int) : a ≤ mx a b ∧ b ≤ mx a b ∧ (mx a b = a ∨ mx a b = b) := by
  unfold mx; split <;> omega
theorem box1 (a p u r : Int) : (mx (mn a (a + p)) (mn (a + u) (a + u + r)) ≤ mn (mx a (a + p)) (mx (a + u) (a + u + r))) ↔ ov p u r := by
  unfold ov
  have h1 := mn_spec a (a + p)
  have h2 := mn_spec (a + u) (a + u + r)
  have h3 := mx_spec a (a + p)
  have h4 := mx_spec (a + u) (a + u + r)
  have h5 := mn_spec 0 p
  have h6 := mx_spec 0 p
  have h7 := mn_spec u (u + r)
  have h8 := mx_spec u (u + r)
  have h9 := mx_spec (mn a (a + p)) (mn (a + u) (a + u + r))
  have h10 := mn_spec (mx a (a + p)) (mx (a + u) (a + u + r))
  generalize mx (mn a (a + p)) (mn (a + u) (a + u + r)) = x1 at *
  generalize mn (mx a (a + p)) (mx (a + u) (a + u + r)) = x2 at *
  generalize mn a (a + p) = x3 at *
  generalize mn (a + u) (a + u + r) = x4 at *
  generalize mx a (a + p) = x5 at *
  generalize mx (a + u) (a + u + r) = x6 at *
  generalize mn 0 p = x7 at *
  generalize mx 0 p = x8 at *
  generalize mn u (u + r) = x9 at *
  generalize mx u (u + r) = x10 at *
  omega
theorem in1 (a p u : Int) : inB (a + u) (mn a (a + p)) (mx a (a + p)) = true ↔ btw u p := by
  rw [inB_true]; unfold btw mn mx; split <;> split <;> omega

theorem box_iff (ax ay p q u v r s : Int) : boxB ax ay (ax + p) (ay + q) (ax + u) (ay + v) (ax + u + r) (ay + v + s) = true ↔ ov p u r ∧ ov q v s := by
  unfold boxB
  rw [Bool.and_eq_true, decide_eq_true_eq, decide_eq_true_eq, box1, box1]
theorem reach_iff (ax ay bx by' cx cy dx dy : Int) : reachB ax ay bx by' cx cy dx dy = true ↔ opp (cross ax ay bx by' cx cy) (cross ax ay bx by' dx dy) := by
  unfold reachB opp
  rw [Bool.and_eq_true, decide_eq_true_eq, decide_eq_true_eq]
theorem on_iff (ax ay p q u v : Int) : onB ax ay (ax + p) (ay + q) (ax + u) (ay + v) = true ↔ al p q u v = 0 ∧ btw u p ∧ btw v q := by
  unfold onB
  rw [Bool.and_eq_true, Bool.and_eq_true, in1, in1, beq_iff_eq]
  have : cross ax ay (ax + p) (ay + q) (ax + u) (ay + v) = al p q u v := by unfold cross al; grind
  rw [this]
  exact and_assoc

theorem sgn_opp {a b : Int} : sgn a * sgn b < 0 ↔ opp a b ∧ a ≠ 0 ∧ b ≠ 0 := by
  rw [opp_iff]
  unfold sgn
  rcases Int.lt_trichotomy a 0 with h | h | h <;> rcases Int.lt_trichotomy b 0 with h' | h' | h'
  all_goals
    first
      | (rw [if_neg (by omega), if_pos (by omega), if_neg (by omega), if_pos (by omega)]; omega)
      | (rw [if_neg (by omega), if_pos (by omega), if_neg (by omega), if_neg (by omega)]; omega)
      | (rw [if_neg (by omega), if_pos (by omega), if_pos (by omega)]; omega)
      | (rw [if_neg (by omega), if_neg (by omega), if_neg (by omega), if_pos (by omega)]; omega)
      | (rw [if_neg (by omega), if_neg (by omega), if_neg (by omega), if_neg (by omega)]; omega)
      | (rw [if_neg (by omega), if_neg (by omega), if_pos (by omega)]; omega)
      | (rw [if_pos (by omega), if_neg (by omega), if_pos (by omega)]; omega)
      | (rw [if_pos (by omega), if_neg (by omega), if_neg (by omega)]; omega)
      | (rw [if_pos (by omega), if_pos (by omega)]; omega)

theorem opp_neg {a b : Int} : opp (-a) (-b) ↔ opp a b := by
  rw [opp_iff, opp_iff]; omega

/-- An end on the other edge's line, where both are reached, is on the edge. -/
theorem on_of_reach {p q r s u v : Int} (hD : p * s - r * q ≠ 0) (h0 : al p q u v = 0) (h2 : opp (u * s - r * v) (r * (q - v) - (p - u) * s)) : btw u p ∧ btw v q := by
  obtain ⟨i1, i2, i3, i4⟩ := cross_ids p q r s u v
  rw [h0, Int.zero_mul, Int.sub_zero] at i3 i4
  rw [opp_iff, ← i2] at h2
  generalize u * s - r * v = c at *
  generalize p * s - r * q = D at *
  rcases Int.lt_or_lt_of_ne hD with g | g
  · exact ⟨btw_of (D := -D) (t := -c) (by omega) (by rw [Int.neg_mul, Int.neg_mul, i3]) (by omega) (by omega), btw_of (D := -D) (t := -c) (by omega) (by rw [Int.neg_mul, Int.neg_mul, i4]) (by omega) (by omega)⟩
  · exact ⟨btw_of g i3 (by omega) (by omega), btw_of g i4 (by omega) (by omega)⟩

theorem meet_rel (p q r s u v : Int) (h1 : p ≠ 0 ∨ q ≠ 0) (h2 : r ≠ 0 ∨ s ≠ 0) :
    (((ov p u r ∧ ov q v s) ∧ opp (al p q u v) (al p q (u + r) (v + s))) ∧ opp (u * s - r * v) (r * (q - v) - (p - u) * s)) ↔
      ((((al p q u v = 0 ∧ btw u p ∧ btw v q) ∨ (al p q (u + r) (v + s) = 0 ∧ btw (u + r) p ∧ btw (v + s) q)) ∨ (u * s - r * v = 0 ∧ btw (-u) r ∧ btw (-v) s)) ∨ (r * (q - v) - (p - u) * s = 0 ∧ btw (p - u) r ∧ btw (q - v) s)) ∨
        ((opp (al p q u v) (al p q (u + r) (v + s)) ∧ al p q u v ≠ 0 ∧ al p q (u + r) (v + s) ≠ 0) ∧ opp (u * s - r * v) (r * (q - v) - (p - u) * s) ∧ u * s - r * v ≠ 0 ∧ r * (q - v) - (p - u) * s ≠ 0) := by
  obtain ⟨i1, i2, i3, i4⟩ := cross_ids p q r s u v
  have e1 : (u + r) * -s - -r * (v + s) = -(u * s - r * v) := by grind
  have e2 : -r * (q - (v + s)) - (p - (u + r)) * -s = -(r * (q - v) - (p - u) * s) := by grind
  have e3 : al r s (-u) (-v) = u * s - r * v := by unfold al; grind
  have e4 : -u * q - p * -v = al p q u v := by unfold al; grind
  have e5 : p * (s - -v) - (r - -u) * q = al p q (u + r) (v + s) := by unfold al; grind
  have e6 : al r s (p - u) (q - v) = r * (q - v) - (p - u) * s := by unfold al; grind
  have e7 : (p - u) * -q - -p * (q - v) = -al p q u v := by unfold al; grind
  have e8 : -p * (s - (q - v)) - (r - (p - u)) * -q = -al p q (u + r) (v + s) := by unfold al; grind
  constructor
  · rintro ⟨⟨⟨o1, o2⟩, op1⟩, op2⟩
    by_cases hD : p * s - r * q = 0
    · rw [hD] at i1 i2
      have a0 : al p q u v = 0 := by rw [i1, opp_iff] at op1; omega
      have c0 : u * s - r * v = 0 := by rw [← i2, opp_iff] at op2; omega
      rcases line_on h1 (show p * v = u * q by unfold al at a0; omega) (by omega) (by omega) o1 o2 with h | h | h
      · exact .inl (.inl (.inl (.inl ⟨a0, h⟩)))
      · exact .inl (.inl (.inl (.inr ⟨by rw [i1, a0]; rfl, h⟩)))
      · exact .inl (.inl (.inr ⟨c0, h⟩))
    · by_cases a0 : al p q u v = 0
      · exact .inl (.inl (.inl (.inl ⟨a0, on_of_reach hD a0 op2⟩)))
      · by_cases b0 : al p q (u + r) (v + s) = 0
        · refine .inl (.inl (.inl (.inr ⟨b0, on_of_reach (r := -r) (s := -s) ?_ b0 ?_⟩)))
          · have : p * -s - -r * q = -(p * s - r * q) := by grind
            omega
          · rw [e1, e2, opp_neg]; exact op2
        · by_cases c0 : u * s - r * v = 0
          · refine .inl (.inl (.inr ⟨c0, on_of_reach (p := r) (q := s) (r := p) (s := q) ?_ (by rw [e3]; exact c0) ?_⟩))
            · have : r * q - p * s = -(p * s - r * q) := by grind
              omega
            · rw [e4, e5]; exact op1
          · by_cases d0 : r * (q - v) - (p - u) * s = 0
            · refine .inl (.inr ⟨d0, on_of_reach (p := r) (q := s) (r := -p) (s := -q) ?_ (by rw [e6]; exact d0) ?_⟩)
              · have : r * -q - -p * s = p * s - r * q := by grind
                omega
              · rw [e7, e8, opp_neg]; exact op1
            · exact .inr ⟨⟨op1, a0, b0⟩, op2, c0, d0⟩
  · rintro ((((⟨a0, b1, b2⟩ | ⟨a0, b1, b2⟩) | ⟨a0, b1, b2⟩) | ⟨a0, b1, b2⟩) | ⟨⟨op1, a0, b0⟩, op2, c0, d0⟩)
    · refine ⟨⟨⟨?_, ?_⟩, ?_⟩, reach_of_on h1 a0 b1 b2⟩
      · unfold ov; have := mn_spec 0 p; have := mx_spec 0 p; have := mn_spec u (u + r); have := mx_spec u (u + r); unfold btw at b1; omega
      · unfold ov; have := mn_spec 0 q; have := mx_spec 0 q; have := mn_spec v (v + s); have := mx_spec v (v + s); unfold btw at b2; omega
      · rw [opp_iff, a0]; omega
    · have k := reach_of_on (r := -r) (s := -s) h1 a0 b1 b2
      rw [e1, e2, opp_neg] at k
      refine ⟨⟨⟨?_, ?_⟩, ?_⟩, k⟩
      · unfold ov; have := mn_spec 0 p; have := mx_spec 0 p; have := mn_spec u (u + r); have := mx_spec u (u + r); unfold btw at b1; omega
      · unfold ov; have := mn_spec 0 q; have := mx_spec 0 q; have := mn_spec v (v + s); have := mx_spec v (v + s); unfold btw at b2; omega
      · rw [opp_iff, a0]; omega
    · have k := reach_of_on (p := r) (q := s) (r := p) (s := q) h2 (by rw [e3]; exact a0) b1 b2
      rw [e4, e5] at k
      refine ⟨⟨⟨?_, ?_⟩, k⟩, by rw [opp_iff, a0]; omega⟩
      · unfold ov; have := mn_spec 0 p; have := mx_spec 0 p; have := mn_spec u (u + r); have := mx_spec u (u + r); unfold btw at b1; omega
      · unfold ov; have := mn_spec 0 q; have := mx_spec 0 q; have := mn_spec v (v + s); have := mx_spec v (v + s); unfold btw at b2; omega
    · have k := reach_of_on (p := r) (q := s) (r := -p) (s := -q) h2 (by rw [e6]; exact a0) b1 b2
      rw [e7, e8, opp_neg] at k
      refine ⟨⟨⟨?_, ?_⟩, k⟩, by rw [opp_iff, a0]; omega⟩
      · unfold ov; have := mn_spec 0 p; have := mx_spec 0 p; have := mn_spec u (u + r); have := mx_spec u (u + r); unfold btw at b1; omega
      · unfold ov; have := mn_spec 0 q; have := mx_spec 0 q; have := mn_spec v (v + s); have := mx_spec v (v + s); unfold btw at b2; omega
    · have hD : p * s - r * q ≠ 0 := by
        intro e
        rw [e] at i1
        rw [i1, opp_iff] at op1
        omega
      exact ⟨⟨boxes_of hD op1 op2, op1⟩, op2⟩

theorem meet_same {a b c d : Pt} (h1 : eqP a b = false) (h2 : eqP c d = false) : meet2P a b c d = meetP a b c d := by
  obtain ⟨ax, ay⟩ := a
  obtain ⟨bx, by'⟩ := b
  obtain ⟨cx, cy⟩ := c
  obtain ⟨dx, dy⟩ := d
  obtain ⟨p, rfl⟩ : ∃ p, bx = ax + p := ⟨bx - ax, by omega⟩
  obtain ⟨q, rfl⟩ : ∃ q, by' = ay + q := ⟨by' - ay, by omega⟩
  obtain ⟨u, rfl⟩ : ∃ u, cx = ax + u := ⟨cx - ax, by omega⟩
  obtain ⟨v, rfl⟩ : ∃ v, cy = ay + v := ⟨cy - ay, by omega⟩
  obtain ⟨r, rfl⟩ : ∃ r, dx = ax + u + r := ⟨dx - ax - u, by omega⟩
  obtain ⟨s, rfl⟩ : ∃ s, dy = ay + v + s := ⟨dy - ay - v, by omega⟩
  have g1 : p ≠ 0 ∨ q ≠ 0 := by
    unfold eqP eqI at h1
    rw [Bool.and_eq_false_iff, beq_eq_false_iff_ne, beq_eq_false_iff_ne] at h1
    simp only at h1; omega
  have g2 : r ≠ 0 ∨ s ≠ 0 := by
    unfold eqP eqI at h2
    rw [Bool.and_eq_false_iff, beq_eq_false_iff_ne, beq_eq_false_iff_ne] at h2
    simp only at h2; omega
  have c1 : cross ax ay (ax + p) (ay + q) (ax + u) (ay + v) = al p q u v := by unfold cross al; grind
  have c2 : cross ax ay (ax + p) (ay + q) (ax + u + r) (ay + v + s) = al p q (u + r) (v + s) := by unfold cross al; grind
  have c3 : cross (ax + u) (ay + v) (ax + u + r) (ay + v + s) ax ay = u * s - r * v := by unfold cross; grind
  have c4 : cross (ax + u) (ay + v) (ax + u + r) (ay + v + s) (ax + p) (ay + q) = r * (q - v) - (p - u) * s := by unfold cross; grind
  have o1 := on_iff ax ay p q u v
  have o2 : onB ax ay (ax + p) (ay + q) (ax + u + r) (ay + v + s) = true ↔ al p q (u + r) (v + s) = 0 ∧ btw (u + r) p ∧ btw (v + s) q := by
    have := on_iff ax ay p q (u + r) (v + s)
    rwa [← Int.add_assoc, ← Int.add_assoc] at this
  have o3 : onB (ax + u) (ay + v) (ax + u + r) (ay + v + s) ax ay = true ↔ u * s - r * v = 0 ∧ btw (-u) r ∧ btw (-v) s := by
    have := on_iff (ax + u) (ay + v) r s (-u) (-v)
    rw [show ax + u + -u = ax by omega, show ay + v + -v = ay by omega, show al r s (-u) (-v) = u * s - r * v by unfold al; grind] at this
    exact this
  have o4 : onB (ax + u) (ay + v) (ax + u + r) (ay + v + s) (ax + p) (ay + q) = true ↔ r * (q - v) - (p - u) * s = 0 ∧ btw (p - u) r ∧ btw (q - v) s := by
    have := on_iff (ax + u) (ay + v) r s (p - u) (q - v)
    rw [show ax + u + (p - u) = ax + p by omega, show ay + v + (q - v) = ay + q by omega, show al r s (p - u) (q - v) = r * (q - v) - (p - u) * s by unfold al; grind] at this
    exact this
  rw [Bool.eq_iff_iff]
  unfold meet2P meetP meet2B meetB
  simp only
  rw [Bool.and_eq_true, Bool.and_eq_true, box_iff, reach_iff, reach_iff, Bool.or_eq_true, Bool.or_eq_true, Bool.or_eq_true, Bool.or_eq_true, Bool.and_eq_true, decide_eq_true_eq, decide_eq_true_eq, sgn_opp, sgn_opp, c1, c2, c3, c4, o1, o2, o3, o4]
  exact meet_rel p q r s u v g1 g2

end Go.Proofs.Ythbekbfhpedghaa

/- Package shape and the reference find the same polygons simple and convex. -/
namespace Go.Proofs.Ythbekbfhpedghaa

theorem back_rel {p q r s : Int} (h1 : p ≠ 0 ∨ q ≠ 0) (h2 : r ≠ 0 ∨ s ≠ 0) (h : p * s = r * q) : 0 < p * r + q * s ↔ (btw r p ∧ btw s q) ∨ (btw p r ∧ btw q s) := by
  constructor
  · intro hd
    by_cases hp : p = 0
    · subst hp
      have hq : q ≠ 0 := by rcases h1 with h' | h'; exact absurd rfl h'; exact h'
      have hr : r = 0 := by
        rcases Int.mul_eq_zero.1 (show r * q = 0 by omega) with h' | h'
        · exact h'
        · exact absurd h' hq
      subst hr
      have hd' : 0 < q * s := by omega
      have hs : (0 < q ∧ 0 < s) ∨ (q < 0 ∧ s < 0) := by
        rcases Int.lt_trichotomy q 0 with g | g | g
        · right; refine ⟨g, ?_⟩
          rcases Int.lt_or_le s 0 with k | k
          · exact k
          · have := Int.mul_nonpos_of_nonpos_of_nonneg (Int.le_of_lt g) k; omega
        · exact absurd g hq
        · left; refine ⟨g, ?_⟩
          rcases Int.lt_or_le 0 s with k | k
          · exact k
          · have := Int.mul_nonpos_of_nonneg_of_nonpos (Int.le_of_lt g) k; omega
      unfold btw
      omega
    · have hr : r ≠ 0 := by
        intro e; subst e
        have hs : s = 0 := by
          rcases Int.mul_eq_zero.1 (show p * s = 0 by omega) with h' | h'
          · exact absurd h' hp
          · exact h'
        subst hs
        simp at h2
      have k1 : p * (p * r + q * s) = r * (p * p + q * q) := by
        have : q * (p * s) = q * (r * q) := by rw [h]
        grind
      have k2 : 0 < p * p + q * q := by
        have a : 0 < p * p := by
          rcases Int.lt_or_lt_of_ne hp with g | g
          · exact Int.mul_pos_of_neg_of_neg g g
          · exact Int.mul_pos g g
        have b : 0 ≤ q * q := by
          rcases Int.le_total 0 q with g | g
          · exact Int.mul_nonneg g g
          · exact Int.mul_nonneg_of_nonpos_of_nonpos g g
        omega
      generalize p * r + q * s = d at *
      generalize p * p + q * q = f at *
      have hs : (0 < p ∧ 0 < r) ∨ (p < 0 ∧ r < 0) := by
        rcases Int.lt_or_lt_of_ne hp with g | g
        · right; refine ⟨g, ?_⟩
          have := Int.mul_neg_of_neg_of_pos g hd
          rcases Int.lt_or_le r 0 with k | k
          · exact k
          · have := Int.mul_nonneg k (Int.le_of_lt k2); omega
        · left; refine ⟨g, ?_⟩
          have := Int.mul_pos g hd
          rcases Int.lt_or_le 0 r with k | k
          · exact k
          · have := Int.mul_nonpos_of_nonpos_of_nonneg k (Int.le_of_lt k2); omega
      have hb : btw r p ∨ btw p r := by unfold btw; omega
      rcases hb with hb | hb
      · exact .inl ⟨hb, btw_dim hp h hb⟩
      · exact .inr ⟨hb, btw_dim hr h.symm hb⟩
  · have key : ∀ x y : Int, btw x y → 0 ≤ y * x ∧ (y * x = 0 → x = 0) := by
      intro x y hb
      rcases hb with ⟨b1, b2⟩ | ⟨b1, b2⟩
      · refine ⟨Int.mul_nonneg (by omega) b1, fun e => ?_⟩
        rcases Int.mul_eq_zero.1 e with k | k <;> omega
      · refine ⟨Int.mul_nonneg_of_nonpos_of_nonpos (by omega) b2, fun e => ?_⟩
        rcases Int.mul_eq_zero.1 e with k | k <;> omega
    rintro (⟨b1, b2⟩ | ⟨b1, b2⟩)
    · obtain ⟨k1, k2⟩ := key _ _ b1
      obtain ⟨k3, k4⟩ := key _ _ b2
      rcases h2 with g | g <;> omega
    · obtain ⟨k1, k2⟩ := key _ _ b1
      obtain ⟨k3, k4⟩ := key _ _ b2
      rw [Int.mul_comm p r, Int.mul_comm q s]
      rcases h1 with g | g <;> omega

theorem back_same {a b c : Pt} (h1 : eqP a b = false) (h2 : eqP b c = false) : backP a b c = (onP a b c || onP b c a) := by
  obtain ⟨ax, ay⟩ := a
  obtain ⟨bx, by'⟩ := b
  obtain ⟨cx, cy⟩ := c
  obtain ⟨p, rfl⟩ : ∃ p, ax = bx + p := ⟨ax - bx, by omega⟩
  obtain ⟨q, rfl⟩ : ∃ q, ay = by' + q := ⟨ay - by', by omega⟩
  obtain ⟨r, rfl⟩ : ∃ r, cx = bx + r := ⟨cx - bx, by omega⟩
  obtain ⟨s, rfl⟩ : ∃ s, cy = by' + s := ⟨cy - by', by omega⟩
  have g1 : p ≠ 0 ∨ q ≠ 0 := by
    unfold eqP eqI at h1
    rw [Bool.and_eq_false_iff, beq_eq_false_iff_ne, beq_eq_false_iff_ne] at h1
    simp only at h1; omega
  have g2 : r ≠ 0 ∨ s ≠ 0 := by
    unfold eqP eqI at h2
    rw [Bool.and_eq_false_iff, beq_eq_false_iff_ne, beq_eq_false_iff_ne] at h2
    simp only at h2; omega
  have o1 : onB (bx + p) (by' + q) bx by' (bx + r) (by' + s) = true ↔ p * s - r * q = 0 ∧ btw r p ∧ btw s q := by
    have := on_iff (bx + p) (by' + q) (-p) (-q) (r - p) (s - q)
    rw [show bx + p + -p = bx by omega, show by' + q + -q = by' by omega, show bx + p + (r - p) = bx + r by omega, show by' + q + (s - q) = by' + s by omega, show al (-p) (-q) (r - p) (s - q) = -(p * s - r * q) by unfold al; grind] at this
    rw [this]; unfold btw; omega
  have o2 : onB bx by' (bx + r) (by' + s) (bx + p) (by' + q) = true ↔ p * s - r * q = 0 ∧ btw p r ∧ btw q s := by
    rw [on_iff]; unfold al
    exact ⟨fun ⟨e, h⟩ => ⟨by omega, h⟩, fun ⟨e, h⟩ => ⟨by omega, h⟩⟩
  have d1 : (bx + p - bx) * (by' + s - by') - (bx + r - bx) * (by' + q - by') = p * s - r * q := by grind
  have d2 : (bx + p - bx) * (bx + r - bx) + (by' + q - by') * (by' + s - by') = p * r + q * s := by grind
  rw [Bool.eq_iff_iff]
  unfold backP onP backB
  simp only
  rw [Bool.or_eq_true, Bool.and_eq_true, beq_iff_eq, decide_eq_true_eq, o1, o2, d1, d2]
  constructor
  · rintro ⟨e, hd⟩
    rcases (back_rel g1 g2 (by omega)).1 hd with h | h
    · exact .inl ⟨e, h⟩
    · exact .inr ⟨e, h⟩
  · rintro (⟨e, h⟩ | ⟨e, h⟩)
    · exact ⟨e, (back_rel g1 g2 (by omega)).2 (.inl h)⟩
    · exact ⟨e, (back_rel g1 g2 (by omega)).2 (.inr h)⟩

theorem meetP_comm (a b c d : Pt) : meetP a b c d = meetP c d a b := by
  unfold meetP meetB
  generalize onB a.1 a.2 b.1 b.2 c.1 c.2 = o1
  generalize onB a.1 a.2 b.1 b.2 d.1 d.2 = o2
  generalize onB c.1 c.2 d.1 d.2 a.1 a.2 = o3
  generalize onB c.1 c.2 d.1 d.2 b.1 b.2 = o4
  rw [Bool.and_comm]
  cases o1 <;> cases o2 <;> cases o3 <;> cases o4 <;> rfl

theorem eqP_iff {a b : Pt} : eqP a b = true ↔ a = b := by
  obtain ⟨x, y⟩ := a
  obtain ⟨u, v⟩ := b
  simp [eqP, eqI]

theorem simple2B_iff (l : List Pt) : simple2B l = true ↔ ∀ i, i < l.length → zeroAt l i = false ∧ backAt l i = false ∧ ∀ j, j + 2 ≤ i → hit2At l i j = false := by
  unfold simple2B simple2At
  simp only [List.all_eq_true, List.mem_range, Bool.and_eq_true, Bool.not_eq_true', Bool.or_eq_false_iff, Bool.or_eq_true, decide_eq_true_eq]
  constructor
  · intro h i hi
    obtain ⟨⟨a, b⟩, c⟩ := h i hi
    refine ⟨a, b, fun j hj => ?_⟩
    rcases c j (by omega) with k | k
    · omega
    · exact k
  · intro h i hi
    obtain ⟨a, b, c⟩ := h i hi
    refine ⟨⟨a, b⟩, fun j hj => ?_⟩
    by_cases e : i < j + 2
    · exact .inl e
    · exact .inr (c j (by omega))

theorem simpleB_iff (l : List Pt) : simpleB l = true ↔ (∀ i, i < l.length → zeroAt l i = false) ∧ ∀ i, i < l.length → foldAt l i = false ∧ ∀ k, k < l.length → i + 2 ≤ k → hitAt l i k = false := by
  constructor
  · unfold simpleB
    simp only [List.all_eq_true, List.mem_range, Bool.and_eq_true, Bool.not_eq_true', Bool.or_eq_true, decide_eq_true_eq]
    rintro ⟨h1, h2⟩
    refine ⟨h1, fun i hi => ⟨(h2 i hi).1, fun k hk hik => ?_⟩⟩
    rcases (h2 i hi).2 k hk with g | g
    · omega
    · exact g
  · rintro ⟨h1, h2⟩
    exact simpleB_yes h1 (fun j hj => ⟨(h2 j hj).1, fun k hjk hk => (h2 j hj).2 k hk hjk⟩)

theorem zero_next {l : List Pt} (h : ∀ i, i < l.length → zeroAt l i = false) (i : Nat) (hn : 0 < l.length) : eqP (nx l i) (nx l (i + 1)) = false := by
  have := h ((i + 1) % l.length) (Nat.mod_lt _ hn)
  unfold zeroAt at this
  rw [show gt l ((i + 1) % l.length) = nx l i from rfl] at this
  unfold nx at this ⊢
  rwa [Nat.mod_add_mod] at this

theorem hit_same {l : List Pt} {i j : Nat} (hi : i < l.length) (hj : j + 2 ≤ i) (z1 : zeroAt l i = false) (z2 : zeroAt l j = false) : hit2At l i j = hitAt l j i := by
  unfold hit2At hitAt
  rw [meet_same z1 z2, meetP_comm]
  have : (i - j == l.length - 1) = ((i + 1) % l.length == j) := by
    rw [Bool.eq_iff_iff, beq_iff_eq, beq_iff_eq]
    by_cases e : i + 1 = l.length
    · rw [e, Nat.mod_self]; omega
    · rw [Nat.mod_eq_of_lt (by omega)]; omega
  rw [this]

theorem simple_same (l : List Pt) : simple2B l = simpleB l := by
  rw [Bool.eq_iff_iff, simple2B_iff, simpleB_iff]
  constructor
  · intro h
    have hz : ∀ i, i < l.length → zeroAt l i = false := fun i hi => (h i hi).1
    refine ⟨hz, fun i hi => ⟨?_, fun k hk hik => ?_⟩⟩
    · have b := (h i hi).2.1
      unfold backAt at b
      rw [back_same (hz i hi) (zero_next hz i (by omega))] at b
      exact b
    · rw [← hit_same hk hik (hz k hk) (hz i hi)]
      exact (h k hk).2.2 i hik
  · rintro ⟨hz, h⟩ i hi
    refine ⟨hz i hi, ?_, fun j hj => ?_⟩
    · unfold backAt
      rw [back_same (hz i hi) (zero_next hz i (by omega))]
      exact (h i hi).1
    · rw [hit_same hi hj (hz i hi) (hz j (by omega))]
      exact (h j (by omega)).2 i hi hj

theorem cmpQ_first (a b : Pt) : decide (cmpQ a b < 0) = firstP a b := by
  obtain ⟨ax, ay⟩ := a
  obtain ⟨bx, by'⟩ := b
  rw [Bool.eq_iff_iff]
  simp only [cmpQ, cmpP, firstP, firstB, Bool.or_eq_true, Bool.and_eq_true, beq_iff_eq, decide_eq_true_eq]
  unfold orI cmpI
  by_cases h1 : ay < by' <;> by_cases h2 : by' < ay <;> by_cases h3 : ax < bx <;> by_cases h4 : bx < ax <;> simp [h1, h2, h3, h4] <;> omega

theorem onP_start (a b : Pt) : onP a b a = true := by
  obtain ⟨ax, ay⟩ := a
  obtain ⟨bx, by'⟩ := b
  simp only [onP, onB, cross, inB, mn, mx, Bool.and_eq_true, beq_iff_eq, decide_eq_true_eq]
  refine ⟨⟨by grind, ?_, ?_⟩, ?_, ?_⟩ <;> split <;> omega

/-- The first point of a simple polygon is no other one. -/
theorem first_alone {l : List Pt} (h : simpleB l = true) {i : Nat} (h0 : 0 < i) (hi : i < l.length) : gt l 0 ≠ gt l i := by
  intro e
  rw [simpleB_iff] at h
  obtain ⟨hz, hh⟩ := h
  by_cases e1 : i = 1
  · subst e1
    have := hz 0 (by omega)
    unfold zeroAt nx at this
    rw [Nat.zero_add, Nat.mod_eq_of_lt hi, show l.getD 1 (0, 0) = gt l 1 from rfl] at this
    rw [eqP_iff.2 e] at this
    cases this
  · by_cases e2 : i + 1 = l.length
    · have := hz i hi
      unfold zeroAt nx at this
      rw [e2, Nat.mod_self, show l.getD 0 (0, 0) = gt l 0 from rfl] at this
      rw [eqP_iff.2 e.symm] at this
      cases this
    · have := (hh 0 (by omega)).2 i hi (by omega)
      unfold hitAt at this
      rw [Nat.mod_eq_of_lt (by omega), ← e] at this
      have o := onP_start (gt l 0) (nx l 0)
      have m : meetP (gt l 0) (nx l 0) (gt l 0) (nx l i) = true := by
        unfold onP at o
        unfold meetP meetB
        rw [o]; simp
      rw [m] at this
      simp at this

theorem convex_same (l : List Pt) : convex2B l = convexB l := by
  unfold convex2B convexB
  rw [simple_same, Bool.and_comm]
  cases hs : simpleB l
  · rfl
  · rw [Bool.true_and, Bool.true_and, Bool.eq_iff_iff, List.all_eq_true, List.all_eq_true]
    have k : ∀ i, i < l.length → convex2At l i = convexAt l i := by
      intro i hi
      unfold convex2At convexAt
      rw [cmpQ_first, Bool.not_or]
      congr 1
      by_cases e0 : i = 0
      · subst e0
        have : firstP (gt l 0) (gt l 0) = false := by simp [firstP, firstB]
        rw [this]; rfl
      · have ne := first_alone hs (Nat.pos_of_ne_zero e0) hi
        rw [show (i == 0) = false by simp [e0], Bool.false_or]
        generalize gt l 0 = a at *
        generalize gt l i = b at *
        obtain ⟨ax, ay⟩ := a
        obtain ⟨bx, by'⟩ := b
        have ne' : ¬ (ax = bx ∧ ay = by') := fun ⟨e1, e2⟩ => ne (by rw [e1, e2])
        rw [Bool.eq_iff_iff]
        simp only [firstP, firstB, Bool.not_eq_true', Bool.or_eq_false_iff, Bool.or_eq_true, Bool.and_eq_true, Bool.and_eq_false_iff, beq_iff_eq, beq_eq_false_iff_ne, decide_eq_true_eq, decide_eq_false_iff_not]
        omega
    constructor
    · intro h i hi
      rw [← k i (List.mem_range.1 hi)]; exact h i hi
    · intro h i hi
      rw [k i (List.mem_range.1 hi)]; exact h i hi
end Go.Proofs.Ythbekbfhpedghaa

/- Is a polygon convex in normal form? The reference's function. -/
namespace Go.Proofs.Ythbekbfhpedghaa
open Go.RowKit Go.Sort
attribute [local go_sem ↓] run_min_mn run_max_mx Go.wp_at_zero Go.wp_at_succ


set_option maxHeartbeats 800000 in
theorem convex_any (b off n c : Nat) (l : List Pt) (w : World) (hl : l.length = n) (hn : 2 < n) (hn' : n ≤ 100) (h : PtsIn w b off l) (hb : b < w.heap.size) (hok : l.all okP = true) :
    Calls Try.prog 19 #[.slice (some ⟨b, off, none⟩) n c] w fun e w' =>
      e = .returned (.bool (convexB l)) ∧ Below w.heap.size w w' := by
  have S := fun W hW => Lib.hid (simple_any b off n c l W hl hn hn' (h.below (B := w.heap.size) hW hb) (Nat.lt_of_lt_of_le hb hW.size) hok)
  cases hs : simpleB l
  · have HS := Lib.hid hs
    clear hs
    go_enter Try.func19, Try.ntmps19
    go_wp2_with fail
    refine ((S _ (Below.refl _ _)).out).mono ?_
    rintro e w1 ⟨rfl, hb1⟩
    rw [HS.out]
    go_wp2_with fail
    go_ret
    exact ⟨ret_bool (by simp [convexB, HS.out]), hb1⟩
  · have HS := Lib.hid hs
    clear hs
    go_enter Try.func19, Try.ntmps19
    go_wp2_with fail
    refine ((S _ (Below.refl _ _)).out).mono ?_
    rintro e w1 ⟨rfl, hb1⟩
    rw [HS.out]
    clear S
    go_wp2_with fail
    go_loopw [3] (fun i wr => ∃ k : Nat, k ≤ n ∧ i = .int .i64 k ∧ (∀ j, j < k → convexAt l j = true) ∧ Below w.heap.size w wr) (fun i _ => n - (intOf i).toNat)
    case atStart => exact ⟨0, Nat.zero_le _, rfl, by omega, hb1⟩
    case round =>
      clear hb1
      obtain ⟨k, hk, rfl, hz, hbw⟩ := hrel
      by_cases hlt : k < n
      · obtain ⟨p, hp⟩ : ∃ p, l[k]? = some p := ⟨l[k]'(by omega), List.getElem?_eq_getElem _⟩
        obtain ⟨p0, hp0⟩ : ∃ p, l[0]? = some p := ⟨l[0]'(by omega), List.getElem?_eq_getElem _⟩
        have hpx : gt l k = p := by unfold gt; rw [List.getD_eq_getElem?_getD, hp]; rfl
        have hpx0 : gt l 0 = p0 := by unfold gt; rw [List.getD_eq_getElem?_getD, hp0]; rfl
        have hpts := h.below hbw hb
        have hB : b < wr.heap.size := Nat.lt_of_lt_of_le hb hbw.size
        obtain ⟨h1, h2⟩ := hpts k p hp
        obtain ⟨h3, h4⟩ := hpts 0 p0 hp0
        have N := fun d os => Lib.hid (Calls.regrown_of (next_any b off n c l k (grow (redrawn wr d) os) hl (by omega) (by omega) (by omega) (hpts.below (below_regrown wr d os) hB)))
        have N2 := fun d os => Lib.hid (Calls.regrown_of (next_any1 b off n c l k (grow (redrawn wr d) os) hl (by omega) (by omega) (by omega) (hpts.below (below_regrown wr d os) hB)))
        have ok1 := okP_bd (getD_ok hok k)
        rw [show l.getD k (0, 0) = gt l k from rfl, hpx] at ok1
        have ok2 := okP_bd (nx_ok hok k)
        have ok3 := okP_bd (nx_ok hok (k + 1))
        have e1 : convexAt l k = (!decide (crossP p (nx l k) (nx l (k + 1)) ≤ 0) && (k == 0 || firstP p0 p)) := by unfold convexAt; rw [hpx, hpx0]
        have E1 := Lib.hid e1
        have HZ := Lib.hid hz
        have HL := Lib.hid hl
        clear e1 hz hp hp0 hpx hpx0 hpts h hok hl
        generalize nx l k = q at *
        generalize nx l (k + 1) = r at *
        obtain ⟨x, y⟩ := p
        obtain ⟨x0, y0⟩ := p0
        obtain ⟨qx, qy⟩ := q
        obtain ⟨rx, ry⟩ := r
        obtain ⟨⟨b1, b2⟩, b3, b4⟩ := ok1
        obtain ⟨⟨b5, b6⟩, b7, b8⟩ := ok2
        obtain ⟨⟨b9, b10⟩, b11, b12⟩ := ok3
        have C := fun d os => Lib.hid (Calls.regrown_of (cross_any x y qx qy rx ry (grow (redrawn wr d) os) (by omega) (by omega) (by omega) (by omega) (by omega) (by omega)))
        have F := fun d os => Lib.hid (Calls.regrown_of (first_any x0 y0 x y (grow (redrawn wr d) os)))
        have t1 := cell_regrown h1
        have t2 := cell_regrown h2
        have t3 := cell_regrown h3
        have t4 := cell_regrown h4
        simp only [Nat.zero_mul, Nat.add_zero] at t3 t4
        clear h1 h2 h3 h4
        cases g1 : decide (cross x y qx qy rx ry ≤ 0)
        · rcases Nat.eq_zero_or_pos k with hk0 | hk0
          · have g2 : decide (0 < k) = false := by simp [hk0]
            have HK0 := Lib.hid hk0
            clear hk0
            go_wp2_with fail
            refine wp_region_quiet_below (by kernel_rfl) (by kernel_rfl) ?_
            repeat (go_big_quiet_step (first | (with_reducible exact (N _ _).out) | (with_reducible exact (N2 _ _).out) | (with_reducible exact (C _ _).out) | (with_reducible exact (F _ _).out)))
            refine wpQuiet_nil ?_
            intro _ hw'
            obtain ⟨⟨dq, osq⟩, hw''⟩ := hw'
            subst hw''
            go_wp2_with fail
            go_roundw
            case rel => exact ⟨k + 1, by omega, by go_num, fun j hj => by
              rcases Nat.lt_or_eq_of_le (Nat.le_of_lt_succ hj) with h' | h'
              · exact HZ.out j h'
              · rw [h', E1.out]; unfold crossP; rw [g1, HK0.out]; rfl, hbw.trans ((below_regrown wr dq osq).mono hbw.size)⟩
            case measure => simp [intOf]; omega
          · have g2 : decide (0 < k) = true := by simp; omega
            have g3 : (k == 0) = false := by rw [beq_eq_false_iff_ne]; omega
            have G3 := Lib.hid g3
            clear g3
            cases g4 : firstB x0 y0 x y
            · go_wp2_with fail
              refine wp_region_quiet_below (by kernel_rfl) (by kernel_rfl) ?_
              repeat (go_big_quiet_step (first | (with_reducible exact (N _ _).out) | (with_reducible exact (N2 _ _).out) | (with_reducible exact (C _ _).out) | (with_reducible exact (F _ _).out)))
              refine wpQuiet_nil ?_
              intro _ hw'
              obtain ⟨⟨dq, osq⟩, hw''⟩ := hw'
              subst hw''
              go_wp2_with fail
              go_ret
              exact ⟨ret_bool (convexB_no (HL.out.symm ▸ hlt) (by rw [E1.out]; unfold crossP firstP; rw [g1, g4, G3.out]; rfl)).symm, hbw.trans ((below_regrown wr dq osq).mono hbw.size)⟩
            · go_wp2_with fail
              refine wp_region_quiet_below (by kernel_rfl) (by kernel_rfl) ?_
              repeat (go_big_quiet_step (first | (with_reducible exact (N _ _).out) | (with_reducible exact (N2 _ _).out) | (with_reducible exact (C _ _).out) | (with_reducible exact (F _ _).out)))
              refine wpQuiet_nil ?_
              intro _ hw'
              obtain ⟨⟨dq, osq⟩, hw''⟩ := hw'
              subst hw''
              go_wp2_with fail
              go_roundw
              case rel => exact ⟨k + 1, by omega, by go_num, fun j hj => by
                rcases Nat.lt_or_eq_of_le (Nat.le_of_lt_succ hj) with h' | h'
                · exact HZ.out j h'
                · rw [h', E1.out]; unfold crossP firstP; rw [g1, g4]; simp, hbw.trans ((below_regrown wr dq osq).mono hbw.size)⟩
              case measure => simp [intOf]; omega
        · go_wp2_with fail
          refine wp_region_quiet_below (by kernel_rfl) (by kernel_rfl) ?_
          repeat (go_big_quiet_step (first | (with_reducible exact (N _ _).out) | (with_reducible exact (N2 _ _).out) | (with_reducible exact (C _ _).out) | (with_reducible exact (F _ _).out)))
          refine wpQuiet_nil ?_
          intro _ hw'
          obtain ⟨⟨dq, osq⟩, hw''⟩ := hw'
          subst hw''
          go_wp2_with fail
          go_ret
          exact ⟨ret_bool (convexB_no (HL.out.symm ▸ hlt) (by rw [E1.out]; unfold crossP; rw [g1]; rfl)).symm, hbw.trans ((below_regrown wr dq osq).mono hbw.size)⟩
      · have hkn : k = n := by omega
        have hfin : convexB l = true := convexB_yes HS.out (fun j hj => hz j (by omega))
        have HFIN := Lib.hid hfin
        clear hfin hz h hok hl
        go_wp2_with fail
        go_ret
        exact ⟨ret_bool HFIN.out.symm, hbw⟩
end Go.Proofs.Ythbekbfhpedghaa

/- Package shape's exported functions Area2, Simple and Convex; the reference's Polygon, of any slice. -/
namespace Go.Proofs.Ythbekbfhpedghaa
open Go.RowKit Go.Sort
attribute [local go_sem ↓] run_min_mn run_max_mx

/-- What a polygon's slice is. -/
structure PolyIn (w : World) (A : Option Addr) (n : Nat) (l : List Pt) (b off : Nat) : Prop where
  at_ : A = some ⟨b, off, none⟩
  lo : 2 < n
  hi : n ≤ 32
  here : b < w.heap.size
  pts : PtsIn w b off l
  ok : l.all okP = true

theorem PtsAt.poly {w : World} {A : Option Addr} {n : Nat} {l : List Pt} (h : PtsAt w A l) (hn : l.length = n) (hp : polyB l = true) : ∃ b off, PolyIn w A n l b off := by
  simp only [polyB, inB, Bool.and_eq_true, decide_eq_true_eq] at hp
  obtain ⟨h1, h2, h3⟩ := hp
  obtain ⟨b, off, e, hb, hi⟩ := h (by intro e; subst e; simp at h2)
  exact ⟨b, off, ⟨e, by omega, by omega, hb, hi, h1⟩⟩

def area2X (l : List Pt) : Int := if polyB l then area2 l else 0
def errX (l : List Pt) : Int := if polyB l then 0 else 1

theorem area2X_any (A : Option Addr) (n c : Nat) (l : List Pt) (w : World) (hn : l.length = n) (hbig : n ≤ 1000000) (hx : PtsAt w A l) :
    Calls Try.prog 20 #[.slice A n c] w fun e w' => e = .returned (.tuple #[.int .i64 (area2X l), .int .i64 (errX l)]) ∧ Below w.heap.size w w' := by
  have K := Lib.hid (isPolygon_any A n c l w hn hbig hx)
  cases hp : polyB l
  · have e1 : area2X l = 0 := by unfold area2X; rw [hp]; rfl
    have e2 : errX l = 1 := by unfold errX; rw [hp]; rfl
    rw [e1, e2]
    rw [hp] at K
    clear hn hx
    go_enter Try.func20, Try.ntmps20
    go_wp2_with fail
    refine (K.out).mono ?_
    rintro e w' ⟨rfl, hb⟩
    go_wp2
    go_ret2
    exact ⟨rfl, hb⟩
  · have e1 : area2X l = area2 l := by unfold area2X; rw [hp]; rfl
    have e2 : errX l = 0 := by unfold errX; rw [hp]; rfl
    rw [e1, e2]
    rw [hp] at K
    obtain ⟨b, off, rfl, h1, h2, h3, h4, h5⟩ := hx.poly hn hp
    have S := fun W hW => Lib.hid (area2D_any b off n c l W hn (by omega) (by omega) (h4.below (B := w.heap.size) hW h3) (Nat.lt_of_lt_of_le h3 hW.size) h5)
    clear hn hx h4 h5 e1 e2
    generalize area2 l = r at *
    go_enter Try.func20, Try.ntmps20
    go_wp2_with fail
    refine (K.out).mono ?_
    rintro e w1 ⟨rfl, hb⟩
    go_wp2_with fail
    refine ((S _ hb).out).mono ?_
    rintro e w2 ⟨rfl, hb2⟩
    go_wp2
    go_ret2
    exact ⟨rfl, hb.trans (hb2.mono hb.size)⟩

def simpleX (l : List Pt) : Bool := polyB l && simpleB l
def convexX (l : List Pt) : Bool := polyB l && convexB l
/-- The reference's Polygon, of any slice. -/
theorem polygonX_any (A : Option Addr) (n c : Nat) (l : List Pt) (w : World) (hn : l.length = n) (hbig : n ≤ 1000000) (hx : PtsAt w A l) :
    Calls Try.prog 18 #[.slice A n c] w fun e w' => e = .returned (.bool (polyB l)) ∧ Below w.heap.size w w' := by
  cases l with
  | nil =>
    obtain rfl : n = 0 := by simpa using hn.symm
    have hp : polyB [] = false := by rfl
    rw [hp]
    clear hn hx hp
    go_enter Try.func18, Try.ntmps18
    go_wp2
    refine wp_loop_rounds 1 ?_
    rw [rounds_succ]
    go_wp2_with (go_at_call 35; refine (in_any _ _ _ _).mono ?_; rintro e w' ⟨rfl, rfl⟩)
    go_ret
    exact ⟨rfl, Below.refl _ _⟩
  | cons p l =>
    obtain ⟨b, off, rfl, hb, hi⟩ := hx (by simp)
    exact polygon_any b off n c (p :: l) w hn (by subst hn; simp) hbig hi hb
end Go.Proofs.Ythbekbfhpedghaa

/- Where is a point? Package shape's function. -/
namespace Go.Proofs.Ythbekbfhpedghaa
open Go.RowKit Go.Sort
attribute [local go_sem ↓] run_min_mn run_max_mx Go.wp_at_zero Go.wp_at_succ

/-- Coordinates that every sum and product here can bear. -/
def Bd (p : Pt) : Prop := (-60000 ≤ p.1 ∧ p.1 ≤ 60000) ∧ (-60000 ≤ p.2 ∧ p.2 ≤ 60000)
theorem Bd.of_ok {p : Pt} (h : okP p = true) : Bd p := by
  obtain ⟨h1, h2⟩ := okP_bd h
  exact ⟨by omega, by omega⟩
theorem Bd.all {l : List Pt} (h : l.all okP = true) (i : Nat) : Bd (gt l i) := Bd.of_ok (getD_ok h i)
theorem nx_gt (l : List Pt) (i : Nat) : nx l i = gt l ((i + 1) % l.length) := rfl

def on2B (px py ax ay bx by' : Int) : Bool := (cross ax ay bx by' px py == 0) && boxB px py px py ax ay bx by'
theorem on2_same (px py ax ay bx by' : Int) : on2B px py ax ay bx by' = onB ax ay bx by' px py := by
  have e : boxB px py px py ax ay bx by' = (inB px (mn ax bx) (mx ax bx) && inB py (mn ay by') (mx ay by')) := by
    rw [Bool.eq_iff_iff]
    simp only [boxB, inB, Bool.and_eq_true, decide_eq_true_eq]
    have a1 := mn_spec px px
    have a2 := mx_spec px px
    have a3 := mn_spec py py
    have a4 := mx_spec py py
    have a5 := mx_spec (mn px px) (mn ax bx)
    have a6 := mn_spec (mx px px) (mx ax bx)
    have a7 := mx_spec (mn py py) (mn ay by')
    have a8 := mn_spec (mx py py) (mx ay by')
    omega
  unfold on2B onB
  rw [e, Bool.and_assoc]

set_option maxHeartbeats 1000000 in
theorem isOn_any (px py ax ay bx by' : Int) (w : World)
    (h1 : -60000 ≤ px ∧ px ≤ 60000) (h2 : -60000 ≤ py ∧ py ≤ 60000) (h3 : -60000 ≤ ax ∧ ax ≤ 60000) (h4 : -60000 ≤ ay ∧ ay ≤ 60000) (h5 : -60000 ≤ bx ∧ bx ≤ 60000) (h6 : -60000 ≤ by' ∧ by' ≤ 60000) :
    Calls Try.prog 71 #[.agg #[.int .i64 px, .int .i64 py], .agg #[.int .i64 ax, .int .i64 ay], .agg #[.int .i64 bx, .int .i64 by']] w fun e w' =>
      e = .returned (.bool (onB ax ay bx by' px py)) ∧ Below w.heap.size w w' := by
  have C0 := fun W => Lib.hid (turn_any ax ay bx by' px py W h3 h4 h5 h6 h1 h2)
  have C1 := fun W => Lib.hid (box_any px py px py ax ay bx by' W)
  have e : onB ax ay bx by' px py = ((cross ax ay bx by' px py == 0) && boxB px py px py ax ay bx by') := (on2_same ..).symm
  have H := Lib.hid e
  clear e h1 h2 h3 h4 h5 h6
  generalize onB ax ay bx by' px py = r at *
  generalize cross ax ay bx by' px py = x0 at *
  generalize boxB px py px py ax ay bx by' = x1 at *
  go_enter Try.func71, Try.ntmps71
  go_wp2_with fail
  have B := boxed3 w px py ax ay bx by'
  generalize ((w.alloc (Go.Proofs.Ythbekbfhpedghaa.bx px py)).alloc (Go.Proofs.Ythbekbfhpedghaa.bx ax ay)).alloc (Go.Proofs.Ythbekbfhpedghaa.bx bx by') = wr at *
  obtain ⟨P1, P2, P3, hb, hz⟩ := B
  have l1 : w.heap.size < wr.heap.size ∧ w.heap.size + 1 < wr.heap.size ∧ w.heap.size + 1 + 1 < wr.heap.size := by omega
  obtain ⟨a1, a2⟩ := P1
  obtain ⟨b1, b2⟩ := P2
  obtain ⟨c1, c2⟩ := P3
  go_wp2_with fail
  refine ((C0 _).out).mono ?_
  rintro e w1 ⟨rfl, hb1⟩
  obtain ⟨a1, a2⟩ := PtAt.below hb1 l1.1 ⟨a1, a2⟩
  obtain ⟨b1, b2⟩ := PtAt.below hb1 l1.2.1 ⟨b1, b2⟩
  obtain ⟨c1, c2⟩ := PtAt.below hb1 l1.2.2 ⟨c1, c2⟩
  have hbw1 := hb.trans (hb1.mono hb.size)
  clear hb1 hb hz C0
  cases hx : (x0 == 0)
  · go_wp2
    go_ret
    exact ⟨ret_bool (by rw [H.out, hx]; rfl), hbw1⟩
  · go_wp2_with fail
    refine ((C1 _).out).mono ?_
    rintro e w2 ⟨rfl, hb2⟩
    have hbw2 := hbw1.trans (hb2.mono hbw1.size)
    go_wp2
    go_ret
    exact ⟨ret_bool (by rw [H.out, hx]; rfl), hbw2⟩

def leftB (px py ax ay bx by' : Int) : Bool := (decide (py < ay) != decide (py < by')) && (decide (0 < cross ax ay bx by' px py) == decide (ay < by'))

set_option maxHeartbeats 1000000 in
theorem isLeft_any (px py ax ay bx by' : Int) (w : World)
    (h1 : -60000 ≤ px ∧ px ≤ 60000) (h2 : -60000 ≤ py ∧ py ≤ 60000) (h3 : -60000 ≤ ax ∧ ax ≤ 60000) (h4 : -60000 ≤ ay ∧ ay ≤ 60000) (h5 : -60000 ≤ bx ∧ bx ≤ 60000) (h6 : -60000 ≤ by' ∧ by' ≤ 60000) :
    Calls Try.prog 72 #[.agg #[.int .i64 px, .int .i64 py], .agg #[.int .i64 ax, .int .i64 ay], .agg #[.int .i64 bx, .int .i64 by']] w fun e w' =>
      e = .returned (.bool (leftB px py ax ay bx by')) ∧ Below w.heap.size w w' := by
  have C0 := fun W => Lib.hid (turn_any ax ay bx by' px py W h3 h4 h5 h6 h1 h2)
  have e : leftB px py ax ay bx by' = ((decide (py < ay) != decide (py < by')) && (decide (0 < cross ax ay bx by' px py) == decide (ay < by'))) := rfl
  have H := Lib.hid e
  clear e h1 h2 h3 h4 h5 h6
  generalize leftB px py ax ay bx by' = r at *
  generalize cross ax ay bx by' px py = x0 at *
  go_enter Try.func72, Try.ntmps72
  go_upto_region 1 with (fail)
  have B := boxed3 w px py ax ay bx by'
  generalize ((w.alloc (Go.Proofs.Ythbekbfhpedghaa.bx px py)).alloc (Go.Proofs.Ythbekbfhpedghaa.bx ax ay)).alloc (Go.Proofs.Ythbekbfhpedghaa.bx bx by') = wr at *
  obtain ⟨P1, P2, P3, hb, hz⟩ := B
  have l1 : w.heap.size < wr.heap.size ∧ w.heap.size + 1 < wr.heap.size ∧ w.heap.size + 1 + 1 < wr.heap.size := by omega
  obtain ⟨a1, a2⟩ := P1
  obtain ⟨b1, b2⟩ := P2
  obtain ⟨c1, c2⟩ := P3
  have HB := Lib.hid hb
  clear hb hz l1
  go_wp2_with fail
  · have g : (py < ay ↔ py < by') := by assumption
    go_ret
    refine ⟨ret_bool ?_, HB.out⟩
    rw [H.out]; simp [g]
  · have g : ¬(py < ay ↔ py < by') := by assumption
    refine ((C0 _).out).mono ?_
    rintro e w1 ⟨rfl, hb1⟩
    have hbw1 := HB.out.trans (hb1.mono HB.out.size)
    go_wp2
    all_goals
      go_ret
      refine ⟨ret_bool ?_, hbw1⟩
      rw [H.out]
      rfl

def on2At (l : List Pt) (p : Pt) (i : Nat) : Bool := onP (gt l i) (nx l i) p
def left2At (l : List Pt) (p : Pt) (i : Nat) : Bool := leftB p.1 p.2 (gt l i).1 (gt l i).2 (nx l i).1 (nx l i).2
def sideTo (l : List Pt) (p : Pt) : Nat → Int
  | 0 => -1
  | k + 1 => if left2At l p k then - sideTo l p k else sideTo l p k
def whereD (l : List Pt) (p : Pt) : Int := if (List.range l.length).any (on2At l p) then 0 else sideTo l p l.length
theorem sideTo_bd (l : List Pt) (p : Pt) : ∀ k, sideTo l p k = 1 ∨ sideTo l p k = -1
  | 0 => .inr rfl
  | k + 1 => by
    unfold sideTo
    rcases sideTo_bd l p k with h | h <;> rw [h] <;> split <;> simp
theorem whereD_on {l : List Pt} {p : Pt} {k : Nat} (hk : k < l.length) (h : on2At l p k = true) : whereD l p = 0 := by
  unfold whereD
  rw [if_pos (List.any_eq_true.2 ⟨k, List.mem_range.2 hk, h⟩)]
theorem whereD_off {l : List Pt} {p : Pt} (h : ∀ j, j < l.length → on2At l p j = false) : whereD l p = sideTo l p l.length := by
  unfold whereD
  rw [if_neg]
  rw [List.any_eq_true]
  rintro ⟨k, hk, e⟩
  rw [h k (List.mem_range.1 hk)] at e
  cases e

set_option maxRecDepth 100000 in
set_option maxHeartbeats 2000000 in
theorem where_any (b off n c : Nat) (l : List Pt) (p : Pt) (w : World) (hl : l.length = n) (hn : 0 < n) (hn' : n ≤ 100) (h : PtsIn w b off l) (hb : b < w.heap.size) (hbd : ∀ i, Bd (gt l i)) (hp : Bd p) :
    Calls Try.prog 55 #[.slice (some ⟨b, off, none⟩) n c, .agg #[.int .i64 p.1, .int .i64 p.2]] w fun e w' =>
      e = .returned (.int .i64 (whereD l p)) ∧ Below w.heap.size w w' := by
  have HL := Lib.hid hl
  have HP := Lib.hid h
  have HBD := Lib.hid hbd
  have HON : Hid (∀ i, on2At l p i = onB (gt l i).1 (gt l i).2 (nx l i).1 (nx l i).2 p.1 p.2) := Lib.hid fun _ => rfl
  have HLF : Hid (∀ i, left2At l p i = leftB p.1 p.2 (gt l i).1 (gt l i).2 (nx l i).1 (nx l i).2) := Lib.hid fun _ => rfl
  obtain ⟨px, py⟩ := p
  obtain ⟨hp1, hp2⟩ := hp
  clear hl h hbd
  go_enter Try.func55, Try.ntmps55
  go_wp2_with fail
  have B : PtAt (w.alloc (bx px py)) w.heap.size px py := PtAt.new
  have hb0 : Below w.heap.size w (w.alloc (bx px py)) := (Below.refl _ _).alloc (Nat.le_refl _) _
  have hz0 : w.heap.size < (w.alloc (bx px py)).heap.size := by simp
  generalize w.alloc (bx px py) = w0 at *
  generalize hgg : w.heap.size = gg at *
  go_wp2_with fail
  go_loopw [5, 11] (fun s i wr => ∃ k : Nat, k ≤ n ∧ i = .int .i64 k ∧ s = .int .i64 (sideTo l (px, py) k) ∧ (∀ j, j < k → on2At l (px, py) j = false) ∧ Below w0.heap.size w0 wr) (fun _ i _ => n - (intOf i).toNat)
  case atStart => exact ⟨0, Nat.zero_le _, rfl, rfl, by omega, Below.refl _ _⟩
  case round =>
    obtain ⟨k, hk, rfl, rfl, hz, hbr⟩ := hrel
    have HZ := Lib.hid hz
    have hb1 : b < w0.heap.size := Nat.lt_of_lt_of_le hb (hgg ▸ hb0.size)
    have hgr : gg < wr.heap.size := Nat.lt_of_lt_of_le hz0 hbr.size
    have HBW : Hid (Below gg w wr) := Lib.hid (hb0.trans (hbr.mono (hgg ▸ hb0.size)))
    have P0 := PtAt.below hbr hz0 B
    have hbb : b < gg := hgg ▸ hb
    clear hz
    by_cases hlt : k < n
    · have HPw : Hid (PtsIn wr b off l) := Lib.hid (HP.out.below HBW.out hbb)
      have hB : b < wr.heap.size := Nat.lt_of_lt_of_le hb1 hbr.size
      have N := fun W hW => Lib.hid (edge_any b off n c l k W HL.out (by omega) (by omega) (by omega) (HPw.out.below (B := wr.heap.size) hW hB))
      rw [Nat.mod_eq_of_lt hlt] at N
      have d1 := HBD.out k
      have d2 := HBD.out ((k + 1) % l.length)
      rw [← nx_gt] at d2
      have EO := Lib.hid (HON.out k)
      have EL := Lib.hid (HLF.out k)
      have ES : Hid (sideTo l (px, py) (k + 1) = if left2At l (px, py) k then - sideTo l (px, py) k else sideTo l (px, py) k) := Lib.hid rfl
      have sb := sideTo_bd l (px, py) k
      generalize gt l k = p1 at *
      generalize nx l k = p2 at *
      generalize sideTo l (px, py) k = sd at *
      obtain ⟨x, y⟩ := p1
      obtain ⟨qx, qy⟩ := p2
      obtain ⟨d3, d4⟩ := d1
      obtain ⟨d5, d6⟩ := d2
      have TO := fun W => Lib.hid (isOn_any px py x y qx qy W hp1 hp2 d3 d4 d5 d6)
      have TL := fun W => Lib.hid (isLeft_any px py x y qx qy W hp1 hp2 d3 d4 d5 d6)
      clear d3 d4 d5 d6 hp1 hp2
      go_wp2_with fail
      refine ((N _ (Below.refl _ _)).out).mono ?_
      rintro e w1 ⟨rfl, hb1⟩
      go_upto_region 6 with (fail)
      have B2 := boxed2 w1 x y qx qy
      generalize (w1.alloc (Go.Proofs.Ythbekbfhpedghaa.bx x y)).alloc (Go.Proofs.Ythbekbfhpedghaa.bx qx qy) = w2 at *
      obtain ⟨P1, P2, hb2, hz2⟩ := B2
      have hbr2 := hb1.trans (hb2.mono hb1.size)
      have hg0 : gg < w2.heap.size := Nat.lt_of_lt_of_le hgr hbr2.size
      replace P0 := PtAt.below hbr2 hgr P0
      generalize w1.heap.size = g at *
      have hg2 : g + 1 < w2.heap.size := by omega
      clear hb2 hz2 N hb1
      obtain ⟨p1, p2⟩ := P0
      obtain ⟨p3, p4⟩ := P1
      obtain ⟨p5, p6⟩ := P2
      go_wp2_with fail
      refine ((TO _).out).mono ?_
      rintro e w3 ⟨rfl, hb3⟩
      obtain ⟨p1, p2⟩ := PtAt.below hb3 hg0 ⟨p1, p2⟩
      obtain ⟨p3, p4⟩ := PtAt.below hb3 (by omega) ⟨p3, p4⟩
      obtain ⟨p5, p6⟩ := PtAt.below hb3 hg2 ⟨p5, p6⟩
      have hbr3 := hbr2.trans (hb3.mono hbr2.size)
      have HBR3 := Lib.hid (hbr.trans (hbr3.mono hbr.size))
      clear hb3 hbr2 TO hg0 hg2
      cases ho : onB x y qx qy px py
      · have HOF : Hid (on2At l (px, py) k = false) := Lib.hid (EO.out.trans ho)
        go_wp2_with fail
        refine ((TL _).out).mono ?_
        rintro e w4 ⟨rfl, hb4⟩
        have HBR4 := Lib.hid (HBR3.out.trans (hb4.mono HBR3.out.size))
        have HZ1 : Hid (∀ j, j < k + 1 → on2At l (px, py) j = false) := Lib.hid fun j hj => by
          rcases Nat.lt_or_eq_of_le (Nat.le_of_lt_succ hj) with h' | h'
          · exact HZ.out j h'
          · rw [h']; exact HOF.out
        clear hb4 hbr3 TL p1 p2 p3 p4 p5 p6
        cases hf : leftB px py x y qx qy
        · go_wp2_with fail
          go_roundw
          case rel => exact ⟨k + 1, by omega, by go_num, by rw [ES.out, EL.out]; show _ = Value.int .i64 (if leftB px py x y qx qy then _ else _); rw [hf]; rfl, HZ1.out, HBR4.out⟩
          case measure => simp [intOf]; omega
        · go_wp2_with fail
          go_roundw
          case rel => exact ⟨k + 1, by omega, by go_num, by rw [ES.out, EL.out]; show _ = Value.int .i64 (if leftB px py x y qx qy then _ else _); rw [hf]; rfl, HZ1.out, HBR4.out⟩
          case measure => simp [intOf]; omega
      · have HOT : Hid (whereD l (px, py) = 0) := Lib.hid (whereD_on (k := k) (by rw [HL.out]; exact hlt) (EO.out.trans ho))
        go_wp2_with fail
        go_ret
        exact ⟨ret_int HOT.out.symm, by rw [hgg]; exact HBW.out.trans (hbr3.mono (hgg ▸ HBW.out.size))⟩
    · obtain rfl : k = n := by omega
      have HF : Hid (whereD l (px, py) = sideTo l (px, py) k) := Lib.hid (by
        rw [whereD_off (fun j hj => HZ.out j (by rw [HL.out] at hj; exact hj)), HL.out])
      generalize sideTo l (px, py) k = sd at *
      go_wp2_with fail
      go_ret
      exact ⟨ret_int HF.out.symm, by rw [hgg]; exact HBW.out⟩
end Go.Proofs.Ythbekbfhpedghaa
