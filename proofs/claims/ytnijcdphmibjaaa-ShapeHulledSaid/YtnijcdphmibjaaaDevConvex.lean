/- Is a polygon convex in normal form? Package shape's function. -/
import Derived.Test.YtnijcdphmibjaaaDevSimple
import Derived.Test.YtnijcdphmibjaaaDevCmp
namespace Go.Proofs.Ytnijcdphmibjaaa
open Go.RowKit Go.Sort
attribute [local go_sem ↓] run_min_mn run_max_mx Go.wp_at_zero Go.wp_at_succ

def cmpQ (a b : Pt) : Int := cmpP a.1 a.2 b.1 b.2
def convex2At (l : List Pt) (i : Nat) : Bool := !(decide (crossP (gt l i) (nx l i) (nx l (i + 1)) ≤ 0) || decide (cmpQ (gt l i) (gt l 0) < 0))
def convex2B (l : List Pt) : Bool := (List.range l.length).all (convex2At l) && simple2B l
theorem convex2B_no {l : List Pt} {k : Nat} (hk : k < l.length) (h : convex2At l k = false) : convex2B l = false := by
  have : (List.range l.length).all (convex2At l) = false := by
    rw [List.all_eq_false]; exact ⟨k, List.mem_range.2 hk, by simp [h]⟩
  simp [convex2B, this]

set_option maxRecDepth 100000 in
set_option maxHeartbeats 2000000 in
theorem isConvex_any (b off n c : Nat) (l : List Pt) (w : World) (hl : l.length = n) (hn : 2 < n) (hn' : n ≤ 100) (h : PtsIn w b off l) (hb : b < w.heap.size) (hok : l.all okP = true) :
    Calls Try.prog 62 #[.slice (some ⟨b, off, none⟩) n c] w fun e w' =>
      e = .returned (.bool (convex2B l)) ∧ Below w.heap.size w w' := by
  have HL := Lib.hid hl
  have HP := Lib.hid h
  have HOK := Lib.hid hok
  have S := fun W hW => Lib.hid (isSimple_any b off n c l W hl hn hn' (h.below (B := w.heap.size) hW hb) (Nat.lt_of_lt_of_le hb hW.size) hok)
  clear hl h hok
  go_enter Try.func62, Try.ntmps62
  go_wp2
  go_loopw [10] (fun i wr => ∃ k : Nat, k ≤ n ∧ i = .int .i64 k ∧ (∀ j, j < k → convex2At l j = true) ∧ Below w.heap.size w wr) (fun i _ => n - (intOf i).toNat)
  case atStart => exact ⟨0, Nat.zero_le _, rfl, by omega, Below.refl _ _⟩
  case round =>
    obtain ⟨k, hk, rfl, hz, hbw⟩ := hrel
    have HZ := Lib.hid hz
    clear hz
    by_cases hlt : k < n
    · have HPw : Hid (PtsIn wr b off l) := Lib.hid (HP.out.below hbw hb)
      have hB : b < wr.heap.size := Nat.lt_of_lt_of_le hb hbw.size
      have N := fun W hW => Lib.hid (edge_any b off n c l k W HL.out (by omega) (by omega) (by omega) (HPw.out.below (B := wr.heap.size) hW hB))
      rw [Nat.mod_eq_of_lt hlt] at N
      have N1 := fun W hW => Lib.hid (edge_any1 b off n c l k W HL.out (by omega) (by omega) (by omega) (HPw.out.below (B := wr.heap.size) hW hB))
      obtain ⟨q0, hq0⟩ : ∃ p, l[0]? = some p := ⟨l[0]'(by rw [HL.out]; omega), List.getElem?_eq_getElem _⟩
      have hqx0 : gt l 0 = q0 := by unfold gt; rw [List.getD_eq_getElem?_getD, hq0]; rfl
      have okp := okP_bd (getD_ok HOK.out k)
      rw [show l.getD k (0, 0) = gt l k from rfl] at okp
      have okq := okP_bd (nx_ok HOK.out k)
      have oks := okP_bd (nx_ok HOK.out (k + 1))
      obtain ⟨z1, z2⟩ := HPw.out 0 q0 hq0
      simp only [Nat.zero_mul, Nat.add_zero] at z1 z2
      have E1 : Hid (convex2At l k = !(decide (crossP (gt l k) (nx l k) (nx l (k + 1)) ≤ 0) || decide (cmpQ (gt l k) q0 < 0))) := Lib.hid (by rw [← hqx0]; rfl)
      clear hq0 hqx0
      generalize gt l ((k + 1) % n) = r at *
      generalize gt l k = p at *
      generalize nx l k = q at *
      generalize nx l (k + 1) = s at *
      obtain ⟨x, y⟩ := p
      obtain ⟨qx, qy⟩ := q
      obtain ⟨rx, ry⟩ := r
      obtain ⟨sx, sy⟩ := s
      obtain ⟨zx, zy⟩ := q0
      have TU := fun W => Lib.hid (turn_any x y qx qy sx sy W (by omega) (by omega) (by omega) (by omega) (by omega) (by omega))
      have TC := fun W => Lib.hid (compare_any x y zx zy W)
      clear okp okq oks
      go_wp2_with fail
      refine ((N _ (Below.refl _ _)).out).mono ?_
      rintro e w1 ⟨rfl, hb1⟩
      go_wp2_with fail
      have B := boxed2 w1 x y qx qy
      generalize (w1.alloc (Go.Proofs.Ytnijcdphmibjaaa.bx x y)).alloc (Go.Proofs.Ytnijcdphmibjaaa.bx qx qy) = w2 at *
      obtain ⟨P1, P2, hb2, hz2⟩ := B
      have hbr2 := hb1.trans (hb2.mono hb1.size)
      generalize w1.heap.size = g at *
      have hg2 : g + 1 < w2.heap.size := by omega
      clear hb2 hz2 N
      refine ((N1 _ hbr2).out).mono ?_
      rintro e w3 ⟨rfl, hb3⟩
      replace P1 := PtAt.below hb3 (by omega) P1
      replace P2 := PtAt.below hb3 (by omega) P2
      have hbr3 := hbr2.trans (hb3.mono hbr2.size)
      have hg3 : g + 1 < w3.heap.size := by have := hb3.size; omega
      clear hb3 hbr2 hg2 N1
      have B := boxed2 w3 rx ry sx sy
      go_upto_region 6 with (fail)
      generalize (w3.alloc (Go.Proofs.Ytnijcdphmibjaaa.bx rx ry)).alloc (Go.Proofs.Ytnijcdphmibjaaa.bx sx sy) = w4 at *
      obtain ⟨-, P3, hb4, hz4⟩ := B
      replace P1 := PtAt.below hb4 (by omega) P1
      replace P2 := PtAt.below hb4 (by omega) P2
      have hbr4 := hbr3.trans (hb4.mono hbr3.size)
      replace z1 := (hbr4.cell (p := ⟨b, _, none⟩) hB).trans z1
      replace z2 := (hbr4.cell (p := ⟨b, _, none⟩) hB).trans z2
      clear hb4 hz4 hbr3 hg3
      generalize w3.heap.size = g3 at *
      have hbw4 := hbw.trans (hbr4.mono hbw.size)
      obtain ⟨p1, p2⟩ := P1
      obtain ⟨p3, p4⟩ := P2
      obtain ⟨p5, p6⟩ := P3
      have K1 := fun d os => Lib.hid (Calls.regrown_of ((TU (grow (redrawn w4 d) os)).out))
      have K2 := fun d os => Lib.hid (Calls.regrown_of ((TC (grow (redrawn w4 d) os)).out))
      have t1 := cell_regrown p1
      have t2 := cell_regrown p2
      have t3 := cell_regrown p3
      have t4 := cell_regrown p4
      have t5 := cell_regrown p5
      have t6 := cell_regrown p6
      have t7 := cell_regrown z1
      have t8 := cell_regrown z2
      clear p1 p2 p3 p4 p5 p6 z1 z2 TU TC
      have E1' : Hid (convex2At l k = !(decide (cross x y qx qy sx sy ≤ 0) || decide (cmpP x y zx zy < 0))) := E1
      clear E1
      generalize cross x y qx qy sx sy = u at *
      generalize cmpP x y zx zy = v at *
      cases g1 : decide (u ≤ 0)
      · cases g2 : decide (v < 0)
        · have hyes : convex2At l k = true := by rw [E1'.out, g1, g2]; rfl
          have HY := Lib.hid hyes
          clear hyes
          refine wp_region_quiet_below (by kernel_rfl) (by kernel_rfl) ?_
          repeat (go_big_quiet_step (first | (with_reducible exact (K1 _ _).out) | (with_reducible exact (K2 _ _).out)))
          refine wpQuiet_nil ?_
          intro _ hw'
          obtain ⟨⟨dq, osq⟩, hw''⟩ := hw'
          subst hw''
          go_wp2_with fail
          go_roundw
          case rel => exact ⟨k + 1, by omega, by go_num, fun j hj => by
            rcases Nat.lt_or_eq_of_le (Nat.le_of_lt_succ hj) with h' | h'
            · exact HZ.out j h'
            · rw [h']; exact HY.out, hbw4.trans ((below_regrown w4 dq osq).mono hbw4.size)⟩
          case measure => simp [intOf]; omega
        · have hno : convex2B l = false := convex2B_no (by rw [HL.out]; exact hlt) (by rw [E1'.out, g2]; simp)
          have HNO := Lib.hid hno
          clear hno
          refine wp_region_quiet_below (by kernel_rfl) (by kernel_rfl) ?_
          repeat (go_big_quiet_step (first | (with_reducible exact (K1 _ _).out) | (with_reducible exact (K2 _ _).out)))
          refine wpQuiet_nil ?_
          intro _ hw'
          obtain ⟨⟨dq, osq⟩, hw''⟩ := hw'
          subst hw''
          go_wp2_with fail
          go_ret
          exact ⟨ret_bool HNO.out.symm, hbw4.trans ((below_regrown w4 dq osq).mono hbw4.size)⟩
      · have hno : convex2B l = false := convex2B_no (by rw [HL.out]; exact hlt) (by rw [E1'.out, g1]; simp)
        have HNO := Lib.hid hno
        clear hno
        refine wp_region_quiet_below (by kernel_rfl) (by kernel_rfl) ?_
        repeat (go_big_quiet_step (first | (with_reducible exact (K1 _ _).out) | (with_reducible exact (K2 _ _).out)))
        refine wpQuiet_nil ?_
        intro _ hw'
        obtain ⟨⟨dq, osq⟩, hw''⟩ := hw'
        subst hw''
        go_wp2_with fail
        go_ret
        exact ⟨ret_bool HNO.out.symm, hbw4.trans ((below_regrown w4 dq osq).mono hbw4.size)⟩
    · obtain rfl : k = n := by omega
      have HF : Hid (convex2B l = simple2B l) := Lib.hid (by
        unfold convex2B
        have : (List.range l.length).all (convex2At l) = true := by
          rw [List.all_eq_true]
          intro i hi
          exact HZ.out i (by have := List.mem_range.1 hi; rw [HL.out] at this; exact this)
        rw [this, Bool.true_and])
      go_wp2_with fail
      refine ((S _ hbw).out).mono ?_
      rintro e w1 ⟨rfl, hb1⟩
      go_wp2_with fail
      go_ret
      exact ⟨ret_bool HF.out.symm, hbw.trans (hb1.mono hbw.size)⟩
end Go.Proofs.Ytnijcdphmibjaaa
