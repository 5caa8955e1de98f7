/- Bags: equal lists, sizes, a slice that repeats one number. -/
import Derived.Test.YthboolnacmpmlaaGreatDoorBagGcd
namespace Go.Proofs.YthboolnacmpmlaaGreatDoor
open Go.RowKit Go.Sort
attribute [local go_sem ↓] run_min_mn run_max_mx

theorem take_eq_succ {xs ys : List Int} {k : Nat} (h1 : k < xs.length) (h2 : k < ys.length) (h : xs.take k = ys.take k) (e : xs[k] = ys[k]) : xs.take (k + 1) = ys.take (k + 1) := by
  rw [List.take_succ_eq_append_getElem h1, List.take_succ_eq_append_getElem h2, h, e]

set_option maxHeartbeats 400000 in
theorem same_any (A B : Option Addr) (n m c d : Nat) (xs ys : List Int) (w : World) (hn : xs.length = n) (hm : ys.length = m) (hbig : n ≤ 1000000 ∧ m ≤ 1000000) (hx : Ints w A xs) (hy : Ints w B ys) :
    Calls Tryz.prog 12 #[.slice A n c, .slice B m d] w fun e w' => e = .returned (.bool (decide (xs = ys))) ∧ Below w.heap.size w w' := by
  obtain ⟨b1, b2⟩ := hbig
  have HN := Lib.hid hn
  have HM := Lib.hid hm
  have HX := Lib.hid hx
  have HY := Lib.hid hy
  clear hn hm hx hy
  cases hne : ((n : Int) != (m : Int))
  · have hnn : n = m := Int.ofNat.inj (by simpa using hne)
    subst hnn
    clear hne
    go_enter Tryz.func12, Tryz.ntmps12
    go_wp2
    go_loopw [5] (fun i wr => ∃ k : Nat, k ≤ n ∧ i = .int .i64 k ∧ xs.take k = ys.take k ∧ Below w.heap.size w wr) (fun i _ => n - (intOf i).toNat)
    case atStart => exact ⟨0, Nat.zero_le _, rfl, rfl, Below.refl _ _⟩
    case round =>
      obtain ⟨k, hk, rfl, ht, hbw⟩ := hrel
      have HT := Lib.hid ht
      clear ht
      by_cases hlt : k < n
      · have l1 : k < xs.length := by have := HN.out; omega
        have l2 : k < ys.length := by have := HM.out; omega
        obtain ⟨b, off, rfl, hx⟩ := (HX.out.below hbw).at_ l1
        obtain ⟨b', off', rfl, hy⟩ := (HY.out.below hbw).at_ l2
        have HE := Lib.hid (take_eq_succ l1 l2 HT.out)
        have HD : Hid (xs[k] ≠ ys[k] → decide (xs = ys) = false) := Lib.hid (fun h => by
          apply decide_eq_false
          rintro rfl
          exact h rfl)
        generalize xs[k] = x at *
        generalize ys[k] = y at *
        clear l1 l2
        have t1 := cell_regrown hx
        have t2 := cell_regrown hy
        clear hx hy
        cases hxy : (x != y)
        · have HXY : Hid (x = y) := Lib.hid (by simpa using hxy)
          go_wp2_with fail
          refine wp_region_quiet_below (by kernel_rfl) (by kernel_rfl) ?_
          repeat (go_big_quiet_step (fail))
          refine wpQuiet_nil ?_
          intro _ hw'
          obtain ⟨⟨dq, osq⟩, hw''⟩ := hw'
          subst hw''
          go_wp2_with fail
          go_roundw
          case rel => exact ⟨k + 1, by omega, by go_num, HE.out HXY.out, hbw.trans ((below_regrown wr dq osq).mono hbw.size)⟩
          case measure => simp [intOf]; omega
        · have HXY : Hid (x ≠ y) := Lib.hid (by simpa using hxy)
          go_wp2_with fail
          refine wp_region_quiet_below (by kernel_rfl) (by kernel_rfl) ?_
          repeat (go_big_quiet_step (fail))
          refine wpQuiet_nil ?_
          intro _ hw'
          obtain ⟨⟨dq, osq⟩, hw''⟩ := hw'
          subst hw''
          go_wp2_with fail
          go_ret
          exact ⟨ret_bool (by rw [HD.out HXY.out]), hbw.trans ((below_regrown wr dq osq).mono hbw.size)⟩
      · have HF : Hid (decide (xs = ys) = true) := Lib.hid (decide_eq_true (by
          have := HT.out
          rw [List.take_of_length_le (by have := HN.out; omega), List.take_of_length_le (by have := HM.out; omega)] at this
          exact this))
        go_wp2_with fail
        go_ret
        exact ⟨ret_bool (by rw [HF.out]), hbw⟩
  · have HF : Hid (decide (xs = ys) = false) := Lib.hid (decide_eq_false (by
      rintro rfl
      have h1 := HN.out
      have h2 := HM.out
      have : n ≠ m := by intro e; subst e; simp at hne
      omega))
    go_enter Tryz.func12, Tryz.ntmps12
    go_wp2
    go_ret
    exact ⟨ret_bool (by rw [HF.out]), Below.refl _ _⟩

theorem inB_wrong (x : Int) : (!inB x 1 2000) = wrongB x := by unfold inB wrongB; rw [Bool.eq_iff_iff]; simp; try omega

set_option maxHeartbeats 400000 in
theorem sizes_any (A : Option Addr) (n c : Nat) (xs : List Int) (w : World) (hn : xs.length = n) (hbig : n ≤ 1000000) (hx : Ints w A xs) :
    Calls Tryz.prog 9 #[.slice A n c] w fun e w' => e = .returned (.bool (sizesB xs)) ∧ w = w' := by
  have HN := Lib.hid hn
  have HX := Lib.hid hx
  have HS : Hid (sizesB xs = (inB n 1 8 && !anyB xs)) := Lib.hid (by subst hn; unfold sizesB inB; congr 1; rw [decide_eq_decide]; omega)
  clear hn hx
  go_enter Tryz.func9, Tryz.ntmps9
  go_wp2
  go_loop [3] (fun i => ∃ k : Nat, k ≤ n ∧ i = .int .i64 k ∧ anyB (xs.take k) = false) (fun i => n - (intOf i).toNat)
  case atStart => exact ⟨0, Nat.zero_le _, rfl, rfl⟩
  case round =>
    obtain ⟨k, hk, rfl, hz⟩ := hrel
    have HZ := Lib.hid hz
    clear hz
    by_cases hlt : k < n
    · have hl : k < xs.length := by have := HN.out; omega
      obtain ⟨b, off, rfl, hc⟩ := HX.out.at_ hl
      have hs : anyB (xs.take (k + 1)) = wrongB xs[k] := by
        rw [List.take_succ_eq_append_getElem hl]
        unfold anyB at *
        rw [List.any_append, HZ.out]; simp
      have hall : wrongB xs[k] = true → anyB xs = true := fun h => by
        unfold anyB
        exact List.any_eq_true.2 ⟨_, List.getElem_mem hl, h⟩
      have HS' := Lib.hid hs
      have HA := Lib.hid hall
      clear hs hall
      generalize xs[k] = x at *
      have hi := inB_wrong x
      cases hw : wrongB x
      · have HW := Lib.hid hw
        have HI : Hid (inB x 1 2000 = true) := Lib.hid (by rw [hw] at hi; simpa using hi)
        clear hw hi
        go_wp2_with (go_at_call 25; refine (in_any _ _ _ _).mono ?_; rintro e w' ⟨rfl, rfl⟩; rw [HI.out])
        go_round
        case rel => exact ⟨k + 1, by omega, by go_num, by rw [HS'.out, HW.out]⟩
        case measure => simp [intOf]; omega
      · have HW := Lib.hid hw
        have HI : Hid (inB x 1 2000 = false) := Lib.hid (by rw [hw] at hi; simpa using hi)
        clear hw hi
        go_wp2_with (go_at_call 25; refine (in_any _ _ _ _).mono ?_; rintro e w' ⟨rfl, rfl⟩; rw [HI.out])
        go_ret
        exact ⟨ret_bool (by rw [HS.out, HA.out HW.out]; simp), rfl⟩
    · have hfull : anyB xs = false := by
        have := HZ.out
        rw [List.take_of_length_le (by have := HN.out; omega)] at this
        exact this
      have HF := Lib.hid hfull
      clear hfull
      go_wp2_with (go_at_call 25; refine (in_any _ _ _ _).mono ?_; rintro e w' ⟨rfl, rfl⟩)
      go_ret
      exact ⟨ret_bool (by rw [HS.out, HF.out]; simp), rfl⟩

end Go.Proofs.YthboolnacmpmlaaGreatDoor
