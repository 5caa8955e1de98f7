/- Package shape's Hull and the reference's find the same; the reference's Same. -/
import Derived.Test.YtnijcdphmibjaaaDevHull
import Derived.Test.YtnijcdphmibjaaaRefHull
namespace Go.Proofs.Ytnijcdphmibjaaa
open Go.RowKit Go.Sort
attribute [local go_sem ↓] run_min_mn run_max_mx Go.wp_at_zero Go.wp_at_succ

/-- What Hull leaves. -/
def HullXTo (l : List Pt) (w : World) (e : Ending) (w' : World) : Prop :=
  Below w.heap.size w w' ∧ ((ptsB l 1 = false ∧ e = .returned (.tuple #[.slice none 0 0, .int .i64 1])) ∨
    (ptsB l 1 = true ∧ ∃ s, s.Perm l ∧ s.Pairwise leP ∧ (((hullL s).length < 3 ∧ e = .returned (.tuple #[.slice none 0 0, .int .i64 6])) ∨
      (3 ≤ (hullL s).length ∧ ∃ v, e = .returned (.tuple #[v, .int .i64 0]) ∧ PtsOwn w' w.heap.size v (hullL s)))))

theorem hullL_len (s : List Pt) : (hullL s).length ≤ 2 * s.length := by
  have h1 := chainW_len s []
  have h2 := chainW_len s.reverse []
  simp only [List.length_nil, List.length_reverse] at h1 h2
  unfold hullL chainW
  simp only [List.length_append, List.length_dropLast, List.length_reverse]
  omega

theorem ptsB_1 {l : List Pt} : ptsB l 1 = true ↔ 1 ≤ l.length ∧ l.length ≤ 32 ∧ l.all okP = true := by
  unfold ptsB
  simp only [Bool.and_eq_true, decide_eq_true_eq]
  exact ⟨fun ⟨⟨a, b⟩, c⟩ => ⟨a, b, c⟩, fun ⟨a, b, c⟩ => ⟨⟨a, b⟩, c⟩⟩

set_option maxRecDepth 100000 in
set_option maxHeartbeats 1000000 in
theorem hullX_any (hS : SortsPts) (hR : ReversesPts) (A : Option Addr) (n c : Nat) (l : List Pt) (w : World) (hn : l.length = n) (hbig : n ≤ 1000000) (hx : PtsAt w A l) :
    Calls Try.prog 32 #[.slice A n c] w (HullXTo l w) := by
  have K := Lib.hid (arePoints_any A n c 1 l w hn hbig (by omega) hx)
  cases hp : ptsB l 1
  · rw [hp] at K
    clear hn hx
    go_enter Try.func32, Try.ntmps32
    go_wp2_with fail
    refine (K.out).mono ?_
    rintro e w' ⟨rfl, hb⟩
    go_wp2
    go_ret2
    exact ⟨hb, .inl ⟨hp, rfl⟩⟩
  · rw [hp] at K
    obtain ⟨q1, q2, q3⟩ := ptsB_1.1 hp
    obtain ⟨b, off, rfl, h3, h4⟩ := hx (by intro e; subst e; simp at q1)
    have S := fun W hW => Lib.hid (hull_any hS hR b off n c l W hn (by omega) (by omega) (h4.below (B := w.heap.size) hW h3) (Nat.lt_of_lt_of_le h3 hW.size) (ok_Bd q3))
    clear hn hx h4 q1 q2 q3
    go_enter Try.func32, Try.ntmps32
    go_wp2_with fail
    refine (K.out).mono ?_
    rintro e w1 ⟨rfl, hb⟩
    go_wp2_with fail
    refine ((S _ hb).out).mono ?_
    rintro e w2 ⟨s, v, hperm, hsort, rfl, ho, hb2⟩
    have hbw := hb.trans (hb2.mono hb.size)
    generalize hm : (hullL s).length = m at *
    obtain ⟨A1, c1, rfl, hc1, hat⟩ := ho.slice_n hm
    have HO := Lib.hid (ho.low hb.size)
    have HH : Hid (s.Perm l ∧ s.Pairwise leP) := Lib.hid ⟨hperm, hsort⟩
    have HM := Lib.hid hm
    clear ho hat hperm hsort hm
    by_cases h3 : m < 3
    · go_wp2_with fail
      go_ret2
      exact ⟨hbw, .inr ⟨hp, s, HH.out.1, HH.out.2, .inl ⟨by rw [HM.out]; exact h3, rfl⟩⟩⟩
    · go_wp2_with fail
      go_ret2
      exact ⟨hbw, .inr ⟨hp, s, HH.out.1, HH.out.2, .inr ⟨by rw [HM.out]; omega, _, rfl, HO.out⟩⟩⟩

theorem flatTo_iff {l : List Pt} (h : 0 < l.length) : flatTo l l.length = true ↔ Flat l (gt l 0) := by
  have gm : ∀ i, i < l.length → gt l i ∈ l := fun i hi => by
    unfold gt; rw [List.getD_eq_getElem?_getD, List.getElem?_eq_getElem hi]; exact List.getElem_mem hi
  have mg : ∀ p ∈ l, ∃ i, i < l.length ∧ gt l i = p := fun p hp => by
    obtain ⟨i, hi, e⟩ := List.getElem_of_mem hp
    exact ⟨i, hi, by unfold gt; rw [List.getD_eq_getElem?_getD, List.getElem?_eq_getElem hi]; exact e⟩
  unfold flatTo flatAt flat0 Flat
  simp only [List.all_eq_true, List.mem_range, beq_iff_eq]
  constructor
  · intro hh a ha b hb
    obtain ⟨i, hi, rfl⟩ := mg a ha
    obtain ⟨k, hk, rfl⟩ := mg b hb
    exact hh i hi k hk
  · intro hh i hi k hk
    exact hh _ (gm i hi) _ (gm k hk)

theorem firstP_iff {a b : Pt} : firstP a b = true ↔ ltP a b := by
  unfold firstP firstB ltP
  simp only [Bool.or_eq_true, Bool.and_eq_true, decide_eq_true_eq, beq_iff_eq]
theorem lowTo_le (l : List Pt) : ∀ k i, i < k → leP (lowTo l k) (gt l i)
  | 0, _, h => by omega
  | k + 1, i, h => by
    unfold lowTo
    split
    · rename_i hf
      have hlt := firstP_iff.1 hf
      rcases Nat.lt_or_eq_of_le (Nat.le_of_lt_succ h) with h | rfl
      · exact leP_trans (.inr hlt) (lowTo_le l k i h)
      · exact leP_refl _
    · rename_i hf
      rcases Nat.lt_or_eq_of_le (Nat.le_of_lt_succ h) with h | rfl
      · exact lowTo_le l k i h
      · rcases leP_total (lowTo l i) (gt l i) with g | g
        · exact g
        · exact absurd (firstP_iff.2 g) hf

/-- Both find the same. -/
theorem hull_both {l s : List Pt} (h0 : 0 < l.length) (hp : s.Perm l) (hs : s.Pairwise leP) :
    (flatTo l l.length = true ↔ (hullL s).length < 3) ∧ (flatTo l l.length = false → Hull l (hullL s) (lowTo l l.length)) := by
  cases s with
  | nil => have := hp.length_eq; simp at this; omega
  | cons x m =>
    have hm : ∀ p, p ∈ l ↔ p ∈ x :: m := fun p => hp.mem_iff.symm
    have hg0 : gt l 0 ∈ l := by
      unfold gt; rw [List.getD_eq_getElem?_getD, List.getElem?_eq_getElem h0]; exact List.getElem_mem h0
    have hlow : lowTo l l.length = x := by
      have h1 := lowTo_mem h0 l.length (Nat.le_refl _)
      have h2 : leP x (lowTo l l.length) := by
        rcases List.mem_cons.1 ((hm _).1 h1) with e | e
        · rw [e]; exact leP_refl _
        · exact (List.pairwise_cons.1 hs).1 _ e
      obtain ⟨i, hi, e⟩ := List.getElem_of_mem ((hm x).2 (by simp))
      have h3 := lowTo_le l l.length i hi
      have e2 : gt l i = x := by unfold gt; rw [List.getD_eq_getElem?_getD, List.getElem?_eq_getElem hi]; exact e
      rw [e2] at h3
      exact leP_anti h3 h2
    rcases hull_ok hs with ⟨h1, h2⟩ | h
    · have hf : flatTo l l.length = true := (flatTo_iff h0).2 (flat_one (fun p hp => h1 p ((hm p).1 hp)) hg0)
      exact ⟨⟨fun _ => by omega, fun _ => hf⟩, fun e => by rw [hf] at e; cases e⟩
    · have h' := h.mem hm
      refine ⟨(flatTo_iff h0).trans (hull_flat h' hg0), fun _ => by rw [hlow]; exact h'⟩

set_option maxRecDepth 100000 in
set_option maxHeartbeats 2000000 in
theorem same_any (A B : Option Addr) (n m c d : Nat) (l r : List Pt) (w : World) (hl : l.length = n) (hn : n ≤ 10000) (hx : PtsAt w A l) (hr : r.length = m) (hm : m ≤ 10000) (hy : PtsAt w B r) :
    Calls Try.prog 34 #[.slice A n c, .slice B m d] w fun e w' => e = .returned (.bool (decide (l = r))) ∧ Below w.heap.size w w' := by
  have HL := Lib.hid hl
  have HR := Lib.hid hr
  have HX := Lib.hid hx
  have HY := Lib.hid hy
  clear hl hr hx hy
  by_cases hnm : n = m
  · subst hnm
    go_enter Try.func34, Try.ntmps34
    go_wp2_with fail
    go_loopw [5] (fun i wr => ∃ k : Nat, k ≤ n ∧ i = .int .i64 k ∧ l.take k = r.take k ∧ Below w.heap.size w wr) (fun i _ => n - (intOf i).toNat)
    case atStart => exact ⟨0, Nat.zero_le _, rfl, rfl, Below.refl _ _⟩
    case round =>
      obtain ⟨k, hk, rfl, he, hbw⟩ := hrel
      have HE := Lib.hid he
      clear he
      by_cases hlt : k < n
      · have hkl : k < l.length := by rw [HL.out]; exact hlt
        have hkr : k < r.length := by rw [HR.out]; exact hlt
        obtain ⟨b, off, rfl, hb, hin⟩ := HX.out (by intro e; subst e; simp at hkl)
        obtain ⟨b', off', rfl, hb', hin'⟩ := HY.out (by intro e; subst e; simp at hkr)
        obtain ⟨h1, h2⟩ := (hin.below hbw hb) k _ (List.getElem?_eq_getElem hkl)
        obtain ⟨h3, h4⟩ := (hin'.below hbw hb') k _ (List.getElem?_eq_getElem hkr)
        have HT : Hid (l[k] = r[k] → l.take (k + 1) = r.take (k + 1)) := Lib.hid fun e => by
          rw [List.take_succ_eq_append_getElem hkl, List.take_succ_eq_append_getElem hkr, HE.out, e]
        have HF : Hid (l[k] ≠ r[k] → l ≠ r) := Lib.hid fun e e2 => by subst e2; exact e rfl
        clear hin hin'
        generalize l[k] = p at *
        generalize r[k] = q at *
        obtain ⟨x, y⟩ := p
        obtain ⟨u, v⟩ := q
        have gp := guard_pt
        have ep := eq_pt x y u v
        have t1 := cell_regrown h1
        have t2 := cell_regrown h2
        have t3 := cell_regrown h3
        have t4 := cell_regrown h4
        clear h1 h2 h3 h4
        cases he : eqI x y u v
        · have HD : Hid (decide (l = r) = false) := Lib.hid (decide_eq_false (HF.out (fun e => by rw [eqI_iff.2 e] at he; cases he)))
          go_wp2_with fail
          refine wp_region_quiet_below (by kernel_rfl) (by kernel_rfl) ?_
          repeat (go_big_quiet_step (fail))
          refine wpQuiet_nil ?_
          intro _ hw'
          obtain ⟨⟨dq, osq⟩, hw''⟩ := hw'
          subst hw''
          have HBE := Lib.hid (hbw.trans ((below_regrown wr dq osq).mono hbw.size))
          go_wp2_with fail
          go_ret
          exact ⟨ret_bool HD.out.symm, HBE.out⟩
        · have HT2 := Lib.hid (HT.out (eqI_iff.1 he))
          go_wp2_with fail
          refine wp_region_quiet_below (by kernel_rfl) (by kernel_rfl) ?_
          repeat (go_big_quiet_step (fail))
          refine wpQuiet_nil ?_
          intro _ hw'
          obtain ⟨⟨dq, osq⟩, hw''⟩ := hw'
          subst hw''
          have HBE := Lib.hid (hbw.trans ((below_regrown wr dq osq).mono hbw.size))
          go_wp2_with fail
          go_roundw
          case rel => exact ⟨k + 1, by omega, by go_num, HT2.out, HBE.out⟩
          case measure => simp [intOf]; omega
      · obtain rfl : k = n := by omega
        have HD : Hid (decide (l = r) = true) := Lib.hid (decide_eq_true (by
          have := HE.out
          rwa [List.take_of_length_le (by rw [HL.out]; omega), List.take_of_length_le (by rw [HR.out]; omega)] at this))
        go_wp2_with fail
        go_ret
        exact ⟨ret_bool HD.out.symm, hbw⟩
  · have HD : Hid (decide (l = r) = false) := Lib.hid (decide_eq_false (fun e => hnm (by rw [← HL.out, ← HR.out, e])))
    go_enter Try.func34, Try.ntmps34
    go_wp2
    go_ret
    exact ⟨ret_bool HD.out.symm, Below.refl _ _⟩
end Go.Proofs.Ytnijcdphmibjaaa
