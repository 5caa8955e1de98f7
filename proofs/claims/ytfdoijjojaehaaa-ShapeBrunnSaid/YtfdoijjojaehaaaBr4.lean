/- Parts of the proof, one after the other: HullTop, HullOne, Lives4, HulledLaw, SumMath, SumWalk, SumEnd, SumConv, SumSelf, SumTop, PtsLim, SumDev, NegDev, MinkKit. -/
import Derived.Test.YtfdoijjojaehaaaBr3
import Derived.Test.YtfdoijjojaehaaaBr2
import Derived.Test.YtfdoijjojaehaaaEngD
import Derived.Test.YtfdoijjojaehaaaChecked
import Derived.KernelRfl
/- Package shape's Hull and the reference's find the same; the reference's Same. -/
namespace Go.Proofs.Ytfdoijjojaehaaa
open Go.RowKit Go.Sort
attribute [local go_sem ↓] run_min_mn run_max_mx Go.wp_at_zero Go.wp_at_succ

/-- What Hull leaves. -/
def HullXTo (l : List Pt) (w : World) (e : Ending) (w' : World) : Prop :=
  Below w.heap.size w w' ∧ ((ptsB l 1 = false ∧ e = .returned (.tuple #[.slice none 0 0, .int .i64 1])) ∨
    (ptsB l 1 = true ∧ ∃ s, s.Perm l ∧ s.Pairwise leP ∧ (((hullL s).length < 3 ∧ e = .returned (.tuple #[.slice none 0 0, .int .i64 6])) ∨
      (3 ≤ (hullL s).length ∧ ∃ v, e = .returned (.tuple #[v, .int .i64 0]) ∧ PtsOwn w' w.heap.size v (hullL s)))))

theorem hullL_len (s : List Pt) : (hullL s).length ≤ 2 * s.length := by
  have h1 := chainW_len s []
  have h2 := chainW_len s.reverse []
  simp only [List.length_nil, List.length_reverse] at h1 h2
  unfold hullL chainW
  simp only [List.length_append, List.length_dropLast, List.length_reverse]
  omega

theorem ptsB_1 {l : List Pt} : ptsB l 1 = true ↔ 1 ≤ l.length ∧ l.length ≤ 32 ∧ l.all okP = true := by
  unfold ptsB
  simp only [Bool.and_eq_true, decide_eq_true_eq]
  exact ⟨fun ⟨⟨a, b⟩, c⟩ => ⟨a, b, c⟩, fun ⟨a, b, c⟩ => ⟨⟨a, b⟩, c⟩⟩

set_option maxRecDepth 100000 in
set_option maxHeartbeats 1000000 in
theorem hullX_any (hS : SortsPts) (hR : ReversesPts) (A : Option Addr) (n c : Nat) (l : List Pt) (w : World) (hn : l.length = n) (hbig : n ≤ 1000000) (hx : PtsAt w A l) :
    Calls Try.prog 15 #[.slice A n c] w (HullXTo l w) := by
  have K := Lib.hid (arePoints_any A n c 1 l w hn hbig (by omega) hx)
  cases hp : ptsB l 1
  · rw [hp] at K
    clear hn hx
    go_enter Try.func15, Try.ntmps15
    go_wp2_with fail
    refine (K.out).mono ?_
    rintro e w' ⟨rfl, hb⟩
    go_wp2
    go_ret2
    exact ⟨hb, .inl ⟨hp, rfl⟩⟩
  · rw [hp] at K
    obtain ⟨q1, q2, q3⟩ := ptsB_1.1 hp
    obtain ⟨b, off, rfl, h3, h4⟩ := hx (by intro e; subst e; simp at q1)
    have S := fun W hW => Lib.hid (hull_any hS hR b off n c l W hn (by omega) (by omega) (h4.below (B := w.heap.size) hW h3) (Nat.lt_of_lt_of_le h3 hW.size) (ok_Bd q3))
    clear hn hx h4 q1 q2 q3
    go_enter Try.func15, Try.ntmps15
    go_wp2_with fail
    refine (K.out).mono ?_
    rintro e w1 ⟨rfl, hb⟩
    go_wp2_with fail
    refine ((S _ hb).out).mono ?_
    rintro e w2 ⟨s, v, hperm, hsort, rfl, ho, hb2⟩
    have hbw := hb.trans (hb2.mono hb.size)
    generalize hm : (hullL s).length = m at *
    obtain ⟨A1, c1, rfl, hc1, hat⟩ := ho.slice_n hm
    have HO := Lib.hid (ho.low hb.size)
    have HH : Hid (s.Perm l ∧ s.Pairwise leP) := Lib.hid ⟨hperm, hsort⟩
    have HM := Lib.hid hm
    clear ho hat hperm hsort hm
    by_cases h3 : m < 3
    · go_wp2_with fail
      go_ret2
      exact ⟨hbw, .inr ⟨hp, s, HH.out.1, HH.out.2, .inl ⟨by rw [HM.out]; exact h3, rfl⟩⟩⟩
    · go_wp2_with fail
      go_ret2
      exact ⟨hbw, .inr ⟨hp, s, HH.out.1, HH.out.2, .inr ⟨by rw [HM.out]; omega, _, rfl, HO.out⟩⟩⟩

theorem flatTo_iff {l : List Pt} (h : 0 < l.length) : flatTo l l.length = true ↔ Flat l (gt l 0) := by
  have gm : ∀ i, i < l.length → gt l i ∈ l := fun i hi => by
    unfold gt; rw [List.getD_eq_getElem?_getD, List.getElem?_eq_getElem hi]; exact List.getElem_mem hi
  have mg : ∀ p ∈ l, ∃ i, i < l.length ∧ gt l i = p := fun p hp => by
    obtain ⟨i, hi, e⟩ := List.getElem_of_mem hp
    exact ⟨i, hi, by unfold gt; rw [List.getD_eq_getElem?_getD, List.getElem?_eq_getElem hi]; exact e⟩
  unfold flatTo flatAt flat0 Flat
  simp only [List.all_eq_true, List.mem_range, beq_iff_eq]
  constructor
  · intro hh a ha b hb
    obtain ⟨i, hi, rfl⟩ := mg a ha
    obtain ⟨k, hk, rfl⟩ := mg b hb
    exact hh i hi k hk
  · intro hh i hi k hk
    exact hh _ (gm i hi) _ (gm k hk)

theorem firstP_iff {a b : Pt} : firstP a b = true ↔ ltP a b := by
  unfold firstP firstB ltP
  simp only [Bool.or_eq_true, Bool.and_eq_true, decide_eq_true_eq, beq_iff_eq]
theorem lowTo_le (l : List Pt) : ∀ k i, i < k → leP (lowTo l k) (gt l i)
  | 0, _, h => by omega
  | k + 1, i, h => by
    unfold lowTo
    split
    · rename_i hf
      have hlt := firstP_iff.1 hf
      rcases Nat.lt_or_eq_of_le (Nat.le_of_lt_succ h) with h | rfl
      · exact leP_trans (.inr hlt) (lowTo_le l k i h)
      · exact leP_refl _
    · rename_i hf
      rcases Nat.lt_or_eq_of_le (Nat.le_of_lt_succ h) with h | rfl
      · exact lowTo_le l k i h
      · rcases leP_total (lowTo l i) (gt l i) with g | g
        · exact g
        · exact absurd (firstP_iff.2 g) hf

/-- Both find the same. -/
theorem hull_both {l s : List Pt} (h0 : 0 < l.length) (hp : s.Perm l) (hs : s.Pairwise leP) :
    (flatTo l l.length = true ↔ (hullL s).length < 3) ∧ (flatTo l l.length = false → Hull l (hullL s) (lowTo l l.length)) := by
  cases s with
  | nil => have := hp.length_eq; simp at this; omega
  | cons x m =>
    have hm : ∀ p, p ∈ l ↔ p ∈ x :: m := fun p => hp.mem_iff.symm
    have hg0 : gt l 0 ∈ l := by
      unfold gt; rw [List.getD_eq_getElem?_getD, List.getElem?_eq_getElem h0]; exact List.getElem_mem h0
    have hlow : lowTo l l.length = x := by
      have h1 := lowTo_mem h0 l.length (Nat.le_refl _)
      have h2 : leP x (lowTo l l.length) := by
        rcases List.mem_cons.1 ((hm _).1 h1) with e | e
        · rw [e]; exact leP_refl _
        · exact (List.pairwise_cons.1 hs).1 _ e
      obtain ⟨i, hi, e⟩ := List.getElem_of_mem ((hm x).2 (by simp))
      have h3 := lowTo_le l l.length i hi
      have e2 : gt l i = x := by unfold gt; rw [List.getD_eq_getElem?_getD, List.getElem?_eq_getElem hi]; exact e
      rw [e2] at h3
      exact leP_anti h3 h2
    rcases hull_ok hs with ⟨h1, h2⟩ | h
    · have hf : flatTo l l.length = true := (flatTo_iff h0).2 (flat_one (fun p hp => h1 p ((hm p).1 hp)) hg0)
      exact ⟨⟨fun _ => by omega, fun _ => hf⟩, fun e => by rw [hf] at e; cases e⟩
    · have h' := h.mem hm
      refine ⟨(flatTo_iff h0).trans (hull_flat h' hg0), fun _ => by rw [hlow]; exact h'⟩

set_option maxRecDepth 100000 in
set_option maxHeartbeats 2000000 in
theorem same_any (A B : Option Addr) (n m c d : Nat) (l r : List Pt) (w : World) (hl : l.length = n) (hn : n ≤ 10000) (hx : PtsAt w A l) (hr : r.length = m) (hm : m ≤ 10000) (hy : PtsAt w B r) :
    Calls Try.prog 16 #[.slice A n c, .slice B m d] w fun e w' => e = .returned (.bool (decide (l = r))) ∧ Below w.heap.size w w' := by
  have HL := Lib.hid hl
  have HR := Lib.hid hr
  have HX := Lib.hid hx
  have HY := Lib.hid hy
  clear hl hr hx hy
  by_cases hnm : n = m
  · subst hnm
    go_enter Try.func16, Try.ntmps16
    go_wp2_with fail
    go_loopw [5] (fun i wr => ∃ k : Nat, k ≤ n ∧ i = .int .i64 k ∧ l.take k = r.take k ∧ Below w.heap.size w wr) (fun i _ => n - (intOf i).toNat)
    case atStart => exact ⟨0, Nat.zero_le _, rfl, rfl, Below.refl _ _⟩
    case round =>
      obtain ⟨k, hk, rfl, he, hbw⟩ := hrel
      have HE := Lib.hid he
      clear he
      by_cases hlt : k < n
      · have hkl : k < l.length := by rw [HL.out]; exact hlt
        have hkr : k < r.length := by rw [HR.out]; exact hlt
        obtain ⟨b, off, rfl, hb, hin⟩ := HX.out (by intro e; subst e; simp at hkl)
        obtain ⟨b', off', rfl, hb', hin'⟩ := HY.out (by intro e; subst e; simp at hkr)
        obtain ⟨h1, h2⟩ := (hin.below hbw hb) k _ (List.getElem?_eq_getElem hkl)
        obtain ⟨h3, h4⟩ := (hin'.below hbw hb') k _ (List.getElem?_eq_getElem hkr)
        have HT : Hid (l[k] = r[k] → l.take (k + 1) = r.take (k + 1)) := Lib.hid fun e => by
          rw [List.take_succ_eq_append_getElem hkl, List.take_succ_eq_append_getElem hkr, HE.out, e]
        have HF : Hid (l[k] ≠ r[k] → l ≠ r) := Lib.hid fun e e2 => by subst e2; exact e rfl
        clear hin hin'
        generalize l[k] = p at *
        generalize r[k] = q at *
        obtain ⟨x, y⟩ := p
        obtain ⟨u, v⟩ := q
        have gp := guard_pt
        have ep := eq_pt x y u v
        have t1 := cell_regrown h1
        have t2 := cell_regrown h2
        have t3 := cell_regrown h3
        have t4 := cell_regrown h4
        clear h1 h2 h3 h4
        cases he : eqI x y u v
        · have HD : Hid (decide (l = r) = false) := Lib.hid (decide_eq_false (HF.out (fun e => by rw [eqI_iff.2 e] at he; cases he)))
          go_wp2_with fail
          refine wp_region_quiet_below (by kernel_rfl) (by kernel_rfl) ?_
          repeat (go_big_quiet_step (fail))
          refine wpQuiet_nil ?_
          intro _ hw'
          obtain ⟨⟨dq, osq⟩, hw''⟩ := hw'
          subst hw''
          have HBE := Lib.hid (hbw.trans ((below_regrown wr dq osq).mono hbw.size))
          go_wp2_with fail
          go_ret
          exact ⟨ret_bool HD.out.symm, HBE.out⟩
        · have HT2 := Lib.hid (HT.out (eqI_iff.1 he))
          go_wp2_with fail
          refine wp_region_quiet_below (by kernel_rfl) (by kernel_rfl) ?_
          repeat (go_big_quiet_step (fail))
          refine wpQuiet_nil ?_
          intro _ hw'
          obtain ⟨⟨dq, osq⟩, hw''⟩ := hw'
          subst hw''
          have HBE := Lib.hid (hbw.trans ((below_regrown wr dq osq).mono hbw.size))
          go_wp2_with fail
          go_roundw
          case rel => exact ⟨k + 1, by omega, by go_num, HT2.out, HBE.out⟩
          case measure => simp [intOf]; omega
      · obtain rfl : k = n := by omega
        have HD : Hid (decide (l = r) = true) := Lib.hid (decide_eq_true (by
          have := HE.out
          rwa [List.take_of_length_le (by rw [HL.out]; omega), List.take_of_length_le (by rw [HR.out]; omega)] at this))
        go_wp2_with fail
        go_ret
        exact ⟨ret_bool HD.out.symm, hbw⟩
  · have HD : Hid (decide (l = r) = false) := Lib.hid (decide_eq_false (fun e => hnm (by rw [← HL.out, ← HR.out, e])))
    go_enter Try.func16, Try.ntmps16
    go_wp2
    go_ret
    exact ⟨ret_bool HD.out.symm, Below.refl _ _⟩
end Go.Proofs.Ytfdoijjojaehaaa

/- Shape: hulls of lists with the same points; what ShapeHulled asks of them. -/
namespace Go.Proofs.Ytfdoijjojaehaaa

theorem gt_mem {l : List Pt} {i : Nat} (h : i < l.length) : gt l i ∈ l := by
  rw [gt_of (List.getElem?_eq_getElem h)]; exact List.getElem_mem h
theorem low_le {l : List Pt} {p : Pt} (h : p ∈ l) : leP (lowTo l l.length) p := by
  obtain ⟨i, hi, e⟩ := List.getElem_of_mem h
  have := lowTo_le l l.length i hi
  rwa [gt_of (List.getElem?_eq_getElem hi), e] at this

theorem hull_facts {l s : List Pt} (hp : s.Perm l) (hs : s.Pairwise leP) (h0 : (0, 0) ∈ l) (h1 : (1, 0) ∈ l) (h2 : (0, 1) ∈ l) :
    3 ≤ (hullL s).length ∧ ∃ s0, Hull l (hullL s) s0 ∧ ∀ p ∈ l, leP s0 p := by
  have hl : 0 < l.length := List.length_pos_of_mem h0
  obtain ⟨a, b⟩ := hull_both hl hp hs
  cases hf : flatTo l l.length
  · refine ⟨?_, _, b hf, fun p hp => low_le hp⟩
    rcases Nat.lt_or_ge (hullL s).length 3 with g | g
    · rw [a.2 g] at hf; cases hf
    · exact g
  · exfalso
    have := ((flatTo_iff hl).1 hf).all h0 h1 h2
    unfold crossP cross at this
    omega

theorem hull_other {P K Q t : List Pt} {k0 : Pt} (h : Hull P K k0) (hlow : ∀ p ∈ P, leP k0 p) (h3 : 3 ≤ K.length) (hQ : ∀ p, p ∈ Q ↔ p ∈ P) (hp : t.Perm Q) (hs : t.Pairwise leP) : hullL t = K := by
  have hk0 : k0 ∈ P := by
    have := (h.edge 0 (by omega)).fst
    rwa [h.first] at this
  have hl : 0 < Q.length := List.length_pos_of_mem ((hQ k0).2 hk0)
  obtain ⟨a, b⟩ := hull_both hl hp hs
  cases hf : flatTo Q Q.length
  · have hh := (b hf).mem (P := Q) (Q := P) (fun p => (hQ p).symm)
    have hm : lowTo Q Q.length ∈ P := (hQ _).1 (lowTo_mem hl _ (Nat.le_refl _))
    have e : lowTo Q Q.length = k0 := leP_anti (low_le ((hQ _).2 hk0)) (hlow _ hm)
    rw [e] at hh
    exact hull_unique hh h
  · exfalso
    have hflat := (flatTo_iff hl).1 hf
    have : Flat P (gt Q 0) := fun x hx y hy => hflat x ((hQ x).2 hx) y ((hQ y).2 hy)
    have := (hull_flat h ((hQ _).1 (gt_mem hl))).1 this
    omega

/-- A hull as an argument. -/
theorem hull_poly {P H : List Pt} {s0 : Pt} (h : Hull P H s0) (h3 : 3 ≤ H.length) (hok : P.all okP = true) (hlen : P.length ≤ 32) : polyB H = true := by
  unfold polyB
  rw [Bool.and_eq_true]
  refine ⟨List.all_eq_true.2 fun p hp => List.all_eq_true.1 hok p (hull_sub h hp), ?_⟩
  have := hull_length h
  rw [inB_true]
  omega

theorem convexB_simple {l : List Pt} (h : convexB l = true) : simpleB l = true := by
  unfold convexB at h
  rw [Bool.and_eq_true] at h
  exact h.1

theorem hull_simpE {H : List Pt} (hp : polyB H = true) (hc : convexB H = true) : simpE H = 0 := by
  have := convexB_simple hc
  rcases simpE_cases H with h | h | h
  · rw [hp] at h; cases h.2
  · have := h.2; simp_all
  · exact h.1

/-- Where finds all points inside or on the edges. -/
theorem hull_whereX {P H : List Pt} {s0 p : Pt} (h : Hull P H s0) (hlow : ∀ p ∈ P, leP s0 p) (h3 : 3 ≤ H.length) (hok : P.all okP = true) (hlen : P.length ≤ 32) (hp : p ∈ P) :
    (whereX H p = 0 ∨ whereX H p = 1) ∧ whereE H p = 0 := by
  have e0 := hull_simpE (hull_poly h h3 hok hlen) (hull_convex h h3 hlow)
  have ev : validB p.1 p.2 10000 = true := List.all_eq_true.1 hok p hp
  refine ⟨?_, ?_⟩
  · unfold whereX
    rw [if_pos ⟨e0, ev⟩, ← where_same]
    exact hull_where h hlow hp
  · unfold whereE
    rw [if_pos e0, if_pos ev]

end Go.Proofs.Ytfdoijjojaehaaa

/- The run of layer 4's lives: at every start it hands back true, and of what was there nothing turns. -/
namespace Go.Proofs.Ytfdoijjojaehaaa
open Go.RowKit (Below)

theorem eng_names : Eng.namesB Try.prog = true := by kernel_rfl
theorem eng_none (f : FuncId) (e : Array Value → Sem Value) (h : (Try.prog.funcs[f]?).isNone = true) : Eng.Entry Try.prog f e := ⟨fun fn h' => by rw [h'] at h; cases h⟩
noncomputable def eng_prims : Eng.Base := Eng.bareOf 1000000 1000001 1000002
theorem eng_ok {ro : Eng.Lo} : Eng.ProgOk Try.prog ro eng_prims :=
  Eng.progOk Try.checked.mixed eng_names (eng_none _ _ (by kernel_rfl)) (eng_none _ _ (by kernel_rfl)) (eng_none _ _ (by kernel_rfl))

theorem lives4_run : Eng.isTrue (Eng.call Try.prog (Eng.lo 0) eng_prims 100000 7 [] (Eng.heapOf [] .nil) 0) = true := by kernel_rfl

theorem lives4_any (w : World) :
    Calls Try.prog 7 #[] w fun e w' => e = .returned (.bool true) ∧ Below w.heap.size w w' :=
  Eng.runs_true (tabs := []) eng_ok lives4_run (by simp) Try.func7 (by kernel_rfl) (Nat.zero_le _) (Nat.le_refl _) (by intro p hp; cases hp) (by simp [Eng.relL])

end Go.Proofs.Ytfdoijjojaehaaa
#print axioms Go.Proofs.Ytfdoijjojaehaaa.lives4_any

/- ShapeHulled: the law's walk. -/
namespace Go.Proofs.Ytfdoijjojaehaaa
open Go.RowKit Go.Sort

theorem PtsIn.drop {w : World} {b off : Nat} {l : List Pt} (h : PtsIn w b off l) (k : Nat) : PtsIn w b (off + k * 2) (l.drop k) := fun i p hp => by
  have := h (k + i) p (by rw [List.getElem?_drop] at hp; exact hp)
  rw [show off + k * 2 + i * 2 = off + (k + i) * 2 by omega]
  exact this
theorem hull_again {P K Q : List Pt} {k0 : Pt} (h : Hull P K k0) (hlow : ∀ p ∈ P, leP k0 p) (h3 : 3 ≤ K.length) (hQ : ∀ p, p ∈ Q ↔ p ∈ P) (hok : P.all okP = true) (hlen : Q.length ≤ 32) {w w' : World} {e : Ending} (hc : HullXTo Q w e w') :
    ∃ v, e = .returned (.tuple #[v, .int .i64 0]) ∧ PtsOwn w' w.heap.size v K ∧ Below w.heap.size w w' := by
  obtain ⟨hb, hc⟩ := hc
  have hk0 : k0 ∈ P := by
    have := (h.edge 0 (by omega)).fst
    rwa [h.first] at this
  have h1 : 1 ≤ Q.length := List.length_pos_of_mem ((hQ k0).2 hk0)
  have hp : ptsB Q 1 = true := ptsB_1.2 ⟨h1, hlen, List.all_eq_true.2 fun p hp => List.all_eq_true.1 hok p ((hQ p).1 hp)⟩
  rcases hc with ⟨q, _⟩ | ⟨_, t, ht, hs, q⟩
  · rw [hp] at q; cases q
  · have e := hull_other h hlow h3 hQ ht hs
    rw [e] at q
    rcases q with ⟨q, _⟩ | ⟨_, v, ev, ho⟩
    · omega
    · exact ⟨v, ev, ho, hb⟩
theorem rot_mem (l : List Pt) (r : Nat) (p : Pt) : p ∈ [] ++ l.drop r ++ l.take r ↔ p ∈ l := by
  rw [List.nil_append, List.mem_append]
  constructor
  · rintro (h | h)
    · exact List.mem_of_mem_drop h
    · exact List.mem_of_mem_take h
  · intro h
    rw [← List.take_append_drop r l, List.mem_append] at h
    exact h.symm
def memB (l : List Pt) (t : Nat) (p : Pt) : Bool := (l.take t).any fun z => eqP z p
theorem memB_succ {l : List Pt} {t : Nat} (h : t < l.length) (p : Pt) : memB l (t + 1) p = (memB l t p || eqP l[t] p) := by
  unfold memB
  rw [List.take_succ_eq_append_getElem h, List.any_append]
  simp
theorem memB_all {l : List Pt} {p : Pt} (h : p ∈ l) {t : Nat} (ht : l.length ≤ t) : memB l t p = true := by
  unfold memB
  rw [List.take_of_length_le ht, List.any_eq_true]
  exact ⟨p, h, by simp [eqP, eqI]⟩
def triL : List Pt := [(0, 0), (1, 0), (0, 1)]
theorem tri_at (w : World) : PtsAt (w.alloc (.cells #[.int .i64 0, .int .i64 0, .int .i64 1, .int .i64 0, .int .i64 0, .int .i64 1] 33)) (some ⟨w.heap.size, 0, none⟩) triL := fun _ =>
  ⟨w.heap.size, 0, rfl, by simp, PtBlk.pts (l := triL) (show PtBlk _ _ triL from heap_alloc_new _ _)⟩
theorem fold_ok (xs : List Pt) : (foldL xs).all okP = true := List.all_eq_true.2 fun p hp => by
  unfold foldL at hp
  obtain ⟨q, _, rfl⟩ := List.mem_map.1 hp
  have a := tmod_bd q.1
  have b := tmod_bd q.2
  unfold okP validB tmP
  simp only [inB]
  simp
  omega

end Go.Proofs.Ytfdoijjojaehaaa

/- Shape: the merge of two convex chains, one step: mathematics of Sum. -/
namespace Go.Proofs.Ytfdoijjojaehaaa

theorem xr_mid {d ea eb v : Pt} (h1 : 0 < xr d eb) (h2 : 0 ≤ xr d ea) (h3 : 0 ≤ xr ea eb) (h4 : 0 ≤ xr d v) (h5 : 0 ≤ xr eb v) : 0 ≤ xr ea v := by
  have id : xr d eb * xr ea v = xr ea eb * xr d v + xr d ea * xr eb v := by unfold xr; grind
  have a := Int.mul_nonneg h3 h4
  have b := Int.mul_nonneg h2 h5
  exact nonneg_of_mul h1 id (by omega)
theorem xr_same {d ea eb f : Pt} (h1 : 0 < xr d eb) (h2 : 0 < xr d ea) (h3 : xr ea eb = 0) (h4 : 0 < xr eb f) : 0 < xr ea f := by
  have id : xr d eb * xr ea f = xr ea eb * xr d f + xr d ea * xr eb f := by unfold xr; grind
  rw [h3, Int.zero_mul, Int.zero_add] at id
  exact pos_of_mul h1 id (Int.mul_pos h2 h4)

/-- The edge that begins at a corner. -/
def ev (a : List Pt) (i : Nat) : Pt := subP (vtx a (i + 1)) (vtx a i)

/-- A direction that both chains have not passed yet, with both corners on its outer side. -/
structure Sweep (a b : List Pt) (i j : Nat) (d : Pt) : Prop where
  onA : ∀ x ∈ a, 0 ≤ xr d (subP x (vtx a i))
  onB : ∀ y ∈ b, 0 ≤ xr d (subP y (vtx b j))
  nextA : 0 < xr d (ev a i)
  nextB : 0 < xr d (ev b j)

/-- A convex polygon: its own hull, with strict turns. -/
structure Conv (a : List Pt) (a0 : Pt) : Prop where
  hull : Hull a a a0
  three : 3 ≤ a.length
  low : ∀ p ∈ a, leP a0 p

theorem Conv.left {a : List Pt} {a0 : Pt} (h : Conv a a0) (i : Nat) {x : Pt} (hx : x ∈ a) : 0 ≤ xr (ev a i) (subP x (vtx a i)) := by
  have := ((h.hull.edgeV i).ok x hx).nonneg
  rwa [crossP_xr] at this
theorem Conv.left2 {a : List Pt} {a0 : Pt} (h : Conv a a0) (i : Nat) {x : Pt} (hx : x ∈ a) : 0 ≤ xr (ev a i) (subP x (vtx a (i + 1))) := by
  have := ((h.hull.edgeV i).ok x hx).nonneg
  rwa [crossP_xr2] at this
theorem Conv.vne {a : List Pt} {a0 : Pt} (h : Conv a a0) (i : Nat) : vtx a (i + 1 + 1) ≠ vtx a i := by
  have three := h.three
  intro e
  have e' := hull_inj h.hull (Nat.mod_lt _ (by omega)) (Nat.mod_lt _ (by omega)) (show gt a ((i + 1 + 1) % a.length) = gt a (i % a.length) from e)
  have h1 : (i + 1 + 1 - i) % a.length = 0 := by
    have := (Nat.sub_mod_eq_zero_of_mod_eq e')
    exact this
  rw [show i + 1 + 1 - i = 2 by omega, Nat.mod_eq_of_lt (by omega)] at h1
  omega
theorem Conv.turn {a : List Pt} {a0 : Pt} (h : Conv a a0) (i : Nat) : 0 < xr (ev a i) (ev a (i + 1)) := by
  have E := h.hull.edgeV i
  have F := h.hull.edgeV (i + 1)
  have k := E.ok _ F.snd
  have e : crossP (vtx a i) (vtx a (i + 1)) (vtx a (i + 1 + 1)) = xr (ev a i) (ev a (i + 1)) := crossP_xr2 _ _ _
  rcases k with k | k
  · rwa [e] at k
  · rcases hedge_between E (h.hull.edgeV (i + 1 + 1)) k with q | q
    · exact absurd q (h.vne i)
    · exact absurd q.symm F.ne
theorem Conv.vmem {a : List Pt} {a0 : Pt} (h : Conv a a0) (i : Nat) : vtx a i ∈ a := vtx_mem (by have := h.three; omega) i

theorem subP_add (x y z : Pt) : xr x (subP y z) = xr x y - xr x z := by unfold xr subP; grind
theorem xr_swap (u v : Pt) : xr u v = - xr v u := by unfold xr; grind

theorem Sweep.swap {a b : List Pt} {i j : Nat} {d : Pt} (h : Sweep a b i j d) : Sweep b a j i d := ⟨h.onB, h.onA, h.nextB, h.nextA⟩

/-- The first one's edge supports the second one, too. -/
theorem Sweep.side {a b : List Pt} {a0 b0 : Pt} (ca : Conv a a0) (cb : Conv b b0) {i j : Nat} {d : Pt} (h : Sweep a b i j d) (ho : 0 ≤ xr (ev a i) (ev b j)) {y : Pt} (hy : y ∈ b) : 0 ≤ xr (ev a i) (subP y (vtx b j)) :=
  xr_mid h.nextB (by have := h.nextA; omega) ho (h.onB y hy) (cb.left j hy)

theorem Sweep.stepA {a b : List Pt} {a0 b0 : Pt} (ca : Conv a a0) (cb : Conv b b0) {i j : Nat} {d : Pt} (h : Sweep a b i j d) (ho : 0 < xr (ev a i) (ev b j)) : Sweep a b (i + 1) j (ev a i) :=
  ⟨fun x hx => ca.left2 i hx, fun y hy => h.side ca cb (by omega) hy, ca.turn i, ho⟩
theorem Sweep.stepB {a b : List Pt} {a0 b0 : Pt} (ca : Conv a a0) (cb : Conv b b0) {i j : Nat} {d : Pt} (h : Sweep a b i j d) (ho : xr (ev a i) (ev b j) < 0) : Sweep a b i (j + 1) (ev b j) :=
  (h.swap.stepA cb ca (by rw [xr_swap]; omega)).swap
theorem Sweep.stepAB {a b : List Pt} {a0 b0 : Pt} (ca : Conv a a0) (cb : Conv b b0) {i j : Nat} {d : Pt} (h : Sweep a b i j d) (ho : xr (ev a i) (ev b j) = 0) : Sweep a b (i + 1) (j + 1) (ev a i) := by
  refine ⟨fun x hx => ca.left2 i hx, fun y hy => ?_, ca.turn i, xr_same h.nextB h.nextA ho (cb.turn j)⟩
  have k := h.side ca cb (by omega) hy
  have e : xr (ev a i) (subP y (vtx b (j + 1))) = xr (ev a i) (subP y (vtx b j)) - xr (ev a i) (ev b j) := by unfold ev xr subP; grind
  rw [e, ho]
  omega

def sumP (p q : Pt) : Pt := (p.1 + q.1, p.2 + q.2)
/-- All sums of a point of one list and a point of the other. -/
def sums (a b : List Pt) : List Pt := a.flatMap fun x => b.map fun y => sumP x y
theorem mem_sums {a b : List Pt} {p : Pt} : p ∈ sums a b ↔ ∃ x ∈ a, ∃ y ∈ b, p = sumP x y := by
  unfold sums
  simp only [List.mem_flatMap, List.mem_map]
  constructor
  · rintro ⟨x, hx, y, hy, rfl⟩; exact ⟨x, hx, y, hy, rfl⟩
  · rintro ⟨x, hx, y, hy, rfl⟩; exact ⟨x, hx, y, hy, rfl⟩

theorem zero_vec {d e v : Pt} (h : 0 < xr d e) (h1 : xr d v = 0) (h2 : xr e v = 0) : v = (0, 0) := by
  have k1 : xr d e * v.1 = xr d v * e.1 - xr e v * d.1 := by unfold xr; grind
  have k2 : xr d e * v.2 = xr d v * e.2 - xr e v * d.2 := by unfold xr; grind
  rw [h1, h2, Int.zero_mul, Int.zero_mul, Int.sub_zero] at k1 k2
  exact Prod.ext ((Int.mul_eq_zero.1 k1).resolve_left (by omega)) ((Int.mul_eq_zero.1 k2).resolve_left (by omega))

theorem cross_sum (a a' b x y : Pt) : crossP (sumP a b) (sumP a' b) (sumP x y) = xr (subP a' a) (subP x a) + xr (subP a' a) (subP y b) := by
  unfold crossP cross sumP xr subP; grind
theorem cross_sum2 (a a' b b' x y : Pt) : crossP (sumP a b) (sumP a' b') (sumP x y) = xr (subP a' a) (subP x a) + xr (subP a' a) (subP y b) + (xr (subP b' b) (subP x a) + xr (subP b' b) (subP y b)) := by
  unfold crossP cross sumP xr subP; grind

theorem onP_sum {a a' b x : Pt} (h : onP a a' x = true) : onP (sumP a b) (sumP a' b) (sumP x b) = true := by
  rw [onP_iff] at h ⊢
  unfold sumP
  simp only
  rw [show a'.1 + b.1 - (a.1 + b.1) = a'.1 - a.1 by omega, show a'.2 + b.2 - (a.2 + b.2) = a'.2 - a.2 by omega, show x.1 + b.1 - (a.1 + b.1) = x.1 - a.1 by omega, show x.2 + b.2 - (a.2 + b.2) = x.2 - a.2 by omega]
  exact h

theorem Sweep.edgeA {a b : List Pt} {a0 b0 : Pt} (ca : Conv a a0) (cb : Conv b b0) {i j : Nat} {d : Pt} (h : Sweep a b i j d) (ho : 0 < xr (ev a i) (ev b j)) :
    Hedge (sums a b) (sumP (vtx a i) (vtx b j)) (sumP (vtx a (i + 1)) (vtx b j)) := by
  have E := ca.hull.edgeV i
  refine ⟨fun e => E.ne ?_, fun p hp => ?_, mem_sums.2 ⟨_, ca.vmem i, _, cb.vmem j, rfl⟩, mem_sums.2 ⟨_, ca.vmem (i + 1), _, cb.vmem j, rfl⟩⟩
  · unfold sumP at e
    simp only [Prod.mk.injEq] at e
    exact Prod.ext (by omega) (by omega)
  · obtain ⟨x, hx, y, hy, rfl⟩ := mem_sums.1 hp
    have k1 := ca.left i hx
    have k2 := h.side ca cb (by omega) hy
    have e := cross_sum (vtx a i) (vtx a (i + 1)) (vtx b j) x y
    have e' : crossP (sumP (vtx a i) (vtx b j)) (sumP (vtx a (i + 1)) (vtx b j)) (sumP x y) = xr (ev a i) (subP x (vtx a i)) + xr (ev a i) (subP y (vtx b j)) := e
    by_cases g : 0 < xr (ev a i) (subP x (vtx a i)) + xr (ev a i) (subP y (vtx b j))
    · exact .inl (by rw [e']; exact g)
    · right
      have z1 : xr (ev a i) (subP x (vtx a i)) = 0 := by omega
      have z2 : xr (ev a i) (subP y (vtx b j)) = 0 := by omega
      have ox : onP (vtx a i) (vtx a (i + 1)) x = true := (E.ok x hx).resolve_left fun q => by
        rw [crossP_xr] at q
        have : 0 < xr (ev a i) (subP x (vtx a i)) := q
        omega
      have id : xr d (ev b j) * xr (ev a i) (subP y (vtx b j)) = xr (ev a i) (ev b j) * xr d (subP y (vtx b j)) + xr d (ev a i) * xr (ev b j) (subP y (vtx b j)) := by unfold xr; grind
      rw [z2, Int.mul_zero] at id
      have m1 := Int.mul_nonneg (Int.le_of_lt ho) (h.onB y hy)
      have m2 := Int.mul_nonneg (Int.le_of_lt h.nextA) (cb.left j hy)
      have y1 := (Int.mul_eq_zero.1 (show xr (ev a i) (ev b j) * xr d (subP y (vtx b j)) = 0 by omega)).resolve_left (by omega)
      have y2 := (Int.mul_eq_zero.1 (show xr d (ev a i) * xr (ev b j) (subP y (vtx b j)) = 0 by omega)).resolve_left (by have := h.nextA; omega)
      have hv := zero_vec h.nextB y1 y2
      have hy' : y = vtx b j := by
        unfold subP at hv
        simp only [Prod.mk.injEq] at hv
        exact Prod.ext (by omega) (by omega)
      rw [hy']
      exact onP_sum ox

theorem sumP_comm (p q : Pt) : sumP p q = sumP q p := by unfold sumP; simp only [Prod.mk.injEq]; omega
theorem Hedge.iff {P Q : List Pt} (h : ∀ p, p ∈ P ↔ p ∈ Q) {a b : Pt} (k : Hedge P a b) : Hedge Q a b := k.mem fun p => (h p).symm
theorem sums_comm (a b : List Pt) (p : Pt) : p ∈ sums a b ↔ p ∈ sums b a := by
  rw [mem_sums, mem_sums]
  constructor
  · rintro ⟨x, hx, y, hy, rfl⟩; exact ⟨y, hy, x, hx, sumP_comm _ _⟩
  · rintro ⟨x, hx, y, hy, rfl⟩; exact ⟨y, hy, x, hx, sumP_comm _ _⟩
theorem Sweep.edgeB {a b : List Pt} {a0 b0 : Pt} (ca : Conv a a0) (cb : Conv b b0) {i j : Nat} {d : Pt} (h : Sweep a b i j d) (ho : xr (ev a i) (ev b j) < 0) :
    Hedge (sums a b) (sumP (vtx a i) (vtx b j)) (sumP (vtx a i) (vtx b (j + 1))) := by
  have k := (h.swap.edgeA cb ca (by rw [xr_swap]; omega)).iff (fun p => sums_comm b a p)
  rwa [sumP_comm, sumP_comm (vtx b (j + 1))] at k

theorem btw_sum {u p v q : Int} (h1 : btw u p) (h2 : btw v q) (hs : (0 ≤ p ∧ 0 ≤ q) ∨ (p ≤ 0 ∧ q ≤ 0)) : btw (u + v) (p + q) := by
  unfold btw at *
  omega
theorem same_sign {k m p q : Int} (hk : 0 < k) (hm : 0 < m) (h : k * p = m * q) : (0 ≤ p ∧ 0 ≤ q) ∨ (p ≤ 0 ∧ q ≤ 0) := by
  rcases Int.le_total 0 q with g | g
  · exact .inl ⟨nonneg_of_mul hk h (Int.mul_nonneg (by omega) g), g⟩
  · refine .inr ⟨?_, g⟩
    have : 0 ≤ -p := nonneg_of_mul hk (s := m * -q) (by rw [Int.mul_neg, Int.mul_neg, h]) (Int.mul_nonneg (by omega) (by omega))
    omega

theorem Sweep.edgeAB {a b : List Pt} {a0 b0 : Pt} (ca : Conv a a0) (cb : Conv b b0) {i j : Nat} {d : Pt} (h : Sweep a b i j d) (ho : xr (ev a i) (ev b j) = 0) :
    Hedge (sums a b) (sumP (vtx a i) (vtx b j)) (sumP (vtx a (i + 1)) (vtx b (j + 1))) := by
  have E := ca.hull.edgeV i
  have F := cb.hull.edgeV j
  have nA := h.nextA
  have nB := h.nextB
  have p1 : xr d (ev b j) * (ev a i).1 = xr d (ev a i) * (ev b j).1 := by
    have : xr d (ev b j) * (ev a i).1 = xr d (ev a i) * (ev b j).1 + xr (ev a i) (ev b j) * d.1 := by unfold xr; grind
    rw [ho, Int.zero_mul, Int.add_zero] at this; exact this
  have p2 : xr d (ev b j) * (ev a i).2 = xr d (ev a i) * (ev b j).2 := by
    have : xr d (ev b j) * (ev a i).2 = xr d (ev a i) * (ev b j).2 + xr (ev a i) (ev b j) * d.2 := by unfold xr; grind
    rw [ho, Int.zero_mul, Int.add_zero] at this; exact this
  have s1 := same_sign nB nA p1
  have s2 := same_sign nB nA p2
  have ea : ev a i = subP (vtx a (i + 1)) (vtx a i) := rfl
  have eb : ev b j = subP (vtx b (j + 1)) (vtx b j) := rfl
  have hmul : ∀ v, xr d (ev b j) * xr (ev a i) v = xr d (ev a i) * xr (ev b j) v := fun v => by
    have : xr d (ev b j) * xr (ev a i) v = xr d (ev a i) * xr (ev b j) v + xr (ev a i) (ev b j) * xr d v := by unfold xr; grind
    rw [ho, Int.zero_mul, Int.add_zero] at this; exact this
  refine ⟨fun e => ?_, fun p hp => ?_, mem_sums.2 ⟨_, ca.vmem i, _, cb.vmem j, rfl⟩, mem_sums.2 ⟨_, ca.vmem (i + 1), _, cb.vmem (j + 1), rfl⟩⟩
  · have z : ∀ (u v u' v' : Pt), sumP u v = sumP u' v' → subP v' v = (-(subP u' u).1, -(subP u' u).2) := fun u v u' v' e => by
      unfold sumP at e
      unfold subP
      simp only [Prod.mk.injEq] at e ⊢
      omega
    have := z _ _ _ _ e
    rw [← ea, ← eb] at this
    rw [this] at nB
    have : xr d (-(ev a i).1, -(ev a i).2) = - xr d (ev a i) := by unfold xr; grind
    omega
  · obtain ⟨x, hx, y, hy, rfl⟩ := mem_sums.1 hp
    have k1 := ca.left i hx
    have k2 := h.side ca cb (by omega) hy
    have k3 := cb.left j hy
    have k4 := h.swap.side cb ca (by rw [xr_swap]; omega) hx
    have e' : crossP (sumP (vtx a i) (vtx b j)) (sumP (vtx a (i + 1)) (vtx b (j + 1))) (sumP x y) = xr (ev a i) (subP x (vtx a i)) + xr (ev a i) (subP y (vtx b j)) + (xr (ev b j) (subP x (vtx a i)) + xr (ev b j) (subP y (vtx b j))) := cross_sum2 _ _ _ _ _ _
    by_cases g : 0 < crossP (sumP (vtx a i) (vtx b j)) (sumP (vtx a (i + 1)) (vtx b (j + 1))) (sumP x y)
    · exact .inl g
    · right
      have z1 : xr (ev a i) (subP x (vtx a i)) = 0 := by omega
      have z2 : xr (ev b j) (subP y (vtx b j)) = 0 := by omega
      have ox : onP (vtx a i) (vtx a (i + 1)) x = true := (E.ok x hx).resolve_left fun q => by
        rw [crossP_xr] at q
        have : 0 < xr (ev a i) (subP x (vtx a i)) := q
        omega
      have oy : onP (vtx b j) (vtx b (j + 1)) y = true := (F.ok y hy).resolve_left fun q => by
        rw [crossP_xr] at q
        have : 0 < xr (ev b j) (subP y (vtx b j)) := q
        omega
      have g0 : crossP (sumP (vtx a i) (vtx b j)) (sumP (vtx a (i + 1)) (vtx b (j + 1))) (sumP x y) = 0 := by omega
      rw [onP_iff] at ox oy ⊢
      obtain ⟨_, o1, o2⟩ := ox
      obtain ⟨_, o3, o4⟩ := oy
      refine ⟨g0, ?_, ?_⟩
      · have := btw_sum o1 o3 s1
        unfold sumP
        simp only
        rw [show (vtx a (i + 1)).1 + (vtx b (j + 1)).1 - ((vtx a i).1 + (vtx b j).1) = (vtx a (i + 1)).1 - (vtx a i).1 + ((vtx b (j + 1)).1 - (vtx b j).1) by omega, show x.1 + y.1 - ((vtx a i).1 + (vtx b j).1) = x.1 - (vtx a i).1 + (y.1 - (vtx b j).1) by omega]
        exact this
      · have := btw_sum o2 o4 s2
        unfold sumP
        simp only
        rw [show (vtx a (i + 1)).2 + (vtx b (j + 1)).2 - ((vtx a i).2 + (vtx b j).2) = (vtx a (i + 1)).2 - (vtx a i).2 + ((vtx b (j + 1)).2 - (vtx b j).2) by omega, show x.2 + y.2 - ((vtx a i).2 + (vtx b j).2) = x.2 - (vtx a i).2 + (y.2 - (vtx b j).2) by omega]
        exact this

end Go.Proofs.Ytfdoijjojaehaaa

/- Shape: the merge of two convex chains is the hull of all sums. -/
namespace Go.Proofs.Ytfdoijjojaehaaa

/-- How far the merge has come: one step. -/
def mstep (a b : List Pt) (s : Nat × Nat) : Nat × Nat :=
  if 0 < xr (ev a s.1) (ev b s.2) then (s.1 + 1, s.2) else if xr (ev a s.1) (ev b s.2) < 0 then (s.1, s.2 + 1) else (s.1 + 1, s.2 + 1)
def mst (a b : List Pt) : Nat → Nat × Nat
  | 0 => (0, 0)
  | k + 1 => mstep a b (mst a b k)
def mpt (a b : List Pt) (k : Nat) : Pt := sumP (vtx a (mst a b k).1) (vtx b (mst a b k).2)

theorem big_x (l : List Pt) (o : Pt) : ∃ N : Int, 0 < N ∧ ∀ x ∈ l, -N < (subP x o).1 := by
  induction l with
  | nil => exact ⟨1, by omega, by simp⟩
  | cons y l ih =>
    obtain ⟨N, h0, h⟩ := ih
    refine ⟨N + (if (subP y o).1 < 0 then -(subP y o).1 else 0) + 1, by split <;> omega, fun x hx => ?_⟩
    rcases List.mem_cons.1 hx with rfl | hx
    · split <;> omega
    · have := h x hx
      split <;> omega

theorem low_side {l : List Pt} {o : Pt} (h : ∀ p ∈ l, leP o p) {N : Int} (h0 : 0 < N) (hN : ∀ x ∈ l, -N < (subP x o).1) {x : Pt} (hx : x ∈ l) : 0 ≤ xr (N, -1) (subP x o) ∧ (x ≠ o → 0 < xr (N, -1) (subP x o)) := by
  have e : xr (N, -1) (subP x o) = N * (subP x o).2 + (subP x o).1 := by unfold xr; grind
  have k := hN x hx
  rcases h x hx with q | q
  · subst q
    have z : subP o o = (0, 0) := by unfold subP; simp
    refine ⟨by rw [e, z]; simp, fun g => absurd rfl g⟩
  · have pos : 0 < xr (N, -1) (subP x o) := by
      rw [e]
      have hs : 0 < (subP x o).2 ∨ ((subP x o).2 = 0 ∧ 0 < (subP x o).1) := by
        unfold ltP at q; unfold subP; simp only; omega
      rcases hs with hs | ⟨hs1, hs2⟩
      · have : N * 1 ≤ N * (subP x o).2 := Int.mul_le_mul_of_nonneg_left (by omega) (by omega)
        omega
      · rw [hs1]; simp; omega
    exact ⟨by omega, fun _ => pos⟩

theorem sweep_start {a b : List Pt} {a0 b0 : Pt} (ca : Conv a a0) (cb : Conv b b0) : ∃ d, Sweep a b 0 0 d := by
  obtain ⟨N, n0, hN⟩ := big_x a a0
  obtain ⟨M, m0, hM⟩ := big_x b b0
  have hNa : ∀ x ∈ a, -(N + M) < (subP x a0).1 := fun x hx => by have := hN x hx; omega
  have hNb : ∀ x ∈ b, -(N + M) < (subP x b0).1 := fun x hx => by have := hM x hx; omega
  have A := fun x hx => low_side ca.low (N := N + M) (by omega) hNa (x := x) hx
  have B := fun x hx => low_side cb.low (N := N + M) (by omega) hNb (x := x) hx
  have va := ca.hull.vtx0
  have vb := cb.hull.vtx0
  refine ⟨(N + M, -1), ⟨fun x hx => by rw [va]; exact (A x hx).1, fun x hx => by rw [vb]; exact (B x hx).1, ?_, ?_⟩⟩
  · have := (A _ (ca.vmem 1)).2 (fun e => (ca.hull.edgeV 0).ne (by rw [va]; exact e.symm))
    show 0 < xr (N + M, -1) (subP (vtx a 1) (vtx a 0))
    rw [va]; exact this
  · have := (B _ (cb.vmem 1)).2 (fun e => (cb.hull.edgeV 0).ne (by rw [vb]; exact e.symm))
    show 0 < xr (N + M, -1) (subP (vtx b 1) (vtx b 0))
    rw [vb]; exact this

theorem sweep_at {a b : List Pt} {a0 b0 : Pt} (ca : Conv a a0) (cb : Conv b b0) : ∀ k, ∃ d, Sweep a b (mst a b k).1 (mst a b k).2 d
  | 0 => sweep_start ca cb
  | k + 1 => by
    obtain ⟨d, h⟩ := sweep_at ca cb k
    show ∃ d, Sweep a b (mstep a b (mst a b k)).1 (mstep a b (mst a b k)).2 d
    unfold mstep
    by_cases g : 0 < xr (ev a (mst a b k).1) (ev b (mst a b k).2)
    · rw [if_pos g]; exact ⟨_, h.stepA ca cb g⟩
    · rw [if_neg g]
      by_cases g2 : xr (ev a (mst a b k).1) (ev b (mst a b k).2) < 0
      · rw [if_pos g2]; exact ⟨_, h.stepB ca cb g2⟩
      · rw [if_neg g2]; exact ⟨_, h.stepAB ca cb (by omega)⟩

theorem merge_edge {a b : List Pt} {a0 b0 : Pt} (ca : Conv a a0) (cb : Conv b b0) (k : Nat) : Hedge (sums a b) (mpt a b k) (mpt a b (k + 1)) := by
  obtain ⟨d, h⟩ := sweep_at ca cb k
  show Hedge (sums a b) (mpt a b k) (sumP (vtx a (mstep a b (mst a b k)).1) (vtx b (mstep a b (mst a b k)).2))
  unfold mstep mpt
  by_cases g : 0 < xr (ev a (mst a b k).1) (ev b (mst a b k).2)
  · rw [if_pos g]; exact h.edgeA ca cb g
  · rw [if_neg g]
    by_cases g2 : xr (ev a (mst a b k).1) (ev b (mst a b k).2) < 0
    · rw [if_pos g2]; exact h.edgeB ca cb g2
    · rw [if_neg g2]; exact h.edgeAB ca cb (by omega)

theorem merge_hull {a b K : List Pt} {a0 b0 : Pt} (ca : Conv a a0) (cb : Conv b b0) (h : Hull (sums a b) K (sumP a0 b0)) : ∀ k, mpt a b k = vtx K k
  | 0 => by
    rw [h.vtx0]
    show sumP (vtx a 0) (vtx b 0) = _
    rw [ca.hull.vtx0, cb.hull.vtx0]
  | k + 1 => by
    have e := merge_edge ca cb k
    rw [merge_hull ca cb h k] at e
    exact hedge_next e (h.edgeV k)

theorem sumP_low {a b : List Pt} {a0 b0 : Pt} (ca : Conv a a0) (cb : Conv b b0) : ∀ p ∈ sums a b, leP (sumP a0 b0) p := fun p hp => by
  obtain ⟨x, hx, y, hy, rfl⟩ := mem_sums.1 hp
  have h1 := ca.low x hx
  have h2 := cb.low y hy
  unfold leP ltP sumP at *
  rcases h1 with rfl | h1
  · rcases h2 with rfl | h2
    · exact .inl rfl
    · right; simp only; omega
  · rcases h2 with rfl | h2
    · right; simp only; omega
    · right; simp only; omega
/-- Only the two lowest points make the lowest sum. -/
theorem sumP_first {a b : List Pt} {a0 b0 x y : Pt} (ca : Conv a a0) (cb : Conv b b0) (hx : x ∈ a) (hy : y ∈ b) (e : sumP x y = sumP a0 b0) : x = a0 ∧ y = b0 := by
  have h1 := ca.low x hx
  have h2 := cb.low y hy
  unfold leP ltP at h1 h2
  unfold sumP at e
  simp only [Prod.mk.injEq] at e
  rcases h1 with h1 | h1
  · rcases h2 with h2 | h2
    · exact ⟨h1.symm, h2.symm⟩
    · rw [← h1] at e; omega
  · rcases h2 with h2 | h2
    · rw [← h2] at e; omega
    · omega

end Go.Proofs.Ytfdoijjojaehaaa

/- Shape: where the merge of two convex chains ends. -/
namespace Go.Proofs.Ytfdoijjojaehaaa

/-- Vectors of the same direction. -/
def Dir (u v : Pt) : Prop := ∃ p q : Int, 0 < p ∧ 0 < q ∧ p * u.1 = q * v.1 ∧ p * u.2 = q * v.2
theorem Dir.xr {u v : Pt} (h : Dir u v) : ∃ p q : Int, 0 < p ∧ 0 < q ∧ ∀ w, p * xr u w = q * xr v w := by
  obtain ⟨p, q, hp, hq, h1, h2⟩ := h
  refine ⟨p, q, hp, hq, fun w => ?_⟩
  have e : p * Go.Proofs.Ytfdoijjojaehaaa.xr u w - q * Go.Proofs.Ytfdoijjojaehaaa.xr v w = (p * u.1 - q * v.1) * w.2 - (p * u.2 - q * v.2) * w.1 := by unfold Go.Proofs.Ytfdoijjojaehaaa.xr; grind
  rw [h1, h2, Int.sub_self, Int.sub_self, Int.zero_mul, Int.zero_mul] at e
  omega
theorem Dir.two {u u' v : Pt} (h : Dir u v) (k : Dir u' v) : Dir u u' := by
  obtain ⟨p, q, hp, hq, h1, h2⟩ := h
  obtain ⟨r, s, hr, hs, k1, k2⟩ := k
  refine ⟨s * p, q * r, Int.mul_pos hs hp, Int.mul_pos hq hr, ?_, ?_⟩
  · rw [Int.mul_assoc, h1, Int.mul_assoc, k1]; grind
  · rw [Int.mul_assoc, h2, Int.mul_assoc, k2]; grind

/-- No two edges of a hull have the same direction. -/
theorem edges_dir {K : List Pt} {s0 : Pt} (c : Conv K s0) {k k' : Nat} (hk : k < k') (hk' : k' < K.length) (hd : Dir (ev K k) (ev K k')) : False := by
  have E := c.hull.edgeV k
  have F := c.hull.edgeV k'
  obtain ⟨p, q, hp, hq, hx⟩ := hd.xr
  have e1 : crossP (vtx K k) (vtx K (k + 1)) (vtx K k') = xr (ev K k) (subP (vtx K k') (vtx K k)) := crossP_xr _ _ _
  have e2 : crossP (vtx K k') (vtx K (k' + 1)) (vtx K k) = xr (ev K k') (subP (vtx K k) (vtx K k')) := crossP_xr _ _ _
  have n1 := (E.ok _ (c.vmem k')).nonneg
  have n2 := (F.ok _ (c.vmem k)).nonneg
  have n3 : 0 ≤ xr (ev K k) (subP (vtx K k) (vtx K k')) := nonneg_of_mul hp (hx _) (Int.mul_nonneg (by omega) (by rw [← e2]; exact n2))
  have e3 : xr (ev K k) (subP (vtx K k) (vtx K k')) = - xr (ev K k) (subP (vtx K k') (vtx K k)) := by unfold xr subP; grind
  have on : onP (vtx K k) (vtx K (k + 1)) (vtx K k') = true := (E.ok _ (c.vmem k')).resolve_left (by omega)
  rcases hedge_between E F on with g | g
  · rw [vtx_lt hk', vtx_lt (by omega)] at g
    have := hull_inj c.hull hk' (by omega) g
    omega
  · rw [vtx_lt hk', vtx_lt (by omega)] at g
    have := hull_inj c.hull hk' (by omega) g
    subst this
    have t := c.turn k
    have h := hx (ev K (k + 1))
    have z : xr (ev K (k + 1)) (ev K (k + 1)) = 0 := by unfold xr; grind
    rw [z, Int.mul_zero] at h
    have := (Int.mul_eq_zero.1 h).resolve_left (by omega)
    omega

/-- A step that goes on along the first one. -/
def goesA (a b : List Pt) (k : Nat) : Prop := 0 ≤ xr (ev a (mst a b k).1) (ev b (mst a b k).2)
theorem mst_A {a b : List Pt} {k : Nat} (h : goesA a b k) : (mst a b (k + 1)).1 = (mst a b k).1 + 1 := by
  unfold goesA at h
  show (mstep a b (mst a b k)).1 = _
  unfold mstep
  by_cases g : 0 < xr (ev a (mst a b k).1) (ev b (mst a b k).2)
  · rw [if_pos g]
  · rw [if_neg g, if_neg (by omega)]
theorem mst_notA {a b : List Pt} {k : Nat} (h : ¬ goesA a b k) : mst a b (k + 1) = ((mst a b k).1, (mst a b k).2 + 1) := by
  unfold goesA at h
  show mstep a b (mst a b k) = _
  unfold mstep
  rw [if_neg (by omega), if_pos (by omega)]

theorem passed {a b : List Pt} (v : Nat) : ∀ k, v < (mst a b k).1 → ∃ k', k' < k ∧ (mst a b k').1 = v ∧ goesA a b k'
  | 0, h => by have h' : v < 0 := h; omega
  | k + 1, h => by
    by_cases g : goesA a b k
    · rw [mst_A g] at h
      by_cases e : (mst a b k).1 = v
      · exact ⟨k, by omega, e, g⟩
      · obtain ⟨k', h1, h2⟩ := passed (a := a) (b := b) v k (by omega)
        exact ⟨k', by omega, h2⟩
    · rw [mst_notA g] at h
      obtain ⟨k', h1, h2⟩ := passed (a := a) (b := b) v k h
      exact ⟨k', by omega, h2⟩

theorem dir_A {a b K : List Pt} {a0 b0 : Pt} (ca : Conv a a0) (cb : Conv b b0) (h : Hull (sums a b) K (sumP a0 b0)) {k : Nat} (g : goesA a b k) : Dir (ev K k) (ev a (mst a b k).1) := by
  obtain ⟨d, sw⟩ := sweep_at ca cb k
  have e1 := merge_hull ca cb h k
  have e2 := merge_hull ca cb h (k + 1)
  have nA := sw.nextA
  have nB := sw.nextB
  unfold goesA at g
  have hev : ev K k = subP (mpt a b (k + 1)) (mpt a b k) := by unfold ev; rw [← e1, ← e2]
  have e3 : mpt a b (k + 1) = sumP (vtx a (mstep a b (mst a b k)).1) (vtx b (mstep a b (mst a b k)).2) := rfl
  rw [hev, e3]
  unfold mstep mpt
  by_cases q : 0 < xr (ev a (mst a b k).1) (ev b (mst a b k).2)
  · rw [if_pos q]
    refine ⟨1, 1, by omega, by omega, ?_, ?_⟩
    · unfold ev subP sumP; simp only; omega
    · unfold ev subP sumP; simp only; omega
  · rw [if_neg q, if_neg (by omega)]
    have ho : xr (ev a (mst a b k).1) (ev b (mst a b k).2) = 0 := by omega
    generalize (mst a b k).1 = i at *
    generalize (mst a b k).2 = j at *
    have p1 : xr d (ev a i) * (ev b j).1 = xr d (ev b j) * (ev a i).1 := by
      have : xr d (ev b j) * (ev a i).1 = xr d (ev a i) * (ev b j).1 + xr (ev a i) (ev b j) * d.1 := by unfold xr; grind
      rw [ho, Int.zero_mul, Int.add_zero] at this; exact this.symm
    have p2 : xr d (ev a i) * (ev b j).2 = xr d (ev b j) * (ev a i).2 := by
      have : xr d (ev b j) * (ev a i).2 = xr d (ev a i) * (ev b j).2 + xr (ev a i) (ev b j) * d.2 := by unfold xr; grind
      rw [ho, Int.zero_mul, Int.add_zero] at this; exact this.symm
    refine ⟨xr d (ev a i), xr d (ev a i) + xr d (ev b j), nA, by omega, ?_, ?_⟩
    · have e : (subP (sumP (vtx a (i + 1)) (vtx b (j + 1))) (sumP (vtx a i) (vtx b j))).1 = (ev a i).1 + (ev b j).1 := by unfold ev subP sumP; simp only; omega
      rw [e, Int.mul_add, p1, Int.add_mul]
    · have e : (subP (sumP (vtx a (i + 1)) (vtx b (j + 1))) (sumP (vtx a i) (vtx b j))).2 = (ev a i).2 + (ev b j).2 := by unfold ev subP sumP; simp only; omega
      rw [e, Int.mul_add, p2, Int.add_mul]

theorem once_A {a b K : List Pt} {a0 b0 : Pt} (ca : Conv a a0) (cb : Conv b b0) (h : Hull (sums a b) K (sumP a0 b0)) (cK : Conv K (sumP a0 b0)) {k : Nat} (hk : k ≤ K.length) : (mst a b k).1 ≤ a.length := by
  have three := ca.three
  rcases Nat.lt_or_ge a.length (mst a b k).1 with g | g
  · exfalso
    obtain ⟨k1, l1, v1, g1⟩ := passed (a := a) (b := b) a.length k g
    obtain ⟨k0, l0, v0, g0⟩ := passed (a := a) (b := b) 0 k1 (by omega)
    have d1 := dir_A ca cb h g1
    have d0 := dir_A ca cb h g0
    rw [v1] at d1
    rw [v0] at d0
    have e : ev a a.length = ev a 0 := by
      unfold ev
      have x1 := vtx_add a 1
      have x0 := vtx_add a 0
      rw [Nat.zero_add] at x0
      rw [Nat.add_comm] at x1
      rw [x1, x0]
    rw [e] at d1
    exact edges_dir cK l0 (by omega) (d0.two d1)
  · exact g

theorem mst_swap {a b : List Pt} : ∀ k, mst b a k = ((mst a b k).2, (mst a b k).1)
  | 0 => rfl
  | k + 1 => by
    show mstep b a (mst b a k) = ((mstep a b (mst a b k)).2, (mstep a b (mst a b k)).1)
    rw [mst_swap k]
    unfold mstep
    simp only
    rw [xr_swap (ev b _) (ev a _)]
    generalize xr (ev a (mst a b k).1) (ev b (mst a b k).2) = o
    by_cases g : 0 < o
    · rw [if_neg (by omega), if_pos (by omega), if_pos g]
    · rw [if_neg g]
      by_cases g2 : o < 0
      · rw [if_pos (by omega), if_pos g2]
      · rw [if_neg (by omega), if_neg (by omega), if_neg g2]

theorem hull_swap {a b K : List Pt} {a0 b0 : Pt} (h : Hull (sums a b) K (sumP a0 b0)) : Hull (sums b a) K (sumP b0 a0) := by
  rw [sumP_comm b0 a0]
  exact h.mem fun p => sums_comm b a p

theorem not_zero_A {a b : List Pt} {a0 b0 : Pt} (ca : Conv a a0) (cb : Conv b b0) {L : Nat} (h0 : 0 < L) (hz : (mst a b L).1 = 0) (hb : vtx b (mst a b L).2 = b0) : False := by
  have all : ∀ k, k ≤ L → (mst a b k).1 = 0 → (mst a b k).2 = k ∧ (0 < k → xr (ev a 0) (subP (vtx b k) b0) < 0) := by
    intro k
    induction k with
    | zero => intro _ _; exact ⟨rfl, fun h => by omega⟩
    | succ k ih =>
      intro hk hz
      by_cases g : goesA a b k
      · rw [mst_A g] at hz; omega
      · have e := mst_notA g
        rw [e] at hz ⊢
        have hz' : (mst a b k).1 = 0 := hz
        obtain ⟨h1, h2⟩ := ih (by omega) hz'
        refine ⟨by show (mst a b k).2 + 1 = k + 1; rw [h1], fun _ => ?_⟩
        unfold goesA at g
        rw [hz', h1] at g
        have e2 : xr (ev a 0) (subP (vtx b (k + 1)) b0) = xr (ev a 0) (ev b k) + xr (ev a 0) (subP (vtx b k) b0) := by unfold ev xr subP; grind
        rcases Nat.eq_zero_or_pos k with q | q
        · subst q
          have e3 : subP (vtx b 0) b0 = (0, 0) := by rw [cb.hull.vtx0]; unfold subP; simp
          rw [e3] at e2
          have : xr (ev a 0) (0, 0) = 0 := by unfold xr; simp
          omega
        · have := h2 q
          omega
  have down : ∀ k, (mst a b k).1 ≤ (mst a b (k + 1)).1 := fun k => by
    by_cases g : goesA a b k
    · rw [mst_A g]; omega
    · rw [mst_notA g]; exact Nat.le_refl _
  obtain ⟨h1, h2⟩ := all L (Nat.le_refl _) hz
  have := h2 h0
  rw [h1] at hb
  rw [hb] at this
  have e3 : subP b0 b0 = (0, 0) := by unfold subP; simp
  rw [e3] at this
  unfold xr at this
  simp at this

theorem vtx_first {a : List Pt} {a0 : Pt} (c : Conv a a0) {i : Nat} (h : vtx a i = a0) : i % a.length = 0 := by
  have three := c.three
  have e : gt a (i % a.length) = gt a 0 := by rw [c.hull.first]; exact h
  exact hull_inj c.hull (Nat.mod_lt _ (by omega)) (by omega) e

/-- THE MERGE ENDS WHERE THE HULL OF ALL SUMS ENDS. -/
theorem merge_end {a b K : List Pt} {a0 b0 : Pt} (ca : Conv a a0) (cb : Conv b b0) (h : Hull (sums a b) K (sumP a0 b0)) (cK : Conv K (sumP a0 b0)) :
    mst a b K.length = (a.length, b.length) ∧ (∀ k, k ≤ K.length → (mst a b k).1 ≤ a.length ∧ (mst a b k).2 ≤ b.length) ∧ ∀ k, k < K.length → (mst a b k).1 < a.length ∨ (mst a b k).2 < b.length := by
  have t1 := ca.three
  have t2 := cb.three
  have t3 := cK.three
  have le : ∀ k, k ≤ K.length → (mst a b k).1 ≤ a.length ∧ (mst a b k).2 ≤ b.length := fun k hk => by
    refine ⟨once_A ca cb h cK hk, ?_⟩
    have cK' : Conv K (sumP b0 a0) := by rw [sumP_comm]; exact cK
    have := once_A cb ca (hull_swap h) cK' hk
    rwa [mst_swap] at this
  have pt : ∀ k, mpt a b k = sumP a0 b0 → (mst a b k).1 % a.length = 0 ∧ (mst a b k).2 % b.length = 0 ∧ vtx a (mst a b k).1 = a0 ∧ vtx b (mst a b k).2 = b0 := fun k e => by
    obtain ⟨e1, e2⟩ := sumP_first ca cb (ca.vmem _) (cb.vmem _) e
    exact ⟨vtx_first ca e1, vtx_first cb e2, e1, e2⟩
  have eL : mpt a b K.length = sumP a0 b0 := by
    rw [merge_hull ca cb h]
    have := vtx_add K 0
    rw [Nat.zero_add] at this
    rw [this, h.vtx0]
  obtain ⟨m1, m2, v1, v2⟩ := pt _ eL
  obtain ⟨l1, l2⟩ := le K.length (Nat.le_refl _)
  have z : ∀ i n : Nat, i ≤ n → i % n = 0 → i ≠ 0 → i = n := fun i n hi hm h0 => by
    rcases Nat.lt_or_eq_of_le hi with g | g
    · rw [Nat.mod_eq_of_lt g] at hm; omega
    · exact g
  have f1 : (mst a b K.length).1 = a.length := z _ _ l1 m1 fun e => not_zero_A ca cb (by omega) e v2
  have f2 : (mst a b K.length).2 = b.length := z _ _ l2 m2 fun e => not_zero_A cb ca (L := K.length) (by omega) (by rw [mst_swap]; exact e) (by rw [mst_swap]; exact v1)
  refine ⟨Prod.ext f1 f2, le, fun k hk => ?_⟩
  obtain ⟨q1, q2⟩ := le k (by omega)
  rcases Nat.lt_or_ge (mst a b k).1 a.length with g | g
  · exact .inl g
  · rcases Nat.lt_or_ge (mst a b k).2 b.length with g2 | g2
    · exact .inr g2
    · exfalso
      have e1 : (mst a b k).1 = a.length := by omega
      have e2 : (mst a b k).2 = b.length := by omega
      rcases Nat.eq_zero_or_pos k with q | q
      · subst q
        have : (0 : Nat) = a.length := e1
        omega
      · apply h.once k q hk
        have w := merge_hull ca cb h k
        rw [vtx_lt hk] at w
        rw [← w]
        unfold mpt
        have x0 := vtx_add a 0
        have y0 := vtx_add b 0
        rw [Nat.zero_add] at x0 y0
        rw [e1, e2, x0, y0, ca.hull.vtx0, cb.hull.vtx0]

end Go.Proofs.Ytfdoijjojaehaaa

/- Shape: sums of convex polygons are convex polygons. -/
namespace Go.Proofs.Ytfdoijjojaehaaa

theorem leP_leB_trans (a b c : Pt) (h : leB a b = true) (k : leB b c = true) : leB a c = true := leB_iff.2 (leP_trans (leB_iff.1 h) (leB_iff.1 k))
theorem leB_total (a b : Pt) : (leB a b || leB b a) = true := by
  rw [Bool.or_eq_true, leB_iff, leB_iff]
  rcases leP_total a b with h | h
  · exact .inl h
  · exact .inr (.inr h)
theorem sort_of (l : List Pt) : ∃ s : List Pt, s.Perm l ∧ s.Pairwise leP :=
  ⟨l.mergeSort leB, List.mergeSort_perm l leB, (List.pairwise_mergeSort leP_leB_trans leB_total l).imp fun h => leB_iff.1 h⟩

/-- Points that do not lie on one line have a hull. -/
theorem hull_exists {P : List Pt} {k0 a b c : Pt} (hlow : ∀ p ∈ P, leP k0 p) (hk : k0 ∈ P) (ha : a ∈ P) (hb : b ∈ P) (hc : c ∈ P) (hn : crossP a b c ≠ 0) : ∃ K, Hull P K k0 ∧ Conv K k0 := by
  obtain ⟨s, hp, hs⟩ := sort_of P
  have hl : 0 < P.length := List.length_pos_of_mem ha
  obtain ⟨h1, h2⟩ := hull_both hl hp hs
  have hf : flatTo P P.length = false := by
    cases e : flatTo P P.length
    · rfl
    · exact absurd (((flatTo_iff hl).1 e).all ha hb hc) hn
  have h := h2 hf
  have e : lowTo P P.length = k0 := leP_anti (low_le hk) (hlow _ (lowTo_mem hl _ (Nat.le_refl _)))
  rw [e] at h
  refine ⟨hullL s, h, hull_self h, ?_, fun p hp => hlow p (hull_sub h hp)⟩
  rcases Nat.lt_or_ge (hullL s).length 3 with g | g
  · rw [h1.2 g] at hf; cases hf
  · exact g

theorem conv_sums {a b : List Pt} {a0 b0 : Pt} (ca : Conv a a0) (cb : Conv b b0) : ∃ K, Hull (sums a b) K (sumP a0 b0) ∧ Conv K (sumP a0 b0) := by
  have m0 := cb.vmem 0
  have e0 : a0 ∈ a := by have := ca.vmem 0; rwa [ca.hull.vtx0] at this
  have f0 : b0 ∈ b := by rwa [cb.hull.vtx0] at m0
  refine hull_exists (sumP_low ca cb) (mem_sums.2 ⟨_, e0, _, f0, rfl⟩) (mem_sums.2 ⟨_, ca.vmem 0, _, f0, rfl⟩) (mem_sums.2 ⟨_, ca.vmem 1, _, f0, rfl⟩) (mem_sums.2 ⟨_, ca.vmem 2, _, f0, rfl⟩) ?_
  have t := ca.turn 0
  have e : crossP (sumP (vtx a 0) b0) (sumP (vtx a 1) b0) (sumP (vtx a 2) b0) = xr (ev a 0) (ev a (0 + 1)) := by unfold crossP cross ev xr subP sumP; simp only; grind
  omega

/-- The merge, as a list. -/
def merged (a b : List Pt) (L : Nat) : List Pt := (List.range L).map (mpt a b)
theorem merged_hull {a b K : List Pt} {a0 b0 : Pt} (ca : Conv a a0) (cb : Conv b b0) (h : Hull (sums a b) K (sumP a0 b0)) : merged a b K.length = K := by
  refine List.ext_getElem (by simp [merged]) fun i h1 h2 => ?_
  simp only [merged, List.getElem_map, List.getElem_range]
  rw [merge_hull ca cb h, vtx_lt h2, gt_of (List.getElem?_eq_getElem h2)]

/-- A convex polygon in normal form, as the reference finds it, is one here. -/
theorem sums_assoc (a b c : List Pt) (p : Pt) : p ∈ sums (sums a b) c ↔ p ∈ sums a (sums b c) := by
  simp only [mem_sums]
  constructor
  · rintro ⟨x, ⟨u, hu, v, hv, rfl⟩, y, hy, rfl⟩
    refine ⟨u, hu, sumP v y, ⟨v, hv, y, hy, rfl⟩, ?_⟩
    unfold sumP; simp only [Prod.mk.injEq]; omega
  · rintro ⟨x, hx, y, ⟨u, hu, v, hv, rfl⟩, rfl⟩
    refine ⟨sumP x u, ⟨x, hx, u, hu, rfl⟩, v, hv, ?_⟩
    unfold sumP; simp only [Prod.mk.injEq]; omega

end Go.Proofs.Ytfdoijjojaehaaa

/- Shape: a polygon added to itself; negatives. -/
namespace Go.Proofs.Ytfdoijjojaehaaa

theorem xr_self (u : Pt) : xr u u = 0 := by unfold xr; grind
theorem mst_self (a : List Pt) : ∀ k, mst a a k = (k, k)
  | 0 => rfl
  | k + 1 => by
    show mstep a a (mst a a k) = _
    rw [mst_self a k]
    unfold mstep
    simp only [xr_self]
    rfl
def dbl (p : Pt) : Pt := sumP p p
theorem sum_self {a K : List Pt} {a0 : Pt} (ca : Conv a a0) (h : Hull (sums a a) K (sumP a0 a0)) (cK : Conv K (sumP a0 a0)) : K = a.map dbl := by
  have e := (merge_end ca ca h cK).1
  rw [mst_self] at e
  have hl : K.length = a.length := (Prod.mk.inj e).1
  rw [← merged_hull ca ca h, hl]
  refine List.ext_getElem (by simp [merged]) fun i h1 h2 => ?_
  have hi : i < a.length := by simpa using h2
  simp only [merged, List.getElem_map, List.getElem_range]
  unfold mpt
  rw [mst_self]
  simp only
  rw [vtx_lt hi, gt_of (List.getElem?_eq_getElem hi)]
  rfl

theorem getD_dbl (l : List Pt) (i : Nat) : (l.map dbl).getD i (0, 0) = dbl (l.getD i (0, 0)) := by
  rw [List.getD_eq_getElem?_getD, List.getD_eq_getElem?_getD, List.getElem?_map]
  cases l[i]? <;> rfl
theorem area2_dbl (l : List Pt) : area2 (l.map dbl) = 4 * area2 l := by
  have key : ∀ k, area2To (l.map dbl) k = 4 * area2To l k := by
    intro k
    induction k with
    | zero => rfl
    | succ k ih =>
      unfold area2To nx
      rw [ih, List.length_map, getD_dbl, getD_dbl]
      generalize l.getD k (0, 0) = p
      generalize l.getD ((k + 1) % l.length) (0, 0) = q
      unfold dbl sumP
      simp only
      grind
  unfold area2
  rw [List.length_map]
  exact key _

/-- The hull of the negatives of a convex polygon's negatives is the polygon. -/
theorem Hedge.neg {P : List Pt} {a b : Pt} (h : Hedge P a b) : Hedge (P.map negP) (negP a) (negP b) :=
  ⟨fun e => h.ne (negP_inj e), fun p hp => by
    obtain ⟨q, hq, rfl⟩ := List.mem_map.1 hp
    exact LeftOn_neg.2 (h.ok q hq), List.mem_map.2 ⟨_, h.fst, rfl⟩, List.mem_map.2 ⟨_, h.snd, rfl⟩⟩
theorem neg_neg_mem (P : List Pt) (p : Pt) : p ∈ (P.map negP).map negP ↔ p ∈ P := by
  rw [List.map_map]
  simp only [List.mem_map, Function.comp]
  constructor
  · rintro ⟨q, hq, rfl⟩; rwa [negP_negP]
  · intro h; exact ⟨p, h, negP_negP p⟩
/-- The corners of a hull of negatives: all negatives of the corners. -/
theorem hull_neg_mem {P K : List Pt} {a0 k0 : Pt} (ca : Conv P a0) (h : Hull (P.map negP) K k0) (p : Pt) : p ∈ K ↔ p ∈ P.map negP := by
  have two := h.two
  constructor
  · exact hull_sub h
  · intro hp
    -- from k0 on, the corners of K run through the negatives in their order
    have hk : k0 ∈ P.map negP := by
      have := (h.edge 0 (by omega)).fst
      rwa [h.first] at this
    obtain ⟨q0, hq0, e0⟩ := List.mem_map.1 hk
    obtain ⟨t, ht, et⟩ := List.getElem_of_mem hq0
    have step : ∀ k, vtx K k = negP (vtx P (t + k)) := by
      intro k
      induction k with
      | zero => rw [h.vtx0, Nat.add_zero, vtx_lt ht, gt_of (List.getElem?_eq_getElem ht), et, e0]
      | succ k ih =>
        have e1 := h.edgeV k
        have e2 := (ca.hull.edgeV (t + k)).neg
        rw [ih] at e1
        exact hedge_next e1 e2
    obtain ⟨q, hq, rfl⟩ := List.mem_map.1 hp
    obtain ⟨i, hi, rfl⟩ := List.getElem_of_mem hq
    have s := step (i + (P.length - t))
    rw [show t + (i + (P.length - t)) = i + P.length by omega, vtx_add, vtx_lt hi, gt_of (List.getElem?_eq_getElem hi)] at s
    rw [← s]
    exact vtx_mem (by omega) _

end Go.Proofs.Ytfdoijjojaehaaa

/- Shape: what Sum and Negative find, as plain lists: bounds, the order of three, negatives. -/
namespace Go.Proofs.Ytfdoijjojaehaaa

theorem conv_of {P K : List Pt} {k0 : Pt} (h : Hull P K k0) (hlow : ∀ p ∈ P, leP k0 p) (h3 : 3 ≤ K.length) : Conv K k0 :=
  ⟨hull_self h, h3, fun p hp => hlow p (hull_sub h hp)⟩

theorem mst_len (a b : List Pt) : ∀ k, k ≤ (mst a b k).1 + (mst a b k).2
  | 0 => Nat.zero_le _
  | k + 1 => by
    have ih := mst_len a b k
    show k + 1 ≤ (mstep a b (mst a b k)).1 + (mstep a b (mst a b k)).2
    unfold mstep
    split
    · simp only; omega
    · split <;> simp only <;> omega
theorem sum_len {a b K : List Pt} {a0 b0 : Pt} (ca : Conv a a0) (cb : Conv b b0) (h : Hull (sums a b) K (sumP a0 b0)) (cK : Conv K (sumP a0 b0)) : K.length ≤ a.length + b.length := by
  have h1 := mst_len a b K.length
  rw [(merge_end ca cb h cK).1] at h1
  exact h1

/-- The least of a list. -/
theorem min_of (f : Pt → Int) : ∀ (l : List Pt), l ≠ [] → ∃ q ∈ l, ∀ p ∈ l, f q ≤ f p
  | [], h => absurd rfl h
  | [x], _ => ⟨x, by simp, by simp⟩
  | x :: y :: l, _ => by
    obtain ⟨q, hq, hm⟩ := min_of f (y :: l) (by simp)
    by_cases g : f x ≤ f q
    · refine ⟨x, by simp, fun p hp => ?_⟩
      rcases List.mem_cons.1 hp with rfl | hp
      · exact Int.le_refl _
      · exact Int.le_trans g (hm p hp)
    · refine ⟨q, by simp only [List.mem_cons] at hq ⊢; exact .inr hq, fun p hp => ?_⟩
      rcases List.mem_cons.1 hp with rfl | hp
      · omega
      · exact hm p hp

/-- In every direction a corner of the hull is the farthest of all points. -/
theorem Conv.support {P K : List Pt} {k0 : Pt} (h : Hull P K k0) (c : Conv K k0) (d : Pt) : ∃ q ∈ K, ∀ p ∈ P, 0 ≤ xr d (subP p q) := by
  have three := c.three
  obtain ⟨q, hq, hm⟩ := min_of (fun p => xr d p) K (by intro e; rw [e] at three; simp at three)
  refine ⟨q, hq, fun p hp => ?_⟩
  obtain ⟨i, hi, rfl⟩ := List.getElem_of_mem hq
  have e : vtx K i = K[i] := by rw [vtx_lt hi, gt_of (List.getElem?_eq_getElem hi)]
  have e2 : vtx K (i + (K.length - 1) + 1) = K[i] := by rw [show i + (K.length - 1) + 1 = i + K.length by omega, vtx_add, e]
  have t := c.turn (i + (K.length - 1))
  have a1 := ((h.edgeV (i + (K.length - 1))).ok p hp).nonneg
  have a2 := ((h.edgeV i).ok p hp).nonneg
  rw [crossP_xr2] at a1
  rw [crossP_xr] at a2
  have b1 := hm _ (c.vmem (i + (K.length - 1)))
  have b2 := hm _ (c.vmem (i + 1))
  have e3 : vtx K (i + (K.length - 1) + 1 + 1) = vtx K (i + 1) := by rw [show i + (K.length - 1) + 1 + 1 = i + 1 + K.length by omega, vtx_add]
  unfold ev at t
  rw [e3, e2] at t
  rw [e2] at a1
  rw [e] at a2
  generalize vtx K (i + (K.length - 1)) = r at *
  generalize vtx K (i + 1) = s at *
  generalize K[i] = q at *
  have b1' : xr d q ≤ xr d r := b1
  have b2' : xr d q ≤ xr d s := b2
  have id : xr (subP q r) (subP s q) * xr d (subP p q) = xr d (subP s q) * xr (subP q r) (subP p q) + (- xr d (subP q r)) * xr (subP s q) (subP p q) := by unfold xr subP; grind
  have c1 : 0 ≤ xr d (subP s q) := by rw [subP_add]; omega
  have c2 : 0 ≤ - xr d (subP q r) := by rw [subP_add]; omega
  refine nonneg_of_mul t id ?_
  have := Int.mul_nonneg c1 a1
  have := Int.mul_nonneg c2 a2
  omega

/-- The corners of a sum's hull are sums of corners. -/
theorem corner_sum {P K c Y : List Pt} {k0 y0 : Pt} (h : Hull P K k0) (cK : Conv K k0) (hY : Hull (sums P c) Y y0) (cY : Conv Y y0) (i : Nat) : vtx Y i ∈ sums K c := by
  have three := cY.three
  have E1 := hY.edgeV (i + (Y.length - 1))
  have E2 := hY.edgeV i
  have t := cY.turn (i + (Y.length - 1))
  have e2 : vtx Y (i + (Y.length - 1) + 1) = vtx Y i := by rw [show i + (Y.length - 1) + 1 = i + Y.length by omega, vtx_add]
  have e3 : vtx Y (i + (Y.length - 1) + 1 + 1) = vtx Y (i + 1) := by rw [show i + (Y.length - 1) + 1 + 1 = i + 1 + Y.length by omega, vtx_add]
  unfold ev at t
  rw [e3, e2] at t
  rw [e2] at E1
  generalize vtx Y (i + (Y.length - 1)) = r at *
  generalize vtx Y (i + 1) = s at *
  obtain ⟨p, hp, z, hz, e⟩ := mem_sums.1 E2.fst
  generalize vtx Y i = u at *
  obtain ⟨q, hq, hs⟩ := Conv.support h cK (sumP (subP u r) (subP s u))
  have k := hs p hp
  have m : sumP q z ∈ sums P c := mem_sums.2 ⟨q, hull_sub h hq, z, hz, rfl⟩
  have a1 := (E1.ok _ m).nonneg
  have a2 := (E2.ok _ m).nonneg
  rw [crossP_xr2] at a1
  rw [crossP_xr] at a2
  have f : subP (sumP q z) u = subP q p := by rw [e]; unfold subP sumP; simp only [Prod.mk.injEq]; omega
  rw [f] at a1 a2
  have g : xr (sumP (subP u r) (subP s u)) (subP p q) = - xr (subP u r) (subP q p) - xr (subP s u) (subP q p) := by unfold xr sumP subP; grind
  have zero := zero_vec t (v := subP q p) (by omega) (by omega)
  have : q = p := by
    unfold subP at zero
    simp only [Prod.mk.injEq] at zero
    refine Prod.ext ?_ ?_ <;> omega
  rw [e, ← this]
  exact mem_sums.2 ⟨q, hq, z, hz, rfl⟩

theorem hull_corners {P K c Y : List Pt} {k0 y0 : Pt} (h : Hull P K k0) (cK : Conv K k0) (hY : Hull (sums P c) Y y0) (cY : Conv Y y0) : Hull (sums K c) Y y0 := by
  have three := cY.three
  refine ⟨hY.first, hY.two, fun i hi => ?_, hY.once⟩
  have E := hY.edge i hi
  refine ⟨E.ne, fun p hp => E.ok p ?_, ?_, ?_⟩
  · obtain ⟨x, hx, z, hz, rfl⟩ := mem_sums.1 hp
    exact mem_sums.2 ⟨x, hull_sub h hx, z, hz, rfl⟩
  · have := corner_sum h cK hY cY i
    rwa [vtx_lt hi] at this
  · exact corner_sum h cK hY cY (i + 1)

theorem leP_sum {a b x y : Pt} (h1 : leP a x) (h2 : leP b y) : leP (sumP a b) (sumP x y) := by
  rcases h1 with rfl | h1
  · rcases h2 with rfl | h2
    · exact .inl rfl
    · right; unfold ltP sumP at *; simp only at *; omega
  · rcases h2 with rfl | h2
    · right; unfold ltP sumP at *; simp only at *; omega
    · right; unfold ltP sumP at *; simp only at *; omega

/-- The order of three sums plays no part. -/
theorem sum_assoc {a b c K M X W : List Pt} {a0 b0 c0 : Pt} (ca : Conv a a0) (cb : Conv b b0) (cc : Conv c c0)
    (hK : Hull (sums a b) K (sumP a0 b0)) (cK : Conv K (sumP a0 b0)) (hM : Hull (sums b c) M (sumP b0 c0)) (cM : Conv M (sumP b0 c0))
    (hX : Hull (sums K c) X (sumP (sumP a0 b0) c0)) (hW : Hull (sums a M) W (sumP a0 (sumP b0 c0))) : X = W := by
  have e0 : sumP (sumP a0 b0) c0 = sumP a0 (sumP b0 c0) := by unfold sumP; simp only [Prod.mk.injEq]; omega
  have a00 : a0 ∈ a := by have := ca.vmem 0; rwa [ca.hull.vtx0] at this
  have b00 : b0 ∈ b := by have := cb.vmem 0; rwa [cb.hull.vtx0] at this
  have c00 : c0 ∈ c := by have := cc.vmem 0; rwa [cc.hull.vtx0] at this
  have mem3 : ∀ x ∈ a, sumP (sumP x b0) c0 ∈ sums (sums a b) c := fun x hx => mem_sums.2 ⟨_, mem_sums.2 ⟨x, hx, b0, b00, rfl⟩, c0, c00, rfl⟩
  obtain ⟨Y, hY, cY⟩ : ∃ Y, Hull (sums (sums a b) c) Y (sumP (sumP a0 b0) c0) ∧ Conv Y (sumP (sumP a0 b0) c0) := by
    refine hull_exists (fun p hp => ?_) (mem3 a0 a00) (mem3 _ (ca.vmem 0)) (mem3 _ (ca.vmem 1)) (mem3 _ (ca.vmem 2)) ?_
    · obtain ⟨x, hx, z, hz, rfl⟩ := mem_sums.1 hp
      obtain ⟨u, hu, v, hv, rfl⟩ := mem_sums.1 hx
      exact leP_sum (leP_sum (ca.low u hu) (cb.low v hv)) (cc.low z hz)
    · have t := ca.turn 0
      have e : crossP (sumP (sumP (vtx a 0) b0) c0) (sumP (sumP (vtx a 1) b0) c0) (sumP (sumP (vtx a 2) b0) c0) = xr (ev a 0) (ev a (0 + 1)) := by unfold crossP cross ev xr subP sumP; simp only; grind
      omega
  have h1 := hull_unique hX (hull_corners hK cK hY cY)
  have hY2 : Hull (sums (sums b c) a) Y (sumP (sumP a0 b0) c0) := hY.mem fun p => by
    rw [sums_comm (sums b c) a]
    exact (sums_assoc a b c p).symm
  have h2 := hull_corners hM cM hY2 cY
  rw [e0] at h2
  have h3 : Hull (sums a M) Y (sumP a0 (sumP b0 c0)) := h2.mem fun p => sums_comm a M p
  rw [h1, hull_unique hW h3]

/-- The hull of the negatives, and that of their negatives. -/
theorem neg_conv {a s : List Pt} {a0 : Pt} (ca : Conv a a0) (hp : s.Perm (a.map negP)) (hs : s.Pairwise leP) :
    ∃ k0, Hull (a.map negP) (hullL s) k0 ∧ Conv (hullL s) k0 ∧ (hullL s).length ≤ a.length := by
  have three := ca.three
  have hl : 0 < (a.map negP).length := by rw [List.length_map]; omega
  obtain ⟨h1, h2⟩ := hull_both hl hp hs
  have mem : ∀ i, negP (vtx a i) ∈ a.map negP := fun i => List.mem_map.2 ⟨_, ca.vmem i, rfl⟩
  have hf : flatTo (a.map negP) (a.map negP).length = false := by
    cases e : flatTo (a.map negP) (a.map negP).length
    · rfl
    · exfalso
      have k := ((flatTo_iff hl).1 e).all (mem 0) (mem 1) (mem 2)
      rw [crossP_neg] at k
      have t := ca.turn 0
      have e : crossP (vtx a 0) (vtx a 1) (vtx a 2) = xr (ev a 0) (ev a (0 + 1)) := by unfold crossP cross ev xr subP; simp only; grind
      omega
  have h := h2 hf
  have h3 : 3 ≤ (hullL s).length := by
    rcases Nat.lt_or_ge (hullL s).length 3 with g | g
    · rw [h1.2 g] at hf; cases hf
    · exact g
  refine ⟨_, h, conv_of h (fun p hp => low_le hp) h3, ?_⟩
  have := hull_length h
  rwa [List.length_map] at this

theorem neg_back {a K t : List Pt} {a0 k0 : Pt} (ca : Conv a a0) (hK : Hull (a.map negP) K k0) (hp : t.Perm (K.map negP)) (hs : t.Pairwise leP) : hullL t = a := by
  refine hull_other ca.hull ca.low ca.three (Q := K.map negP) (fun p => ?_) hp hs
  rw [← neg_neg_mem a p]
  simp only [List.mem_map]
  constructor
  · rintro ⟨q, hq, rfl⟩
    obtain ⟨r, hr, rfl⟩ := List.mem_map.1 (hull_sub hK hq)
    exact ⟨_, ⟨r, hr, rfl⟩, rfl⟩
  · rintro ⟨q, ⟨r, hr, rfl⟩, rfl⟩
    exact ⟨negP r, (hull_neg_mem ca hK _).2 (List.mem_map.2 ⟨r, hr, rfl⟩), rfl⟩

end Go.Proofs.Ytfdoijjojaehaaa

/- Shape: the law's points up to a limit, nine at most; the law's hull of them and three more. -/
namespace Go.Proofs.Ytfdoijjojaehaaa
open Go.RowKit Go.Sort
attribute [local go_sem ↓] run_min_mn run_max_mx

def tmL (L : Int) (p : Pt) : Pt := (p.1.tmod (L + 1), p.2.tmod (L + 1))
def foldLim (L : Int) (xs : List Pt) : List Pt := xs.map (tmL L)
theorem foldLim_length (L : Int) (xs : List Pt) : (foldLim L xs).length = xs.length := by simp [foldLim]
theorem tmodL_bd {L : Int} (h : 0 ≤ L) (x : Int) : -L ≤ x.tmod (L + 1) ∧ x.tmod (L + 1) ≤ L := by
  have a := Int.tmod_lt_of_pos x (b := L + 1) (by omega)
  have b := Int.lt_tmod_of_pos x (b := L + 1) (by omega)
  omega

set_option maxRecDepth 100000 in
set_option maxHeartbeats 2000000 in
theorem pointsL_any (L : Int) (hL : 1000 ≤ L ∧ L ≤ 10000) (A : Option Addr) (n c : Nat) (xs : List Pt) (w : World) (hn : xs.length = n) (hbig : n ≤ 9223372036854775807) (hx : PtsAt w A xs) (hw : ∀ x ∈ xs, (-9223372036854775808 ≤ x.1 ∧ x.1 ≤ 9223372036854775807) ∧ (-9223372036854775808 ≤ x.2 ∧ x.2 ≤ 9223372036854775807)) :
    Calls Try.prog 8 #[.slice A n c, .int .i64 L, .int .i64 9] w (PointsTo w (foldLim L (xs.take 9))) := by
  have HN := Lib.hid hn
  have HX := Lib.hid hx
  have HW := Lib.hid hw
  clear hn hx hw
  obtain ⟨hL1, hL2⟩ := hL
  have hlim : IntKind.i64.wrap (L + 1) = L + 1 := by rw [IntKind.wrap_i64]; omega
  have hne : ¬ L + 1 = 0 := by omega
  go_enter Try.func8, Try.ntmps8
  go_wp2
  go_loopw [7, 8] (fun o i wr => ∃ k : Nat, k ≤ n ∧ k ≤ 9 ∧ i = .int .i64 k ∧ PtsOwn wr w.heap.size o (foldLim L (xs.take k)) ∧ Below w.heap.size w wr) (fun _ i _ => 9 - (intOf i).toNat)
  case atStart => exact ⟨0, Nat.zero_le _, by omega, rfl, by simpa [foldLim] using PtsOwn.empty w, (Below.refl _ _).alloc (Nat.le_refl _) _⟩
  case round =>
    obtain ⟨k, hk, hk9, rfl, hown, hbr⟩ := hrel
    have HO := Lib.hid hown
    have HB := Lib.hid hbr
    have hsz := hbr.size
    clear hown
    by_cases hlt : k < n ∧ k < 9
    · obtain ⟨hlt, hlt2⟩ := hlt
      have hkl : k < xs.length := by rw [HN.out]; exact hlt
      obtain ⟨b, off, rfl, hb, hin⟩ := HX.out (by intro e; subst e; simp at hkl)
      obtain ⟨h1, h2⟩ := (hin.below hbr hb) k _ (List.getElem?_eq_getElem hkl)
      obtain ⟨⟨d3, d4⟩, d5, d6⟩ := HW.out _ (List.getElem_mem hkl)
      have HNX : Hid (foldLim L (xs.take (k + 1)) = foldLim L (xs.take k) ++ [tmL L xs[k]]) := Lib.hid (by
        rw [List.take_succ_eq_append_getElem hkl]; unfold foldLim; rw [List.map_append]; rfl)
      have HLN : Hid ((foldLim L (xs.take k)).length ≤ 100) := Lib.hid (by rw [foldLim_length, List.length_take]; omega)
      generalize xs[k] = p at *
      generalize foldLim L (xs.take k) = cur at *
      obtain ⟨x, y⟩ := p
      replace d3 : -9223372036854775808 ≤ x := d3
      replace d4 : x ≤ 9223372036854775807 := d4
      replace d5 : -9223372036854775808 ≤ y := d5
      replace d6 : y ≤ 9223372036854775807 := d6
      have ne1 : u7.ownBlock ≠ some b := fun e => by have := (HO.out.base b e).1; omega
      have hB : b < wr.heap.size := by omega
      clear hin
      have l1 : b < (wr.alloc (.cells #[.int .i64 (x.tmod (L + 1)), .int .i64 (y.tmod (L + 1))] 33)).drew.heap.size := by simp; omega
      have k1 : (wr.alloc (.cells #[.int .i64 (x.tmod (L + 1)), .int .i64 (y.tmod (L + 1))] 33)).drew.cell? ⟨b, off + k * 2, none⟩ = some (.int .i64 x) := (World.cell?_alloc_lt wr _ ⟨b, _, none⟩ hB).trans h1
      have k2 : (wr.alloc (.cells #[.int .i64 (x.tmod (L + 1)), .int .i64 (y.tmod (L + 1))] 33)).drew.cell? ⟨b, off + k * 2 + 1, none⟩ = some (.int .i64 y) := (World.cell?_alloc_lt wr _ ⟨b, _, none⟩ hB).trans h2
      have r1 : IntKind.i64.wrap (x.tmod (L + 1)) = x.tmod (L + 1) := by have := tmodL_bd (L := L) (by omega) x; rw [IntKind.wrap_i64]; omega
      have r2 : IntKind.i64.wrap (y.tmod (L + 1)) = y.tmod (L + 1) := by have := tmodL_bd (L := L) (by omega) y; rw [IntKind.wrap_i64]; omega
      go_wp2_with fail
      go_region_held3 (fun w' => w'.cell? ⟨b, off + k * 2, none⟩ = some (.int .i64 x) ∧ w'.cell? ⟨b, off + k * 2 + 1, none⟩ = some (.int .i64 y))
        (first
          | go_keep
          | exact ⟨(hgrow.cell_far _ l1 (Ne.symm ne1)).trans k1, (hgrow.cell_far _ l1 (Ne.symm ne1)).trans k2⟩)
        ((refine step_papp (by rfl) _ _ (by rfl) w.heap.size _ cur [(x.tmod (L + 1), y.tmod (L + 1))] (some ⟨wr.heap.size, 0, none⟩) 1 1 (by rfl) (by rfl) ((HO.out.alloc _).drew) rfl (PtsAt.one wr _ _) (by have := HLN.out; simp; omega) (by simp; omega) ?_; intro v1 w2 hown1 hgrow hat))
      have HO2 : Hid (PtsOwn w2 w.heap.size v1 (foldLim L (xs.take (k + 1)))) := Lib.hid (by rw [HNX.out]; exact hown1)
      have HB2 : Hid (Below w.heap.size w w2) := Lib.hid ((hbr.alloc (by omega) _).drew.grown hgrow (by simp; omega) (fun k hk => (HO.out.base k hk).1))
      clear hown1 hgrow hat k1 k2 l1 r1 r2
      go_wp2_with fail
      go_roundw
      case rel => exact ⟨k + 1, by omega, by omega, by go_num, HO2.out, HB2.out⟩
      case measure => simp [intOf]; omega
    · have HF : Hid (foldLim L (xs.take k) = foldLim L (xs.take 9)) := Lib.hid (by
        rcases Nat.lt_or_ge k 9 with g | g
        · rw [List.take_of_length_le (by rw [HN.out]; omega), List.take_of_length_le (by rw [HN.out]; omega)]
        · rw [show k = 9 by omega])
      by_cases g : k < n
      · have g9 : k = 9 := by omega
        go_wp2_with fail
        go_ret
        exact ⟨_, rfl, by rw [← HF.out]; exact HO.out, HB.out⟩
      · go_wp2_with fail
        go_ret
        exact ⟨_, rfl, by rw [← HF.out]; exact HO.out, HB.out⟩

/-- A polygon that is convex in normal form, of at most twelve corners, with coordinates up to a limit. -/
structure Poly (L : Int) (m : Nat) (H : List Pt) (h0 : Pt) : Prop where
  conv : Conv H h0
  bd : ∀ p ∈ H, (-L ≤ p.1 ∧ p.1 ≤ L) ∧ (-L ≤ p.2 ∧ p.2 ≤ L)
  len : H.length ≤ m

def LawHullTo (L : Int) (w : World) (e : Ending) (w' : World) : Prop :=
  ∃ v H h0, e = .returned v ∧ PtsOwn w' w.heap.size v H ∧ Poly L 12 H h0 ∧ Below w.heap.size w w'

set_option maxRecDepth 100000 in
set_option maxHeartbeats 4000000 in
theorem lawHull_any (L : Int) (hL : 1000 ≤ L ∧ L ≤ 10000) (A : Option Addr) (n c : Nat) (xs : List Pt) (w : World) (hn : xs.length = n) (hbig : n ≤ 9223372036854775807) (hx : PtsAt w A xs) (hw : ∀ x ∈ xs, (-9223372036854775808 ≤ x.1 ∧ x.1 ≤ 9223372036854775807) ∧ (-9223372036854775808 ≤ x.2 ∧ x.2 ≤ 9223372036854775807)) :
    Calls Try.prog 4 #[.slice A n c, .int .i64 L] w (LawHullTo L w) := by
  have K := Lib.hid (pointsL_any L hL A n c xs w hn hbig hx hw)
  have hl0 : (foldLim L (xs.take 9)).length ≤ 9 := by rw [foldLim_length, List.length_take]; omega
  have HBL : Hid (∀ p ∈ foldLim L (xs.take 9), (-L ≤ p.1 ∧ p.1 ≤ L) ∧ (-L ≤ p.2 ∧ p.2 ≤ L)) := Lib.hid fun p hp => by
    unfold foldLim at hp
    obtain ⟨q, _, rfl⟩ := List.mem_map.1 hp
    exact ⟨tmodL_bd (by omega) q.1, tmodL_bd (by omega) q.2⟩
  clear hn hbig hx hw
  generalize foldLim L (xs.take 9) = l0 at *
  go_enter Try.func4, Try.ntmps4
  go_wp2_with fail
  refine (K.out).mono ?_
  rintro e w1 ⟨v, rfl, hown, hb1⟩
  have HO := Lib.hid hown
  have HB1 := Lib.hid hb1
  have hs1 := hb1.size
  clear hown hb1 K
  go_wp2_with (at_builtin; refine wpList_papp rfl _ _ rfl w.heap.size v l0 triL (some ⟨w1.heap.size, 0, none⟩) 3 3 rfl rfl (HO.out.alloc _) rfl (tri_at w1) (by simp [triL]; omega) (by simp; omega) ?_; intro v2 w2 ho hg hat; have HG := Lib.hid hg; have HO2 := Lib.hid ho; clear ho hg hat)
  have hm3 : (l0 ++ triL).length = l0.length + 3 := by simp [triL]
  have t0 : (0, 0) ∈ l0 ++ triL := by simp [triL]
  have t1 : (1, 0) ∈ l0 ++ triL := by simp [triL]
  have t2 : (0, 1) ∈ l0 ++ triL := by simp [triL]
  have HBD : Hid (∀ p ∈ l0 ++ triL, (-L ≤ p.1 ∧ p.1 ≤ L) ∧ (-L ≤ p.2 ∧ p.2 ≤ L)) := Lib.hid fun p hp => by
    rcases List.mem_append.1 hp with h | h
    · exact HBL.out p h
    · simp only [triL, List.mem_cons, List.not_mem_nil, or_false] at h
      rcases h with rfl | rfl | rfl <;> simp only <;> omega
  have HB2 : Hid (Below w.heap.size w w2) := Lib.hid ((HB1.out.alloc hs1 _).grown HG.out (by simp; omega) (fun k hk => (HO.out.base k hk).1))
  clear HO HG HB1 HBL hs1
  generalize l0 ++ triL = l at *
  have hml : l.length ≤ 12 := by omega
  have hml3 : 3 ≤ l.length := by omega
  clear hm3 hl0
  obtain ⟨s, hperm, hsort⟩ := sort_of l
  obtain ⟨h3, s0, hH, hlow⟩ := hull_facts hperm hsort t0 t1 t2
  have hlowto : lowTo l l.length = s0 := by
    have hs0 : s0 ∈ l := by
      have := (hH.edge 0 (by omega)).fst
      rwa [hH.first] at this
    exact leP_anti (low_le hs0) (hlow _ (lowTo_mem (by omega) _ (Nat.le_refl _)))
  have hflat : flatTo l l.length = false := by
    obtain ⟨a, _⟩ := hull_both (by omega) hperm hsort
    cases hf : flatTo l l.length
    · rfl
    · have := a.1 hf; omega
  have HP : Hid (Poly L 12 (hullL s) s0) := Lib.hid ⟨conv_of hH hlow h3, fun p hp => HBD.out p (hull_sub hH hp), Nat.le_trans (hull_length hH) hml⟩
  have hHl := hull_length hH
  have HBd : Hid (∀ x ∈ l, Bd x) := Lib.hid fun x hx => by
    have := HBD.out x hx
    unfold Bd; omega
  generalize hullL s = H at *
  generalize hm : l.length = m at *
  obtain ⟨g, cc, rfl, hcc, hg, hgl, hin⟩ := HO2.out.row hm (by omega)
  have KR := Lib.hid (refHull_any g 0 m cc l H w2 hm (by omega) (by omega) hin hgl HBd.out (fun _ => by rw [hlowto]; exact hH) (by omega))
  have HF := Lib.hid hflat
  have HM := Lib.hid hm
  clear hin HO2 t0 t1 t2 hperm hsort hH hlow hlowto hflat hm h3 HBd HBD
  go_wp2_with fail
  refine (KR.out).mono ?_
  rintro e w3 ⟨hb3, hc⟩
  obtain ⟨v3, rfl, ho3⟩ : ∃ v, e = .returned (.tuple #[v, .bool true]) ∧ PtsOwn w3 w2.heap.size v H := by
    rcases hc with ⟨q, _⟩ | ⟨_, q⟩
    · rw [HM.out, HF.out] at q; cases q
    · exact q
  have HO3 := Lib.hid (ho3.low HB2.out.size)
  have HB3 := Lib.hid (HB2.out.trans (hb3.mono HB2.out.size))
  clear hc hb3 ho3 KR HF HM
  go_wp2_with fail
  go_ret
  exact ⟨v3, H, s0, rfl, HO3.out, HP.out, HB3.out⟩
end Go.Proofs.Ytfdoijjojaehaaa

/- Package shape's sum of two convex polygons. -/
namespace Go.Proofs.Ytfdoijjojaehaaa
open Go.RowKit Go.Sort
attribute [local go_sem ↓] run_min_mn run_max_mx Go.wp_at_zero Go.wp_at_succ

theorem merged_succ (a b : List Pt) (k : Nat) : merged a b (k + 1) = merged a b k ++ [mpt a b k] := by
  unfold merged; rw [List.range_succ, List.map_append]; rfl
theorem merged_length (a b : List Pt) (k : Nat) : (merged a b k).length = k := by simp [merged]
theorem vtx_gt (l : List Pt) (i : Nat) : gt l (i % l.length) = vtx l i := rfl
theorem PtAt.grown {w w' : World} {b : Nat} {x y : Int} {k : Option Nat} (p : PtAt w b x y) (h : w.grownBy w' k) (hb : b < w.heap.size) (hk : some b ≠ k) : PtAt w' b x y :=
  ⟨(h.cell_far ⟨b, 0, none⟩ hb hk).trans p.1, (h.cell_far ⟨b, 1, none⟩ hb hk).trans p.2⟩
theorem vtx_ok {l : List Pt} (h : l.all okP = true) (i : Nat) : okP (vtx l i) = true := getD_ok h _

def SumTo (K : List Pt) (w : World) (e : Ending) (w' : World) : Prop := ∃ v, e = .returned v ∧ PtsOwn w' w.heap.size v K ∧ Below w.heap.size w w'

set_option maxRecDepth 100000 in
set_option maxHeartbeats 4000000 in
theorem sumD_any (b off n c b' off' m d : Nat) (p q K : List Pt) (p0 q0 : Pt) (w : World) (hl : p.length = n) (hm : q.length = m) (hn' : n ≤ 100) (hm' : m ≤ 100)
    (h : PtsIn w b off p) (hb : b < w.heap.size) (h' : PtsIn w b' off' q) (hb' : b' < w.heap.size) (hok : p.all okP = true) (hok' : q.all okP = true)
    (cp : Conv p p0) (cq : Conv q q0) (hK : Hull (sums p q) K (sumP p0 q0)) (cK : Conv K (sumP p0 q0)) :
    Calls Try.prog 11 #[.slice (some ⟨b, off, none⟩) n c, .slice (some ⟨b', off', none⟩) m d] w (SumTo K w) := by
  obtain ⟨E1, E2, E3⟩ := merge_end cp cq hK cK
  have hKl := sum_len cp cq hK cK
  rw [hl, hm] at hKl E1
  have HE1 := Lib.hid E1
  have HE2 : Hid (∀ k, k ≤ K.length → (mst p q k).1 ≤ n ∧ (mst p q k).2 ≤ m) := Lib.hid (by rw [← hl, ← hm]; exact E2)
  have HE3 : Hid (∀ k, k < K.length → (mst p q k).1 < n ∨ (mst p q k).2 < m) := Lib.hid (by rw [← hl, ← hm]; exact E3)
  have HKM : Hid (merged p q K.length = K) := Lib.hid (merged_hull cp cq hK)
  have HL := Lib.hid hl
  have HM := Lib.hid hm
  have HP := Lib.hid h
  have HQ := Lib.hid h'
  have HOK := Lib.hid hok
  have HOK' := Lib.hid hok'
  have h3 := cp.three
  have h4 := cq.three
  rw [hl] at h3
  rw [hm] at h4
  clear hl hm h h' hok hok' E1 E2 E3 cp cq hK cK
  generalize hN : K.length = N at *
  go_enter Try.func11, Try.ntmps11
  go_wp2
  go_loopw [5, 6, 7] (fun o i j wr => ∃ k : Nat, k ≤ N ∧ i = .int .i64 ((mst p q k).1 : Nat) ∧ j = .int .i64 ((mst p q k).2 : Nat) ∧ PtsOwn wr w.heap.size o (merged p q k) ∧ Below w.heap.size w wr) (fun _ i j _ => (n + m) - ((intOf i).toNat + (intOf j).toNat))
  case atStart => exact ⟨0, Nat.zero_le _, rfl, rfl, PtsOwn.nil _ _, Below.refl _ _⟩
  case round =>
    obtain ⟨k, hk, rfl, rfl, hown, hbw⟩ := hrel
    obtain ⟨hi, hj⟩ := HE2.out k hk
    have HO := Lib.hid hown
    clear hown
    by_cases hlt : k < N
    · have hor := HE3.out k hlt
      have HN : Hid (merged p q (k + 1) = merged p q k ++ [sumP (vtx p (mst p q k).1) (vtx q (mst p q k).2)]) := Lib.hid (merged_succ p q k)
      have hml : (merged p q k).length ≤ 200 := by rw [merged_length]; omega
      have HS : Hid (mst p q (k + 1) = if 0 < xr (ev p (mst p q k).1) (ev q (mst p q k).2) then ((mst p q k).1 + 1, (mst p q k).2) else if xr (ev p (mst p q k).1) (ev q (mst p q k).2) < 0 then ((mst p q k).1, (mst p q k).2 + 1) else ((mst p q k).1 + 1, (mst p q k).2 + 1)) := Lib.hid rfl
      have HB2 := Lib.hid (HE2.out (k + 1) hlt)
      generalize merged p q k = cur at *
      generalize (mst p q k).1 = i at *
      generalize (mst p q k).2 = j at *
      have HPw : Hid (PtsIn wr b off p) := Lib.hid (HP.out.below hbw hb)
      have HQw : Hid (PtsIn wr b' off' q) := Lib.hid (HQ.out.below hbw hb')
      have hB : b < wr.heap.size := Nat.lt_of_lt_of_le hb hbw.size
      have hB' : b' < wr.heap.size := Nat.lt_of_lt_of_le hb' hbw.size
      have N1 := fun W hW => Lib.hid (edge_any b off n c p i W HL.out (by omega) (by omega) (by omega) (HPw.out.below (B := wr.heap.size) hW hB))
      have N2 := fun W hW => Lib.hid (edge_any b' off' m d q j W HM.out (by omega) (by omega) (by omega) (HQw.out.below (B := wr.heap.size) hW hB'))
      have v1 : gt p (i % n) = vtx p i := by rw [← HL.out]; rfl
      have v2 : nx p i = vtx p (i + 1) := rfl
      have v3 : gt q (j % m) = vtx q j := by rw [← HM.out]; rfl
      have v4 : nx q j = vtx q (j + 1) := rfl
      rw [v1, v2] at N1
      rw [v3, v4] at N2
      have ok1 := okP_bd (vtx_ok HOK.out i)
      have ok2 := okP_bd (vtx_ok HOK.out (i + 1))
      have ok3 := okP_bd (vtx_ok HOK'.out j)
      have ok4 := okP_bd (vtx_ok HOK'.out (j + 1))
      have HX : Hid (xr (ev p i) (ev q j) = ((vtx p (i + 1)).1 - (vtx p i).1) * ((vtx q (j + 1)).2 - (vtx q j).2) - ((vtx q (j + 1)).1 - (vtx q j).1) * ((vtx p (i + 1)).2 - (vtx p i).2)) := Lib.hid rfl
      clear v1 v2 v3 v4
      generalize xr (ev p i) (ev q j) = X at *
      generalize vtx p i = a at *
      generalize vtx p (i + 1) = a' at *
      generalize vtx q j = z at *
      generalize vtx q (j + 1) = z' at *
      obtain ⟨a1, a2⟩ := a
      obtain ⟨b1, b2⟩ := a'
      obtain ⟨c1, c2⟩ := z
      obtain ⟨d1, d2⟩ := z'
      simp only at ok1 ok2 ok3 ok4
      have PL := fun W => Lib.hid (plus_any a1 a2 c1 c2 W (by omega) (by omega) (by omega) (by omega))
      have M1 := fun W => Lib.hid (minus_any b1 b2 a1 a2 W (by omega) (by omega) (by omega) (by omega))
      have M2 := fun W => Lib.hid (minus_any d1 d2 c1 c2 W (by omega) (by omega) (by omega) (by omega))
      have CR := fun W => Lib.hid (crossD_any (b1 - a1) (b2 - a2) (d1 - c1) (d2 - c2) W (by omega) (by omega) (by omega) (by omega))
      have HX' : Hid (X = (b1 - a1) * (d2 - c2) - (d1 - c1) * (b2 - a2)) := HX
      rw [← HX'.out] at CR
      have HNE : Hid (∀ x, wr.heap.size ≤ x → ∀ y, u5.ownBlock = some y → y ≠ x) := Lib.hid fun x hx y hy e => by have := (HO.out.base _ hy).2; omega
      clear HX HX' ok1 ok2 ok3 ok4
      by_cases hin : i < n
      all_goals
        try have hjm : j < m := by omega
        go_wp2_with fail
        refine ((N1 _ (Below.refl _ _)).out).mono ?_
        rintro e w1 ⟨rfl, hb1⟩
        go_wp2_with fail
        have B := boxed2 w1 a1 a2 b1 b2
        generalize (w1.alloc (bx a1 a2)).alloc (bx b1 b2) = w2 at *
        obtain ⟨P1, P2, hb2, hz2⟩ := B
        have hbr2 := hb1.trans (hb2.mono hb1.size)
        have hgw : wr.heap.size ≤ w1.heap.size := hb1.size
        generalize w1.heap.size = g at *
        have hg2 : g + 1 < w2.heap.size := by omega
        clear hb2 hz2 N1
        refine ((N2 _ hbr2).out).mono ?_
        rintro e w3 ⟨rfl, hb3⟩
        replace P1 := PtAt.below hb3 (by omega) P1
        replace P2 := PtAt.below hb3 (by omega) P2
        have hbr3 := hbr2.trans (hb3.mono hbr2.size)
        have hg3 : g + 1 < w3.heap.size := by have := hb3.size; omega
        clear hb3 hbr2 hg2 N2
        have B := boxed2 w3 c1 c2 d1 d2
        go_upto_region 6 with (fail)
        generalize (w3.alloc (bx c1 c2)).alloc (bx d1 d2) = w4 at *
        obtain ⟨P3, P4, hb4, hz4⟩ := B
        replace P1 := PtAt.below hb4 (by omega) P1
        replace P2 := PtAt.below hb4 (by omega) P2
        have hbr4 := hbr3.trans (hb4.mono hbr3.size)
        have hgw3 : wr.heap.size ≤ w3.heap.size := hbr3.size
        clear hb4 hbr3
        generalize w3.heap.size = g3 at *
        have hg4 : g3 + 1 < w4.heap.size := by omega
        obtain ⟨p1, p2⟩ := P1
        obtain ⟨p3, p4⟩ := P3
        go_wp2_with fail
        refine ((PL _).out).mono ?_
        rintro e w5 ⟨rfl, hb5⟩
        have P1 := PtAt.below hb5 (by omega) ⟨p1, p2⟩
        have P3 := PtAt.below hb5 (by omega) ⟨p3, p4⟩
        replace P2 := PtAt.below hb5 (by omega) P2
        replace P4 := PtAt.below hb5 (by omega) P4
        have hbr5 := hbr4.trans (hb5.mono hbr4.size)
        have hg5 : g + 1 < w5.heap.size ∧ g3 + 1 < w5.heap.size := by have := hb5.size; omega
        clear p1 p2 p3 p4 hb5 hbr4 PL
        have O5 := Lib.hid (HO.out.belows hbr5 (Nat.le_refl _))
        have hA1 : cur.length + [(a1 + c1, a2 + c2)].length ≤ 100000 := by simp; omega
        have hA2 : w.heap.size ≤ (w5.alloc (bx (a1 + c1) (a2 + c2))).heap.size := by rw [World.size_alloc]; have := hbr5.size; have := hbw.size; omega
        have A1 := P1.alloc (bx (a1 + c1) (a2 + c2)) (by omega)
        have A2 := P2.alloc (bx (a1 + c1) (a2 + c2)) (by omega)
        have A3 := P3.alloc (bx (a1 + c1) (a2 + c2)) (by omega)
        have A4 := P4.alloc (bx (a1 + c1) (a2 + c2)) (by omega)
        have hz5 : (w5.alloc (bx (a1 + c1) (a2 + c2))).heap.size = w5.heap.size + 1 := by rw [World.size_alloc]
        have HBW5 := Lib.hid ((hbw.trans (hbr5.mono hbw.size)).alloc (by have := hbr5.size; have := hbw.size; omega) (bx (a1 + c1) (a2 + c2)))
        go_wp2_with (at_builtin; refine wpList_papp rfl (.tmp 35) (.tmp 39) rfl w.heap.size _ cur [(a1 + c1, a2 + c2)] (some ⟨w5.heap.size, 0, none⟩) 1 1 rfl rfl (O5.out.alloc _) rfl (PtsAt.one w5 (a1 + c1) (a2 + c2)) hA1 hA2 ?_; intro v1 w6 ho hg hat; have HO6 := Lib.hid ho; have HG6 := Lib.hid hg; clear ho hg hat)
        generalize w5.alloc (bx (a1 + c1) (a2 + c2)) = w5' at *
        have q1 := A1.grown HG6.out (by omega) (fun e => HNE.out g (by omega) _ e.symm rfl)
        have q2 := A2.grown HG6.out (by omega) (fun e => HNE.out (g + 1) (by omega) _ e.symm rfl)
        have q3 := A3.grown HG6.out (by omega) (fun e => HNE.out g3 (by omega) _ e.symm rfl)
        have q4 := A4.grown HG6.out (by omega) (fun e => HNE.out (g3 + 1) (by omega) _ e.symm rfl)
        have HB6 : Hid (Below w.heap.size w w6) := Lib.hid (HBW5.out.grown HG6.out hA2 (fun k hk => (O5.out.base k hk).1))
        obtain ⟨p1, p2⟩ := q1
        obtain ⟨p3, p4⟩ := q2
        obtain ⟨p5, p6⟩ := q3
        obtain ⟨p7, p8⟩ := q4
        have K1 := fun d os => Lib.hid (Calls.regrown_of ((M1 (grow (redrawn w6 d) os)).out))
        have K2 := fun d os => Lib.hid (Calls.regrown_of ((M2 (grow (redrawn w6 d) os)).out))
        have K3 := fun d os => Lib.hid (Calls.regrown_of ((CR (grow (redrawn w6 d) os)).out))
        have t1 := cell_regrown p1
        have t2 := cell_regrown p2
        have t3 := cell_regrown p3
        have t4 := cell_regrown p4
        have t5 := cell_regrown p5
        have t6 := cell_regrown p6
        have t7 := cell_regrown p7
        have t8 := cell_regrown p8
        clear p1 p2 p3 p4 p5 p6 p7 p8 A1 A2 A3 A4 P1 P2 P3 P4 M1 M2 CR HG6 O5 HBW5 hbr5 hA1 hA2
        go_wp2_with fail
        refine wp_region_quiet_below (by kernel_rfl) (by kernel_rfl) ?_
        repeat (go_big_quiet_step (first | (with_reducible exact (K1 _ _).out) | (with_reducible exact (K2 _ _).out) | (with_reducible exact (K3 _ _).out)))
        refine wpQuiet_nil ?_
        intro _ hw'
        obtain ⟨⟨dq, osq⟩, hw''⟩ := hw'
        subst hw''
        have hbq := below_regrown w6 dq osq
        have HB7 := Lib.hid (HB6.out.trans (hbq.mono HB6.out.size))
        have HO7 : Hid (PtsOwn (grow (redrawn w6 dq) osq) w.heap.size v1 (merged p q (k + 1))) := Lib.hid (by rw [HN.out]; exact HO6.out.belows hbq (Nat.le_refl _))
        clear hbq t1 t2 t3 t4 t5 t6 t7 t8 K1 K2 K3
        generalize grow (redrawn w6 dq) osq = w7 at *
        rcases Int.lt_trichotomy X 0 with hX | hX | hX
        · have e : mst p q (k + 1) = (i, j + 1) := by rw [HS.out, if_neg (by omega), if_pos hX]
          have hbd := HB2.out
          rw [e] at hbd
          first
            | (exfalso; omega)
            | (go_wp2_with fail
               go_roundw
               case rel => exact ⟨k + 1, by omega, by rw [e], by rw [e]; go_num, HO7.out, HB7.out⟩
               case measure => simp [intOf]; omega)
        · have e : mst p q (k + 1) = (i + 1, j + 1) := by rw [HS.out, if_neg (by omega), if_neg (by omega)]
          have hbd := HB2.out
          rw [e] at hbd
          first
            | (exfalso; omega)
            | (go_wp2_with fail
               go_roundw
               case rel => exact ⟨k + 1, by omega, by rw [e]; go_num, by rw [e]; go_num, HO7.out, HB7.out⟩
               case measure => simp [intOf]; omega)
        · have e : mst p q (k + 1) = (i + 1, j) := by rw [HS.out, if_pos hX]
          have hbd := HB2.out
          rw [e] at hbd
          first
            | (exfalso; omega)
            | (go_wp2_with fail
               go_roundw
               case rel => exact ⟨k + 1, by omega, by rw [e]; go_num, by rw [e], HO7.out, HB7.out⟩
               case measure => simp [intOf]; omega)
    · obtain rfl : k = N := by omega
      have e1 : (mst p q k).1 = n := by rw [HE1.out]
      have e2 : (mst p q k).2 = m := by rw [HE1.out]
      rw [e1, e2]
      rw [HKM.out] at HO
      go_wp2_with fail
      go_ret
      exact ⟨_, rfl, HO.out, hbw⟩
end Go.Proofs.Ytfdoijjojaehaaa

/- Package shape's Sum, negative and Negative. -/
namespace Go.Proofs.Ytfdoijjojaehaaa
open Go.RowKit Go.Sort
attribute [local go_sem ↓] run_min_mn run_max_mx Go.wp_at_zero Go.wp_at_succ

theorem conv_conE {a : List Pt} {a0 : Pt} (ca : Conv a a0) (hok : a.all okP = true) (hlen : a.length ≤ 32) : conE a = 0 := by
  have h1 : polyB a = true := by
    unfold polyB
    rw [Bool.and_eq_true]
    have := ca.three
    exact ⟨hok, by rw [inB_true]; omega⟩
  have h2 : convexB a = true := hull_convex ca.hull ca.three ca.low
  unfold conE
  rw [h1, h2]; rfl

def SumXTo (K : List Pt) (w : World) (e : Ending) (w' : World) : Prop := ∃ v, e = .returned (.tuple #[v, .int .i64 0]) ∧ PtsOwn w' w.heap.size v K ∧ Below w.heap.size w w'

set_option maxRecDepth 100000 in
set_option maxHeartbeats 2000000 in
theorem sumX_any (A : Option Addr) (n c : Nat) (A' : Option Addr) (m d : Nat) (p q K : List Pt) (p0 q0 : Pt) (w : World) (hl : p.length = n) (hm : q.length = m) (hn' : n ≤ 32) (hm' : m ≤ 32)
    (hx : PtsAt w A p) (hy : PtsAt w A' q) (hok : p.all okP = true) (hok' : q.all okP = true)
    (cp : Conv p p0) (cq : Conv q q0) (hK : Hull (sums p q) K (sumP p0 q0)) (cK : Conv K (sumP p0 q0)) :
    Calls Try.prog 5 #[.slice A n c, .slice A' m d] w (SumXTo K w) := by
  have hb1 : Below w.heap.size w (w.alloc (.cells #[.slice A n c, .slice A' m d] 22)) := (Below.refl _ _).alloc (Nat.le_refl _) _
  have hP : PolysIn (w.alloc (.cells #[.slice A n c, .slice A' m d] 22)) w.heap.size 0 [p, q] := by
    intro i l hi
    match i, hi with
    | 0, hi =>
      obtain rfl : p = l := by simpa using hi
      exact ⟨A, n, c, by simp [World.cell?_alloc_new], hl, by omega, hx.below hb1⟩
    | 1, hi =>
      obtain rfl : q = l := by simpa using hi
      exact ⟨A', m, d, by simp [World.cell?_alloc_new], hm, by omega, hy.below hb1⟩
  have K1 := Lib.hid (checkConvex_any w.heap.size 0 2 2 [p, q] _ rfl (by omega) hP (by simp))
  have h0 : convsE [p, q] = 0 := by rw [convs_two, if_pos (conv_conE cp hok (by omega)), conv_conE cq hok' (by omega)]
  rw [h0] at K1
  obtain ⟨b1, o1, rfl, g1, g2⟩ := hx (by intro e; have := cp.three; rw [e] at this; simp at this)
  obtain ⟨b2, o2, rfl, f1, f2⟩ := hy (by intro e; have := cq.three; rw [e] at this; simp at this)
  have KS := fun W (hW : Below w.heap.size w W) => Lib.hid (sumD_any b1 o1 n c b2 o2 m d p q K p0 q0 W hl hm (by omega) (by omega) (g2.below hW g1) (Nat.lt_of_lt_of_le g1 hW.size) (f2.below hW f1) (Nat.lt_of_lt_of_le f1 hW.size) hok hok' cp cq hK cK)
  have HB1 := Lib.hid hb1
  clear hx hy hP h0 g2 f2 hl hm hok hok' cp cq hK cK hb1
  go_enter Try.func5, Try.ntmps5
  go_wp2_with fail
  refine (K1.out).mono ?_
  rintro e w1 ⟨rfl, hb2⟩
  have hbw1 := HB1.out.trans (hb2.mono HB1.out.size)
  clear hb2
  go_wp2_with fail
  refine ((KS _ hbw1).out).mono ?_
  rintro e w2 ⟨v, rfl, ho, hb3⟩
  have HO := Lib.hid (ho.low hbw1.size)
  have HB := Lib.hid (hbw1.trans (hb3.mono hbw1.size))
  clear ho hb3
  go_wp2_with fail
  go_ret2
  exact ⟨v, rfl, HO.out, HB.out⟩

theorem negP_zero (p : Pt) : negP p = (0 - p.1, 0 - p.2) := by unfold negP; simp
theorem negL_F (l : List Pt) : l.map negP = ptF l.length fun i => negP (gt l i) := by
  apply List.ext_getElem
  · simp [ptF]
  · intro i h1 h2
    have : i < l.length := by simpa using h1
    simp [ptF, gt, List.getD, this]

/-- What Negative leaves: the corners' negatives, in the order of a hull. -/
def NegTo (a : List Pt) (w : World) (e : Ending) (w' : World) : Prop :=
  ∃ s v, s.Perm (a.map negP) ∧ s.Pairwise leP ∧ e = .returned (.tuple #[v, .int .i64 0]) ∧ PtsOwn w' w.heap.size v (hullL s) ∧ Below w.heap.size w w'

end Go.Proofs.Ytfdoijjojaehaaa

/- What the laws of layer 4 that call Sum and Negative need: bounds of sums, areas. -/
namespace Go.Proofs.Ytfdoijjojaehaaa
open Go.RowKit Go.Sort

theorem ok_of_bd {L : Int} (hL : L ≤ 10000) {H : List Pt} (h : ∀ p ∈ H, (-L ≤ p.1 ∧ p.1 ≤ L) ∧ (-L ≤ p.2 ∧ p.2 ≤ L)) : H.all okP = true := List.all_eq_true.2 fun p hp => by
  have := h p hp
  unfold okP validB
  simp only [inB]
  simp
  omega
theorem bd_sums {L M : Int} {a b K : List Pt} {k0 : Pt} (ha : ∀ p ∈ a, (-L ≤ p.1 ∧ p.1 ≤ L) ∧ (-L ≤ p.2 ∧ p.2 ≤ L)) (hb : ∀ p ∈ b, (-M ≤ p.1 ∧ p.1 ≤ M) ∧ (-M ≤ p.2 ∧ p.2 ≤ M)) (h : Hull (sums a b) K k0) :
    ∀ p ∈ K, (-(L + M) ≤ p.1 ∧ p.1 ≤ L + M) ∧ (-(L + M) ≤ p.2 ∧ p.2 ≤ L + M) := fun p hp => by
  obtain ⟨x, hx, y, hy, rfl⟩ := mem_sums.1 (hull_sub h hp)
  have h1 := ha x hx
  have h2 := hb y hy
  unfold sumP
  simp only
  omega
theorem conv_polyB {a : List Pt} {a0 : Pt} (ca : Conv a a0) (hok : a.all okP = true) (hlen : a.length ≤ 32) : polyB a = true := by
  unfold polyB
  rw [Bool.and_eq_true]
  have := ca.three
  exact ⟨hok, by rw [inB_true]; omega⟩
theorem area2_bd {a : List Pt} (hok : a.all okP = true) (hlen : a.length ≤ 12) : -2400000000 ≤ area2 a ∧ area2 a ≤ 2400000000 := by
  have h := area2To_bd hok a.length
  have e : area2To a a.length = area2 a := rfl
  rw [e] at h
  omega

end Go.Proofs.Ytfdoijjojaehaaa
