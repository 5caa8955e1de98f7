/- A region that draws its order, whose last operations wait for all others: these are peeled off, and what is held need be held no longer than to them. -/
import Derived.Test.YtddejjilfmphbaaGreatDoorProg
import Derived.OrdersHeld
import Derived.Deep.RegionHeld3
import Derived.WalkKit
namespace Go.Proofs.YtddejjilfmphbaaGreatDoor

theorem wp_both {P : Program} {o : Oper} {Q Q' : Exit → Act → World → Prop} {a : Act} {w : World} {K K' : Act → World → Prop} (h : ∀ a w, K a w → K' a w) (hp : ∀ c a w, Q (.panic c) a w → Q' (.panic c) a w) (ho : LetsOut Q → LetsOut Q')
    (hh : o.wp P a w K Q) : o.wp P a w K' Q' := by
  unfold Oper.wp at *
  generalize (execOp a.eval o).run P w = r at *
  cases r with
  | ok n w' =>
    cases n <;> simp only [Oper.upon] at hh ⊢ <;>
      first
        | exact h _ _ hh
        | exact Calls.mono hh (fun e w'' he => by
            cases e with
            | returned v => exact h _ _ he
            | panicked c => exact hp _ _ _ he
            | outgrown => exact ho he)
        | exact Rows.mono hh (fun _ _ he => h _ _ he)
  | halt x w' =>
    cases x <;> simp only [Oper.upon] at hh ⊢
    all_goals first | exact hp _ _ _ hh | exact hh
/-- What the front has to come to: the last operation runs well. -/
def QL (P : Program) (last : Oper) (Q : Exit → Act → World → Prop) : Exit → Act → World → Prop
  | .normal, a, w => wpList P #[] Q [last] a w
  | .panic _, _, _ => False
  | e, a, w => Q e a w
theorem ql_out {P : Program} {last : Oper} {Q : Exit → Act → World → Prop} (h : LetsOut (QL P last Q)) : LetsOut Q := by
  obtain ⟨a, w, h⟩ := h
  exact ⟨a, w, h⟩
theorem ql_wp {P : Program} {last o : Oper} {Q : Exit → Act → World → Prop} {a : Act} {w : World} {K K' : Act → World → Prop} (h : ∀ a w, K a w → K' a w) (hh : o.wp P a w K (QL P last Q)) : o.wp P a w K' Q :=
  wp_both h (fun _ _ _ he => (he : False).elim) ql_out hh
structure Peels (md : Region.Mode) (front : Array Oper) (last : Oper) : Prop where
  guard : last.guard = none
  inside : ∀ e ∈ last.after, Region.binds md e = true → e.on < front.size
  waits : ∀ i, i < front.size → ∃ e ∈ last.after, Region.binds md e = true ∧ e.on = i
  order : ∀ (i : Nat) (o : Oper), front[i]? = some o → ∀ e ∈ o.after, Region.binds md e = true → e.on < i
  plain : ∀ (i : Nat) (o : Oper), front[i]? = some o → o.guard = none
theorem getD_push {l : Array Bool} {i : Nat} (h : i < l.size) (d : Bool) : (l.push false).getD i d = l.getD i d := by
  simp [Array.getElem?_push, h, Nat.ne_of_lt h, Array.getD_eq_getD_getElem?]
theorem getD_push_false (l : Array Bool) (i : Nat) : (l.push false).getD i false = l.getD i false := by
  simp only [Array.getD_eq_getD_getElem?, Array.getElem?_push]
  split
  · rename_i h; subst h; simp
  · rfl
theorem least_open (l : Array Bool) (n : Nat) : (∀ i, i < n → l.getD i true = true) ∨ ∃ i, i < n ∧ l.getD i true = false ∧ ∀ j, j < i → l.getD j true = true := by
  induction n with
  | zero => exact .inl fun i h => by omega
  | succ n ih =>
    rcases ih with h | ⟨i, h1, h2, h3⟩
    · by_cases hn : l.getD n true = true
      · refine .inl fun i hi => ?_
        by_cases e : i = n
        · rw [e]; exact hn
        · exact h i (by omega)
      · exact .inr ⟨n, by omega, by simpa using hn, h⟩
    · exact .inr ⟨i, by omega, h2, h3⟩
theorem getD_true_false {l : Array Bool} {i : Nat} (h : i < l.size) (e : l.getD i true = true) : l.getD i false = true := by
  simp only [Array.getD_eq_getD_getElem?, Array.getElem?_eq_getElem h, Option.getD_some] at *
  exact e
theorem any_done {P : Program} {md : Region.Mode} {ops : Array Oper} {Q : Exit → Act → World → Prop} {listed : Array Bool} {a : Act} {w : World} (hr : Region.ready md ops listed = []) (h : Q .normal a w) : ∀ fuel, wpAny P md ops Q fuel listed a w
  | 0 => ⟨hr, h⟩
  | _ + 1 => ⟨fun _ => h, by rw [hr]; intro i hi; cases hi⟩

section
variable {P : Program} {md : Region.Mode} {front : Array Oper} {last : Oper} {Q : Exit → Act → World → Prop}
theorem push_front {i : Nat} (h : i < front.size) : (front.push last)[i]? = front[i]? := by rw [Array.getElem?_push, if_neg (by omega)]
theorem push_last : (front.push last)[front.size]? = some last := by rw [Array.getElem?_push, if_pos rfl]
theorem ready_front {listed : Array Bool} (hs : listed.size = front.size) {i : Nat} (hi : i < front.size) : i ∈ Region.ready md (front.push last) (listed.push false) ↔ i ∈ Region.ready md front listed := by
  rw [mem_ready, mem_ready, push_front hi, getD_push (by omega)]
  simp only [getD_push_false]
theorem peel_step (hp : Peels md front last) {fuel : Nat} {listed : Array Bool} {a : Act} {w : World} (hs : listed.size = front.size) (h0 : Region.ready md front listed = [] → QL P last Q .normal a w)
    (h1 : ∀ i, i ∈ Region.ready md front listed → wpOp P (front.push last) Q i (wpAny P md (front.push last) Q fuel ((listed.push false).setIfInBounds i true)) a w) : wpAny P md (front.push last) Q (fuel + 1) (listed.push false) a w := by
  have hopen : (listed.push false).getD front.size true = false := by simp [Array.getD_eq_getD_getElem?, ← hs]
  refine ⟨fun hn => ?_, fun i hi => ?_⟩
  · exfalso
    rcases least_open listed front.size with h | ⟨i, hi, h2, h3⟩
    · have : front.size ∈ Region.ready md (front.push last) (listed.push false) := by
        rw [mem_ready]
        refine ⟨hopen, last, push_last, fun e he hb => ?_⟩
        rw [getD_push_false]
        have := hp.inside e he hb
        exact getD_true_false (by omega) (h _ this)
      rw [hn] at this; cases this
    · have hf : front[i]? = some front[i] := Array.getElem?_eq_getElem hi
      have : i ∈ Region.ready md front listed := by
        rw [mem_ready]
        refine ⟨h2, front[i], hf, fun e he hb => ?_⟩
        have := hp.order i _ hf e he hb
        exact getD_true_false (by omega) (h3 _ this)
      rw [← ready_front (last := last) hs hi, hn] at this; cases this
  · by_cases hlt : i < front.size
    · exact h1 i ((ready_front hs hlt).1 hi)
    · have hall := mem_ready.1 hi
      obtain ⟨hx, o, ho, hw⟩ := hall
      obtain rfl : i = front.size := by
        have := (Array.getElem?_eq_some_iff.1 ho).1
        simp at this; omega
      rw [push_last] at ho
      obtain rfl := Option.some.inj ho
      have hl : ∀ j, j < front.size → listed.getD j false = true := fun j hj => by
        obtain ⟨e, he, hb, rfl⟩ := hp.waits j hj
        have := hw e he hb
        rwa [getD_push_false] at this
      have hr0 : Region.ready md front listed = [] := by
        refine List.eq_nil_iff_forall_not_mem.2 fun j hj => ?_
        have hj := mem_ready.1 hj
        obtain ⟨h2, o, ho, -⟩ := hj
        have hjs := (Array.getElem?_eq_some_iff.1 ho).1
        have := hl j hjs
        simp only [Array.getD_eq_getD_getElem?, Array.getElem?_eq_getElem (show j < listed.size by omega), Option.getD_some] at this h2
        rw [this] at h2; cases h2
      have hr1 : Region.ready md (front.push last) ((listed.push false).setIfInBounds front.size true) = [] := by
        refine List.eq_nil_iff_forall_not_mem.2 fun j hj => ?_
        have hj := mem_ready.1 hj
        obtain ⟨h2, o, ho, -⟩ := hj
        have hjs := (Array.getElem?_eq_some_iff.1 ho).1
        simp only [Array.size_push] at hjs
        by_cases e : j = front.size
        · subst e
          simp [Array.getD_eq_getD_getElem?, ← hs] at h2
        · have := hl j (by omega)
          have hjl : j < listed.size := by omega
          simp only [Array.getD_eq_getD_getElem?, Array.getElem?_eq_getElem hjl, Option.getD_some] at this
          rw [Array.getD_eq_getD_getElem?, Array.getElem?_setIfInBounds_ne (by omega), Array.getElem?_push, if_neg (by omega), Array.getElem?_eq_getElem hjl, Option.getD_some, this] at h2
          cases h2
      have hq := h0 hr0
      unfold QL wpList at hq
      unfold wpOp
      rw [push_last]
      simp only [Region.wanted, hp.guard, if_true] at hq ⊢
      rcases hq with hq | hq
      · exact .inl (wp_both (fun a w hq => any_done hr1 hq fuel) (fun _ _ _ h => h) (fun h => h) hq)
      · exact .inr hq
theorem peel_any (hp : Peels md front last) : ∀ (fuel : Nat) (listed : Array Bool) (a : Act) (w : World), listed.size = front.size → wpAny P md front (QL P last Q) fuel listed a w → wpAny P md (front.push last) Q (fuel + 1) (listed.push false) a w := by
  intro fuel
  induction fuel with
  | zero =>
    intro listed a w hs h
    exact peel_step hp hs (fun _ => h.2) (fun i hi => by rw [h.1] at hi; cases hi)
  | succ fuel ih =>
    intro listed a w hs h
    refine peel_step hp hs h.1 fun i hi => ?_
    have h2 := h.2 i hi
    obtain ⟨-, o, ho, -⟩ := mem_ready.1 hi
    have hlt := (Array.getElem?_eq_some_iff.1 ho).1
    unfold wpOp at h2 ⊢
    rw [push_front hlt, ho]
    rw [ho] at h2
    simp only [Region.wanted, hp.plain i o ho, if_true] at h2 ⊢
    rcases h2 with h2 | h2
    · refine .inl (ql_wp (fun a w hk => ?_) h2)
      have := ih (listed.setIfInBounds i true) a w (by simpa using hs) hk
      rwa [show (listed.setIfInBounds i true).push false = (listed.push false).setIfInBounds i true by
        apply Array.ext
        · simp
        · intro j h1 h2
          rw [Array.getElem_push]
          simp only [Array.size_setIfInBounds]
          by_cases hj : j < listed.size
          · rw [dif_pos hj, Array.getElem_setIfInBounds hj, Array.getElem_setIfInBounds (by simp; omega), Array.getElem_push, dif_pos hj]
          · rw [dif_neg hj, Array.getElem_setIfInBounds (by simpa using h1), if_neg (by omega), Array.getElem_push, dif_neg hj]] at this
    · exact .inr ⟨h2.1, ql_out h2.2⟩
end
def peelB (md : Region.Mode) (front : Array Oper) (last : Oper) : Bool :=
  last.guard.isNone && (List.range front.size).all (fun i => last.after.any fun e => Region.binds md e && e.on == i) && last.after.all (fun e => !Region.binds md e || decide (e.on < front.size)) &&
    (List.range front.size).all fun i => match front[i]? with | some o => o.guard.isNone && o.after.all (fun e => !Region.binds md e || decide (e.on < i)) | none => true
theorem peelB_ok {md : Region.Mode} {front : Array Oper} {last : Oper} (h : peelB md front last = true) : Peels md front last := by
  unfold peelB at h
  simp only [Bool.and_eq_true, List.all_eq_true, List.mem_range, Array.any_eq_true', Array.all_eq_true_iff_forall_mem, Option.isNone_iff_eq_none, Bool.or_eq_true, Bool.not_eq_true', decide_eq_true_eq, beq_iff_eq] at h
  obtain ⟨⟨⟨h1, h2⟩, h3⟩, h4⟩ := h
  refine ⟨h1, fun e he hb => ?_, fun i hi => ?_, fun i o ho e he hb => ?_, fun i o ho => ?_⟩
  · rcases h3 e he with h | h
    · rw [hb] at h; cases h
    · exact h
  · obtain ⟨e, he, hb, hx⟩ := h2 i hi
    exact ⟨e, he, hb, hx⟩
  · have := h4 i (Array.getElem?_eq_some_iff.1 ho).1
    rw [ho] at this
    simp only [Bool.and_eq_true, Array.all_eq_true_iff_forall_mem, Bool.or_eq_true, Bool.not_eq_true', decide_eq_true_eq] at this
    rcases this.2 e he with h | h
    · rw [hb] at h; cases h
    · exact h
  · have := h4 i (Array.getElem?_eq_some_iff.1 ho).1
    rw [ho] at this
    simp only [Bool.and_eq_true, Option.isNone_iff_eq_none] at this
    exact this.1
theorem wpList_np {P : Program} {ops : Array Oper} {Q : Exit → Act → World → Prop} : ∀ {l : List Oper} {a : Act} {w : World}, wpList P ops (NoPanic Q) l a w → wpList P ops Q l a w
  | [], _, _, h => h
  | o :: l, a, w, h => by
    unfold wpList at h ⊢
    split at h
    · rename_i hw
      rw [if_pos hw]
      rcases h with h | h
      · exact .inl (wp_both (Q := NoPanic Q) (Q' := Q) (fun a w h => wpList_np h) (fun _ _ _ h => (h : False).elim) (fun ⟨a, w, h⟩ => ⟨a, w, h⟩) h)
      · exact .inr ⟨h.1, let ⟨a, w, h⟩ := h.2; ⟨a, w, h⟩⟩
    · rename_i hw
      rw [if_neg hw]
      exact wpList_np h
/-- Two operations at the end of a region that draws wait for all others: S is to be held up to them alone, and they run in their order. -/
theorem wp_region_peel2 {P : Program} {id : Nat} {l : List Oper} {l1 l2 : Oper} {Q : Exit → Act → World → Prop} {a : Act} {w : World} {S : World → Prop} (n : Nat) (hm : P.follows .mixedOrders = true) (hl : l = l.take n ++ [l1, l2])
    (h1 : peelB .any (l.take n).toArray l1 = true) (h2 : peelB .any ((l.take n).toArray.push l1) l2 = true) (hS : S w.drew)
    (h : S w.drew → wpAnyH P .any (l.take n).toArray (QL P l1 (QL P l2 Q)) S (l.take n).toArray.size (Array.replicate (l.take n).toArray.size false) a w.drew) : (Code.region id l.toArray true).wp P Q a w := by
  refine wp_region_any hm ?_
  have e : l.toArray = ((l.take n).toArray.push l1).push l2 := by
    conv => lhs; rw [hl]
    simp
  rw [e]
  have k1 := peel_any (Q := QL P l2 Q) (peelB_ok h1) _ _ a w.drew (by simp) (wpAny_of_held _ _ _ _ (h hS))
  have k2 := peel_any (Q := Q) (peelB_ok h2) _ _ a w.drew (by simp) k1
  have r : ∀ k, Array.replicate (k + 1) false = (Array.replicate k false).push false := fun k => Array.replicate_succ
  rw [Array.size_push, Array.size_push, r, r]
  exact k2
/-- What is left behind the front: the two, in their order. -/
theorem ql2 {P : Program} {l1 l2 : Oper} {ops : Array Oper} {Q : Exit → Act → World → Prop} {a : Act} {w : World} (g1 : l1.guard = none) (g2 : l2.guard = none) (h : wpList P ops (NoPanic Q) [l1, l2] a w) : QL P l1 (QL P l2 Q) .normal a w := by
  unfold QL
  unfold wpList at h ⊢
  simp only [Region.wanted, g1, if_true] at h ⊢
  rcases h with h | h
  · refine .inl (wp_both (Q := NoPanic Q) (Q' := QL P l2 Q) (fun a w hk => ?_) (fun _ _ _ h => (h : False).elim) (fun ⟨a, w, h⟩ => ⟨a, w, h⟩) h)
    have hk := wpList_np hk
    show wpList P #[] Q [l2] a w
    unfold wpList at hk ⊢
    simp only [Region.wanted, g2, if_true] at hk ⊢
    exact hk
  · exact .inr ⟨h.1, let ⟨a, w, h⟩ := h.2; ⟨a, w, h⟩⟩
end Go.Proofs.YtddejjilfmphbaaGreatDoor
