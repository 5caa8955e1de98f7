/- slices.SortFunc by package shape's compare, and slices.Reverse, on a row of the call's own. -/
import Derived.Test.YtnijcdphmibjaaaDevClone
import Derived.Shelf.GgSortFunc.InsertionK
namespace Go.Proofs.Ytnijcdphmibjaaa
open Go.RowKit Go.Sort
attribute [local go_sem ↓] run_min_mn run_max_mx

set_option maxRecDepth 100000 in
set_option maxHeartbeats 1000000 in
theorem compare_lays (ax ay bx by' : Int) (w : World) :
    Calls Try.prog 93 #[.agg #[.int .i64 ax, .int .i64 ay], .agg #[.int .i64 bx, .int .i64 by']] w fun e w' =>
      e = .returned (.int .i64 (cmpP ax ay bx by')) ∧ ∃ q os', w' = grow (w.drewN q) os' := by
  have C1 := fun W => Lib.hid ((cmpI_any ay by' W).mono fun _ _ h => And.intro h.1 h.2.symm)
  have C2 := fun W => Lib.hid ((cmpI_any ax bx W).mono fun _ _ h => And.intro h.1 h.2.symm)
  have H : Hid (cmpP ax ay bx by' = orI (cmpI ay by') (cmpI ax bx)) := Lib.hid rfl
  generalize cmpI ay by' = u at *
  generalize cmpI ax bx = v at *
  generalize cmpP ax ay bx by' = r at *
  go_enter Try.func93, Try.ntmps93
  go_wp2_with fail
  have B := boxed2 w ax ay bx by'
  have HW : Hid (((w.alloc (Go.Proofs.Ytnijcdphmibjaaa.bx ax ay)).alloc (Go.Proofs.Ytnijcdphmibjaaa.bx bx by')) = grow w #[Go.Proofs.Ytnijcdphmibjaaa.bx ax ay, Go.Proofs.Ytnijcdphmibjaaa.bx bx by']) := Lib.hid (by
    rw [alloc_eq_grow, alloc_eq_grow, grow_grow]; rfl)
  generalize ((w.alloc (Go.Proofs.Ytnijcdphmibjaaa.bx ax ay)).alloc (Go.Proofs.Ytnijcdphmibjaaa.bx bx by')) = W0 at *
  obtain ⟨⟨a1, a2⟩, ⟨b1, b2⟩, hb, hz⟩ := B
  clear hb hz
  refine wp_region_still_tail 10 (by kernel_rfl) (by kernel_rfl) ?_
  simp only [List.take_succ_cons, List.take_zero, List.drop_succ_cons, List.drop_zero]
  change wpStill _ _ W0.drew _ _ _
  replace a1 : W0.drew.cell? _ = _ := a1
  replace a2 : W0.drew.cell? _ = _ := a2
  replace b1 : W0.drew.cell? _ = _ := b1
  replace b2 : W0.drew.cell? _ = _ := b2
  iterate 4 still_step
  still_call (C1 _).out
  iterate 4 still_step
  still_call (C2 _).out
  refine wpStill_nil ?_
  change wpList _ _ _ _ _ W0.drew
  go_wp2_with fail
  refine (or_any _ u v _ (by go_simp) (by go_simp)).mono ?_
  rintro e w' ⟨rfl, rfl⟩
  go_wp2
  go_ret
  refine ⟨ret_int H.out.symm, 1, #[Go.Proofs.Ytnijcdphmibjaaa.bx ax ay, Go.Proofs.Ytnijcdphmibjaaa.bx bx by'] ++ #[Obj.cells #[Value.int IntKind.i64 u, Value.int IntKind.i64 v] 3], ?_⟩
  rw [HW.out, alloc_eq_grow, grow_grow, drew_grow]
  rfl

/-- A point's two cells. -/
def encP (x : Pt) : List Value := [.int .i64 x.1, .int .i64 x.2]
theorem ptsV_enc : ∀ l : List Pt, ptsV l = l.flatMap encP
  | [] => rfl
  | p :: l => by simp only [ptsV, List.flatMap_cons, encP, ptsV_enc l]; rfl
theorem ptsV_at' {l : List Pt} {t : Nat} (h : t < l.length * 2) : (ptsV l)[t]? = some ((encP (gt l (t / 2)))[t % 2]!) := by
  have hi : t / 2 < l.length := by omega
  have hg : l[t / 2]? = some (gt l (t / 2)) := by
    unfold gt; rw [List.getD_eq_getElem?_getD, List.getElem?_eq_getElem hi]; rfl
  obtain ⟨h1, h2⟩ := ptsV_get l (t / 2) _ hg
  rcases Nat.mod_two_eq_zero_or_one t with e | e
  · rw [e, show t = t / 2 * 2 by omega, h1, show t / 2 * 2 / 2 = t / 2 by omega]; rfl
  · rw [e]
    have : t = t / 2 * 2 + 1 := by omega
    rw [this, h2, show (t / 2 * 2 + 1) / 2 = t / 2 by omega]; rfl
theorem gt_arr (l : List Pt) (i : Nat) : (l.toArray)[i]! = gt l i := by
  unfold gt
  rw [List.getD_eq_getElem?_getD]
  simp only [List.getElem!_toArray]
  rw [List.getElem!_eq_getElem?_getD]
  rfl

theorem holds_own {w : World} {base g n c : Nat} {l : List Pt} (h : PtsOwn w base (.slice (some ⟨g, 0, none⟩) n c) l) (hn : l.length = n) : HoldsK encP 2 w g 0 l.toArray := by
  unfold PtsOwn World.ownsRow at h
  obtain ⟨h1, h2⟩ := h
  rcases h2 with ⟨e, _⟩ | ⟨g', cap, cur, e, hb, hg, hnc, hh, hsz, ht⟩
  · cases e
  · simp only [Value.slice.injEq, Option.some.injEq, Addr.mk.injEq] at e
    obtain ⟨⟨rfl, -, -⟩, -, -⟩ := e
    intro j hj
    rw [size_flatK] at hj
    have hj2 : j < l.length * 2 := by simpa using hj
    rw [get_flatK _ _ _ _ hj, gt_arr]
    refine ⟨?_, ?_⟩
    · rw [cell_of_row w g _ cur _ (0, 0) hg, Nat.zero_add]
      have := ptsV_at' hj2
      rw [← ht, List.getElem?_take, if_pos hj2] at this
      simpa using this
    · simp [World.frozen?, hg]

/-- The row after a sort, or whatever else lays it anew. -/
theorem own_laid {w : World} {base g n c m : Nat} {l l' : List Pt} {os : Array Obj} (h : PtsOwn w base (.slice (some ⟨g, 0, none⟩) n c) l) (hn : l.length = n) (hn' : l'.length = n) :
    PtsOwn (sortWorldK encP 2 w g 0 m l'.toArray os) base (.slice (some ⟨g, 0, none⟩) n c) l' ∧ w.grownBy (sortWorldK encP 2 w g 0 m l'.toArray os) (some g) := by
  unfold PtsOwn World.ownsRow at *
  obtain ⟨h1, h2⟩ := h
  rcases h2 with ⟨e, _⟩ | ⟨g', cap, cur, e, hb, hg, hnc, hh, hsz, ht⟩
  · cases e
  · simp only [Value.slice.injEq, Option.some.injEq, Addr.mk.injEq] at e
    obtain ⟨⟨rfl, -, -⟩, -, rfl⟩ := e
    have hgl : g < w.heap.size := (Array.getElem?_eq_some_iff.1 hg).1
    rw [hn] at ht hnc
    have hrow : (sortWorldK encP 2 w g 0 m l'.toArray os).heap[g]? = some (.cells (putCells id 0 (flatK encP 2 l'.toArray) cur) 33 (0, 0)) := by
      unfold sortWorldK grow putRowK putRow mapBlock Go.Sort.ahead
      simp only
      rw [Array.getElem?_append_left (by simpa using hgl), Array.getElem?_modify, if_pos rfl, hg]
      rfl
    refine ⟨⟨by rw [ptsV_length], .inr ⟨g, c, _, by rw [hn'], hb, hrow, by rw [hn']; exact hnc, hh, by simp [putCells, hsz], ?_⟩⟩, ?_⟩
    · apply List.ext_getElem?
      intro t
      rw [List.getElem?_take]
      by_cases q : t < l'.length * 2
      · rw [if_pos q, ptsV_at' q]
        have hc : t < cur.size := by rw [hsz]; have : l'.length * 2 ≤ c * 2 := by omega
                                     omega
        simp only [putCells, Array.getElem?_toList, Array.getElem?_mapIdx, Array.getElem?_eq_getElem hc, Option.map_some]
        rw [if_pos ⟨Nat.zero_le _, by simpa using q⟩, Nat.sub_zero, get_flatK _ _ _ _ (by simpa using q), gt_arr]
        rfl
      · rw [if_neg q, List.getElem?_eq_none (by rw [ptsV_length]; omega)]
    · refine ⟨rfl, rfl, rfl, by simp [sortWorldK, putRowK], fun k hk hne => ?_⟩
      have hkg : ¬ g = k := fun e => hne (by rw [e])
      unfold sortWorldK grow putRowK putRow mapBlock Go.Sort.ahead
      simp only
      rw [Array.getElem?_append_left (by simp; omega), Array.getElem?_modify, if_neg hkg]

theorem PtsOwn.other {w w' : World} {base g : Nat} {v : Value} {l : List Pt} (h : PtsOwn w base v l) (hg : w.grownBy w' (some g)) (hne : v.ownBlock ≠ some g) : PtsOwn w' base v l := by
  unfold PtsOwn World.ownsRow at *
  obtain ⟨h1, h2⟩ := h
  refine ⟨h1, ?_⟩
  rcases h2 with h2 | ⟨k, cap, cur, e, hb1, hk, hr⟩
  · exact .inl h2
  · refine .inr ⟨k, cap, cur, e, hb1, (hg.block k (Array.getElem?_eq_some_iff.1 hk).1 (fun q => hne ?_)).trans hk, hr⟩
    rw [e]; exact q
theorem PtsOwn.row {w : World} {base : Nat} {v : Value} {l : List Pt} {n : Nat} (h : PtsOwn w base v l) (hn : l.length = n) (h0 : 0 < n) :
    ∃ g c, v = .slice (some ⟨g, 0, none⟩) n c ∧ n ≤ c ∧ base ≤ g ∧ g < w.heap.size ∧ PtsIn w g 0 l := by
  obtain ⟨A, c, e, h1, hat, hbase⟩ := h.slice
  obtain ⟨g, og, rfl, hg, hin⟩ := hat (by intro e; subst e; simp at hn; omega)
  have hog : og = 0 := by
    subst e
    rcases h.2 with ⟨e, _⟩ | ⟨g', cap, cur, e, _⟩
    · cases e
    · simp only [Value.slice.injEq, Option.some.injEq, Addr.mk.injEq] at e; exact e.1.2.1
  subst hog
  rw [hn] at e h1
  exact ⟨g, c, e, h1, hbase _ rfl, hg, hin⟩

/-- Sorted points. -/
theorem sorted_of {l' : List Pt} (h : SortedIn (fun x y => decide (cmpQ x y < 0)) 0 l'.toArray.size l'.toArray) : l'.Pairwise leP := by
  rw [List.pairwise_iff_getElem]
  intro i j hi hj hij
  have := h i j (Nat.zero_le _) hij (by simpa using hj)
  simp only [gt_arr] at this
  have e1 : gt l' i = l'[i] := by unfold gt; rw [List.getD_eq_getElem?_getD, List.getElem?_eq_getElem hi]; rfl
  have e2 : gt l' j = l'[j] := by unfold gt; rw [List.getD_eq_getElem?_getD, List.getElem?_eq_getElem hj]; rfl
  rw [e1, e2, cmpQ_first] at this
  rcases leP_total l'[i] l'[j] with g | g
  · exact g
  · exfalso
    have : firstP l'[j] l'[i] = true := by
      unfold firstP firstB
      unfold ltP at g
      simp only [Bool.or_eq_true, Bool.and_eq_true, decide_eq_true_eq, beq_iff_eq]
      omega
    simp_all

end Go.Proofs.Ytnijcdphmibjaaa
