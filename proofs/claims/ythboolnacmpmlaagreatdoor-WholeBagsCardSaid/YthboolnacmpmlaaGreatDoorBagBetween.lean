/- Bags: what lies in memory between two rounds of whole.Bags. -/
import Derived.RangeFuncFrom
import Derived.Test.YthboolnacmpmlaaGreatDoorBagBack
namespace Go.Proofs.YthboolnacmpmlaaGreatDoor
open Go.RowKit Go.Shelf Bag
attribute [local go_sem] Oper.semAt_some

/-- What Bags leaves. -/
def BagsTo (w : World) (l : List Nat) (t : Nat) (e : Ending) (w' : World) : Prop :=
  Below w.heap.size w w' ∧ ((best l t < never ∧ ∃ g : Nat, e = .returned (.tuple #[.slice (some ⟨g, 0, none⟩) l.length l.length, .int .i64 0]) ∧ w.heap.size ≤ g ∧ Blk w' g 3 (cellsOf (toI (counts l t)))) ∨
    (¬ best l t < never ∧ e = .returned (.tuple #[.slice none 0 0, .int .i64 6])))

theorem zero_bslice : (Tryz.prog.info? 45).map (fun i => (i.zero, i.size, i.bytes)) = some (some (.slice none 0 0), 1, 24) := by kernel_rfl
/-- Slices of bools as cells. -/
def nilsOf (n : Nat) : Array Value := (List.replicate n (Value.slice none 0 0)).toArray
theorem made_nils (m : Nat) : madeCells #[Value.slice none 0 0] m = nilsOf m := by
  apply Array.ext
  · simp [madeCells, nilsOf]
  · intro i h1 h2
    simp [madeCells, nilsOf, Nat.mod_one]
theorem make_slices (m : Nat) (hm : m ≤ 1000) (W : World) : (Instr.makeSlice 41 (.int .i64 (m : Int)) (.int .i64 (m : Int))).run Tryz.prog W =
    .ok (.slice (some ⟨W.heap.size, 0, none⟩) m m) (W.alloc (.cells (nilsOf m) 45)) := by
  obtain ⟨i0, hi0, hz0, hz1, hz2⟩ := info_parts zero_bslice
  have h := run_makeSlice (P := Tryz.prog) W 41 45 i0 _ Tryz.underlying41 hi0 hz0 .i64 .i64 (m : Int) (m : Int) (by omega) (Int.le_refl _) (by rw [hz1]; omega) (by rw [hz2]; omega) (by omega)
  rw [h, hz1, Nat.mul_one, Int.toNat_natCast]
  rw [show (Value.slice none 0 0).cells = #[Value.slice none 0 0] from rfl, made_nils]

theorem natblk_start {w : World} {g m : Nat} (h : Blk w g 3 (cellsOf (List.replicate m 1099511627776))) (hm : 1 ≤ m) : NatBlk (w.setCell ⟨g, 0, none⟩ (.int .i64 0)) g m (best []) := by
  have h1 := h.set_ 0 (.int .i64 0)
  rw [start_cells m hm] at h1
  have e : (0 :: List.replicate (m - 1) 1099511627776) = natsOf m (best []) := by
    apply List.ext_getElem
    · simp [natsOf]; omega
    · intro i h1 h2
      simp only [natsOf, List.getElem_map, List.getElem_range, best_nil]
      cases i with
      | zero => rfl
      | succ i => simp [never]
  rw [e] at h1
  exact h1

theorem Blk.kept {W W' : World} {g B : Nat} {t : TypeId} {cs : Array Value} {row : Option Nat} (h : Blk W g t cs) (hg : W.grownBy W' row) (hr : ∀ r, row = some r → B ≤ r ∧ ∃ o : Obj, W.heap[r]? = some o ∧ o.isCells = false) : Blk W' g t cs := by
  refine h.same (hg.block g h.lt fun e => ?_)
  obtain ⟨_, o, ho, hc⟩ := hr g e.symm
  have h' : W.heap[g]? = _ := h
  rw [h'] at ho
  obtain rfl := Option.some.inj ho
  cases hc

theorem Blk.gb {W W' : World} {g k : Nat} {t : TypeId} {cs : Array Value} (h : Blk W k t cs) (hg : W.drew.grownBy W' (some g)) (hne : k ≠ g) : Blk W' k t cs :=
  h.same (hg.block k h.lt fun e => hne (by cases e; rfl))
theorem Blk.get {W : World} {k i : Nat} {t : TypeId} {cs : Array Value} {v : Value} (h : Blk W k t cs) (hv : cs[i]? = some v) : W.cell? ⟨k, i, none⟩ = some v := (h.cell i).trans hv

/-- The sizes that were looked at, the last one first. -/
def seen (l : List Nat) (n : Nat) (pre : List (Fin n)) : List Nat := (pre.map fun x => l.getD (n - 1 - x.val) 0).reverse
theorem seen_snoc (l : List Nat) (n : Nat) (pre : List (Fin n)) (x : Fin n) : seen l n (pre ++ [x]) = l.getD (n - 1 - x.val) 0 :: seen l n pre := by simp [seen]
theorem seen_inOrder {l : List Nat} {n : Nat} (hn : l.length = n) : ∀ (k : Nat) (pre : List (Fin n)), k ≤ n → inOrder pre k → seen l n pre = l.drop (n - k)
  | 0, pre, _, h => by
    have : pre = [] := by have := h.length; exact List.eq_nil_of_length_eq_zero this
    subst this
    simp [seen, ← hn]
  | k + 1, pre, hk, h => by
    rcases List.eq_nil_or_concat pre with rfl | ⟨p, x, rfl⟩
    · have := h.length; simp at this
    · rw [List.concat_eq_append] at h ⊢
      have h' := h
      unfold inOrder at h
      rw [List.map_append, List.range_succ] at h
      obtain ⟨h1, h2⟩ := List.append_inj' h rfl
      have hx : x.val = k := by simpa using h2
      have ih := seen_inOrder hn k p (by omega) h1
      rw [seen_snoc, ih, hx]
      have hl : n - (k + 1) < l.length := by omega
      rw [List.drop_eq_getElem_cons hl]
      congr 1
      · rw [show n - 1 - k = n - (k + 1) by omega]
        simp [List.getD, hl]
      · congr 1; omega

/-- What lies in memory between two rounds. -/
def Between (w : World) (l : List Nat) (n N g b6 B : Nat) (pre : List (Fin n)) (W : World) : Prop :=
  Blk W b6 22 #[.slice (some ⟨g, 0, none⟩) N N] ∧ Blk W (b6 + 1 + 1) 41 #[.slice (some ⟨b6 + 1, 0, none⟩) n n] ∧ NatBlk W g N (best (seen l n pre)) ∧ Below w.heap.size w W ∧ B ≤ W.heap.size ∧
  ∃ cs, Blk W (b6 + 1) 45 cs ∧ cs.size = n ∧ ∀ k, inOrder pre k → ∀ j, j < k → ∃ gj, cs[n - 1 - j]? = some (.slice (some ⟨gj, 0, none⟩) N N) ∧ B ≤ gj ∧ Blk W gj 4 (boolsOf N (need (l.getD (n - 1 - j) 0) (l.drop (n - j))))

theorem Between.own {w : World} {l : List Nat} {n N g b6 B : Nat} (hB : w.heap.size ≤ B) : OwnFrom B (Between w l n N g b6 B) := by
  rintro pre W W' row ⟨h1, h2, h3, h4, h5, cs, h6, h7, h8⟩ hg hr
  refine ⟨h1.kept hg hr, h2.kept hg hr, Blk.kept h3 hg hr, h4.grown hg h4.size (fun k hk => ?_), Nat.le_trans h5 hg.size, cs, h6.kept hg hr, h7, fun k hk j hj => ?_⟩
  · have := (hr k hk).1; omega
  · obtain ⟨gj, e1, e2, e3⟩ := h8 k hk j hj
    exact ⟨gj, e1, e2, e3.kept hg hr⟩

/-- One more round. -/
theorem between_step {w W w3 : World} {l : List Nat} {n N g b6 z q g3 : Nat} {vq : Value} {cs : Array Value} {pre : List (Fin n)} {x : Fin n} (hgl : g < b6) (hwb : w.heap.size + 1 ≤ b6) (hwg : w.heap.size + 1 ≤ g)
    (H1 : Blk W b6 22 #[.slice (some ⟨g, 0, none⟩) N N]) (H2 : Blk W (b6 + 1 + 1) 41 #[.slice (some ⟨b6 + 1, 0, none⟩) n n]) (H3 : NatBlk W g N (best (seen l n pre))) (H4 : Below w.heap.size w W) (H5 : b6 + 1 + 1 + 1 + 1 ≤ W.heap.size) (H6 : Blk W (b6 + 1) 45 cs) (H7 : cs.size = n)
    (H8 : ∀ k, inOrder pre k → ∀ j, j < k → ∃ gj, cs[n - 1 - j]? = some (.slice (some ⟨gj, 0, none⟩) N N) ∧ b6 + 1 + 1 + 1 + 1 ≤ gj ∧ Blk W gj 4 (boolsOf N (need (l.getD (n - 1 - j) 0) (l.drop (n - j)))))
    (HQX : ∀ k, inOrder (pre ++ [x]) (k + 1) → inOrder pre k ∧ x.val = k) (HSN : seen l n (pre ++ [x]) = z :: seen l n pre) (HQQ : n - 1 - x.val = q) (HZQ : l.getD q 0 = z) (HN : l.length = n) (HCQ : cs[q]? = some vq)
    (HGE3 : W.drew.heap.size ≤ g3) (HB3 : Blk w3 g3 4 (boolsOf N (need z (seen l n pre)))) (HN3 : NatBlk w3 g N (best (z :: seen l n pre))) (HG3 : W.drew.grownBy w3 (some g)) :
    KeepsOthers W (w3.setCell ⟨b6 + 1, q, none⟩ (.slice (some ⟨g3, 0, none⟩) N N)) ∧ KeepB (b6 + 1 + 1 + 1) w.heap.size W (w3.setCell ⟨b6 + 1, q, none⟩ (.slice (some ⟨g3, 0, none⟩) N N)) ∧
      Between w l n N g b6 (b6 + 1 + 1 + 1 + 1) (pre ++ [x]) (w3.setCell ⟨b6 + 1, q, none⟩ (.slice (some ⟨g3, 0, none⟩) N N)) := by
  have hsz : W.heap.size ≤ w3.heap.size := HG3.size
  have hge : W.heap.size ≤ g3 := HGE3
  have hbel : Below w.heap.size W w3 := ((Below.refl _ _).drew.grown HG3 (by show w.heap.size ≤ W.heap.size; omega) (fun k e => by cases e; omega))
  have hbel' : Below w.heap.size W (w3.setCell ⟨b6 + 1, q, none⟩ (.slice (some ⟨g3, 0, none⟩) N N)) := hbel.setCell (by show w.heap.size ≤ b6 + 1; omega) _
  have far : ∀ k o, W.heap[k]? = some o → k ≠ g → k ≠ b6 + 1 → (w3.setCell ⟨b6 + 1, q, none⟩ (.slice (some ⟨g3, 0, none⟩) N N)).heap[k]? = W.heap[k]? := fun k o hk h1 h2 =>
    (Below.heap_setCell w3 _ _ k h2).trans (HG3.block k (Array.getElem?_eq_some_iff.1 hk).1 (fun e => by cases e; exact h1 rfl))
  refine ⟨((KeepsOthers.drew W).trans (KeepsOthers.of_grownBy HG3 fun j o e hj => ?_)).trans (KeepsOthers.setCell _ _ _), ⟨fun v hv => ?_, hbel'⟩, ?_, ?_, ?_, H4.trans hbel', by simp; omega, cs.setIfInBounds q (.slice (some ⟨g3, 0, none⟩) N N), ?_, by simpa using H7, ?_⟩
  · cases e
    have h3 : W.heap[g]? = some _ := H3
    have hj' : W.heap[g]? = some o := hj
    rw [h3] at hj'
    obtain rfl := Option.some.inj hj'
    rfl
  · have hlt : b6 + 1 + 1 + 1 < W.heap.size := by omega
    exact (World.cell?_of_block (a := ⟨b6 + 1 + 1 + 1, 0, none⟩) (far (b6 + 1 + 1 + 1) _ (Array.getElem?_eq_getElem hlt) (by omega) (by omega))).trans hv
  · exact H1.same (far _ _ H1 (by omega) (by omega))
  · exact H2.same (far _ _ H2 (by omega) (by omega))
  · rw [HSN]
    exact Blk.far HN3 (p := ⟨b6 + 1, q, none⟩) (by show g ≠ b6 + 1; omega) _
  · have h6 : Blk w3 (b6 + 1) 45 cs := H6.same (HG3.block _ H6.lt (fun e => by cases e; omega))
    exact h6.set_ q _
  · intro k hk j hj
    have hkl := hk.length
    rw [List.length_append, List.length_singleton] at hkl
    obtain ⟨k', rfl⟩ : ∃ k', k = k' + 1 := ⟨pre.length, hkl.symm⟩
    obtain ⟨hp, hxk⟩ := HQX k' hk
    have hkn : k' < n := by rw [← hxk]; exact x.isLt
    by_cases hjk : j = k'
    · subst hjk
      have hq : n - 1 - j = q := by rw [← HQQ, hxk]
      refine ⟨g3, ?_, by omega, ?_⟩
      · rw [hq, Array.getElem?_setIfInBounds_self_of_lt (Array.getElem?_eq_some_iff.1 HCQ).1]
      · rw [hq, HZQ, ← seen_inOrder HN j pre (by omega) hp]
        exact HB3.far (p := ⟨b6 + 1, q, none⟩) (by show g3 ≠ b6 + 1; omega) _
    · obtain ⟨gj, e1, e2, e3⟩ := H8 k' hp j (by omega)
      refine ⟨gj, ?_, e2, e3.same (far _ _ e3 (by omega) (by omega))⟩
      rw [Array.getElem?_setIfInBounds_ne (by rw [← HQQ, hxk]; omega)]
      exact e1

end Go.Proofs.YthboolnacmpmlaaGreatDoor
