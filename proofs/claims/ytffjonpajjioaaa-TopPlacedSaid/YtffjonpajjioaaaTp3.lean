/- Parts of the proof, one after the other: PolysOwn, HullMath, HullSpec, HullWrap, HullConvex, HullWhere, DevChain, DevClone, DevSort. -/
import Derived.Test.YtffjonpajjioaaaTp2
import Derived.Lib.SliceRun
import Derived.Shelf.GgSortFunc.InsertionK
/- Lists of polygons in slices of a call's own. -/
namespace Go.Proofs.Ytffjonpajjioaaa
open Go.RowKit Go.Sort

/-- A list of points at the head of a block of points. -/
def PtsTy (w : World) (A : Option Addr) (l : List Pt) : Prop := ∃ g cur, A = some ⟨g, 0, none⟩ ∧ w.heap[g]? = some (.cells cur 27 (0, 0)) ∧ PtsIn w g 0 l
theorem PtsTy.lt {w : World} {A : Option Addr} {l : List Pt} (h : PtsTy w A l) : ∃ g, A = some ⟨g, 0, none⟩ ∧ g < w.heap.size ∧ PtsIn w g 0 l := by
  obtain ⟨g, cur, rfl, h1, h2⟩ := h
  exact ⟨g, rfl, (Array.getElem?_eq_some_iff.1 h1).1, h2⟩
theorem PtsTy.at {w : World} {A : Option Addr} {l : List Pt} (h : PtsTy w A l) : PtsAt w A l := fun _ => by
  obtain ⟨g, e, h1, h2⟩ := h.lt
  exact ⟨g, 0, e, h1, h2⟩
theorem PtsIn.same {w w' : World} {g off : Nat} {l : List Pt} (h : PtsIn w g off l) (e : w'.heap[g]? = w.heap[g]?) : PtsIn w' g off l := fun i p hp => by
  obtain ⟨h1, h2⟩ := h i p hp
  exact ⟨(World.cell?_of_block (a := ⟨g, _, none⟩) e).trans h1, (World.cell?_of_block (a := ⟨g, _, none⟩) e).trans h2⟩
theorem PtsTy.below {w w' : World} {A : Option Addr} {l : List Pt} (h : PtsTy w A l) (hb : Below w.heap.size w w') : PtsTy w' A l := by
  obtain ⟨g, cur, rfl, h1, h2⟩ := h
  have hlt := (Array.getElem?_eq_some_iff.1 h1).1
  have e := hb.block g hlt
  exact ⟨g, cur, rfl, e.trans h1, h2.same e⟩
/-- It stays behind an append to a row of another type. -/
theorem PtsTy.kept {w w' : World} {A : Option Addr} {l : List Pt} {row : Option Nat} (h : PtsTy w A l) (hg : w.grownBy w' row) (hne : ∀ k cur, row = some k → w.heap[k]? ≠ some (.cells cur 27 (0, 0))) : PtsTy w' A l := by
  obtain ⟨g, cur, rfl, h1, h2⟩ := h
  have hlt := (Array.getElem?_eq_some_iff.1 h1).1
  have e := hg.block g hlt (fun e => hne g cur e.symm h1)
  exact ⟨g, cur, rfl, e.trans h1, h2.same e⟩
theorem PtBlk.ty {w : World} {g : Nat} {l : List Pt} (h : PtBlk w g l) : PtsTy w (some ⟨g, 0, none⟩) l := ⟨g, _, rfl, h, h.pts⟩
theorem PtsOwn.ty {w : World} {base : Nat} {v : Value} {l : List Pt} (h : PtsOwn w base v l) (hl : l ≠ []) : ∃ A c, v = .slice A l.length c ∧ PtsTy w A l ∧ ∀ a, A = some a → base ≤ a.block := by
  obtain ⟨A, c, e, -, h1, h2⟩ := h.slice
  refine ⟨A, c, e, ?_, h2⟩
  subst e
  rcases h.2 with ⟨hv, hn⟩ | ⟨g, cap, cur, hv, _, hg, _⟩
  · exact absurd (List.eq_nil_of_length_eq_zero hn) hl
  · simp only [Value.slice.injEq] at hv
    obtain ⟨rfl, -, -⟩ := hv
    obtain ⟨b, off, e, -, hp⟩ := h1 hl
    have e := Option.some.inj e
    simp only [Addr.mk.injEq] at e
    obtain ⟨rfl, rfl, -⟩ := e
    exact ⟨g, _, rfl, hg, hp⟩

abbrev Sl := Option Addr × Nat × Nat
def slV (ss : List Sl) : List Value := ss.map fun s => .slice s.1 s.2.1 s.2.2
/-- A slice of polygons of the call's own. -/
def PolysOwn (w : World) (base : Nat) (v : Value) (L : List (List Pt)) : Prop :=
  ∃ ss : List Sl, ss.length = L.length ∧ w.ownsRow base 24 1 v L.length (slV ss) ∧ ∀ (i : Nat) (s : Sl) (l : List Pt), ss[i]? = some s → L[i]? = some l → l.length = s.2.1 ∧ (l ≠ [] → PtsTy w s.1 l)
/-- A slice of polygons, to be read. -/
def PolysAt (w : World) (A : Option Addr) (L : List (List Pt)) : Prop := L ≠ [] → ∃ b off, A = some ⟨b, off, none⟩ ∧ b < w.heap.size ∧ PolysIn w b off L
theorem PolysAt.below {w w' : World} {A : Option Addr} {L : List (List Pt)} (h : PolysAt w A L) (hb : Below w.heap.size w w') : PolysAt w' A L := fun hne => by
  obtain ⟨b, off, e, hlt, hp⟩ := h hne
  exact ⟨b, off, e, Nat.lt_of_lt_of_le hlt hb.size, hp.below hb hlt⟩

theorem PolysOwn.nil (w : World) (base : Nat) : PolysOwn w base (.slice none 0 0) [] := ⟨[], rfl, World.ownsRow_nil _ _ _ _, fun i s l h => (by simp at h)⟩
theorem PolysOwn.empty (w : World) : PolysOwn (w.alloc (.cells #[] 24)) w.heap.size (.slice (some ⟨w.heap.size, 0, none⟩) 0 0) [] :=
  ⟨[], rfl, World.ownsRow_made w #[] 0 (Nat.le_refl _) (by simp [maxLen]) rfl, fun i s l h => (by simp at h)⟩
theorem PolysOwn.low {w : World} {base base' : Nat} {v : Value} {L : List (List Pt)} (h : PolysOwn w base v L) (hb : base' ≤ base) : PolysOwn w base' v L := by
  obtain ⟨ss, h1, h2, h3⟩ := h
  refine ⟨ss, h1, ⟨h2.1, ?_⟩, h3⟩
  rcases h2.2 with h2 | ⟨g, cap, cur, e, hg, r⟩
  · exact .inl h2
  · exact .inr ⟨g, cap, cur, e, Nat.le_trans hb hg, r⟩
theorem PolysOwn.base {w : World} {base : Nat} {v : Value} {L : List (List Pt)} (h : PolysOwn w base v L) : ∀ k, v.ownBlock = some k → base ≤ k ∧ k < w.heap.size := by
  obtain ⟨ss, -, h2, -⟩ := h
  exact h2.lt
theorem PolysOwn.typed {w : World} {base : Nat} {v : Value} {L : List (List Pt)} (h : PolysOwn w base v L) : ∀ k, v.ownBlock = some k → ∃ cur, w.heap[k]? = some (.cells cur 24 (0, 0)) := fun k hk => by
  obtain ⟨ss, -, h2, -⟩ := h
  rcases h2.2 with ⟨rfl, -⟩ | ⟨g, cap, cur, rfl, _, hg, _⟩
  · simp [Value.ownBlock] at hk
  · simp [Value.ownBlock] at hk
    subst hk
    exact ⟨_, hg⟩
theorem PolysOwn.kept {w w' : World} {base : Nat} {v : Value} {L : List (List Pt)} {row : Option Nat} (h : PolysOwn w base v L) (hg : w.grownBy w' row)
    (hne : ∀ k cur, row = some k → w.heap[k]? ≠ some (.cells cur 27 (0, 0)) ∧ w.heap[k]? ≠ some (.cells cur 24 (0, 0))) : PolysOwn w' base v L := by
  have ht := h.typed
  obtain ⟨ss, h1, h2, h3⟩ := h
  refine ⟨ss, h1, h2.kept hg ?_, fun i s l hs hl => ?_⟩
  · cases e : v.ownBlock with
    | none => exact .inl rfl
    | some k =>
      refine .inr fun e2 => ?_
      obtain ⟨cur, hc⟩ := ht k e
      exact (hne k cur e2.symm).2 hc
  · obtain ⟨h4, h5⟩ := h3 i s l hs hl
    exact ⟨h4, fun he => (h5 he).kept hg fun k cur e => (hne k cur e).1⟩
theorem PolysOwn.belows {w w' : World} {base : Nat} {v : Value} {L : List (List Pt)} (h : PolysOwn w base v L) (hb : Below w.heap.size w w') : PolysOwn w' base v L :=
  h.kept (row := none) ⟨hb.os, hb.tape, hb.output, hb.size, fun i hi _ => hb.block i hi⟩ (fun k cur e => by cases e)
theorem PolysOwn.slice {w : World} {base : Nat} {v : Value} {L : List (List Pt)} (h : PolysOwn w base v L) (hlen : ∀ l ∈ L, l.length ≤ 1000000) : ∃ A c, v = .slice A L.length c ∧ PolysAt w A L := by
  obtain ⟨ss, h1, h2, h3⟩ := h
  rcases h2.2 with ⟨rfl, hn⟩ | ⟨g, cap, cur, rfl, hb, hg, hnc, _, hsz, ht⟩
  · refine ⟨none, 0, by rw [hn], fun hne => absurd (List.eq_nil_of_length_eq_zero hn) hne⟩
  · refine ⟨_, cap, rfl, fun _ => ⟨g, 0, rfl, (Array.getElem?_eq_some_iff.1 hg).1, fun i l hi => ?_⟩⟩
    have hlt : i < ss.length := by rw [h1]; exact (List.getElem?_eq_some_iff.1 hi).1
    obtain ⟨h4, h5⟩ := h3 i ss[i] l (List.getElem?_eq_getElem hlt) hi
    refine ⟨ss[i].1, ss[i].2.1, ss[i].2.2, ?_, h4, by rw [← h4]; exact hlen l (List.mem_of_getElem? hi), fun he => (h5 he).at he⟩
    have hv : (slV ss)[i]? = some (.slice ss[i].1 ss[i].2.1 ss[i].2.2) := by unfold slV; rw [List.getElem?_map, List.getElem?_eq_getElem hlt]; rfl
    rw [← ht, List.getElem?_take] at hv
    rw [Nat.zero_add, cell_of_row w g _ cur _ (0, 0) hg]
    split at hv
    · simpa using hv
    · cases hv

theorem info_sl : (Try.prog.info? 24).map (fun i => (i.zero, i.size, i.bytes)) = some (some (.slice none 0 0), 1, 24) := by kernel_rfl

/-- An append of one polygon. -/
theorem plapp_run {w : World} {base : Nat} {v : Value} {L : List (List Pt)} (h : PolysOwn w base v L) {b : Nat} {A : Option Addr} {n c : Nat} {l : List Pt} (hc : w.cell? ⟨b, 0, none⟩ = some (.slice A n c)) (hl : l.length = n) (ht : l ≠ [] → PtsTy w A l)
    (hlen : L.length + 1 ≤ 100000) (hb : base ≤ w.heap.size) (ty : TypeId) :
    ∃ v' w', (Builtin.append_ #[23, 23] ty #[v, .slice (some ⟨b, 0, none⟩) 1 1]).run Try.prog w = .ok v' w' ∧ PolysOwn w' base v' (L ++ [l]) ∧ w.grownBy w' v.ownBlock ∧
      (v'.ownBlock = v.ownBlock ∨ v'.ownBlock = some w.heap.size) := by
  obtain ⟨i0, hi0, hz0, hz1, hz2⟩ := info_pparts info_sl
  have htt := h.typed
  obtain ⟨ss, h1, h2, h3⟩ := h
  obtain ⟨v', w', hr, h4, h5, _, h6⟩ := run_append_own_at (P := Try.prog) w base 23 ty 24 i0 _ 1 24 Try.underlying23 hi0 hz0 hz1 hz2 rfl (by omega) v L.length (slV ss) h2 ⟨b, 0, none⟩ 1 1 [.slice A n c] rfl
    (fun j u hu => by
      match j, hu with
      | 0, hu =>
        obtain rfl : Value.slice A n c = u := by simpa using hu
        exact hc)
    (fun u hu => by obtain rfl := List.mem_singleton.1 hu; rfl) (by simp [maxLen]; omega) (by omega) hb
  have keep : ∀ {A : Option Addr} {l : List Pt}, PtsTy w A l → PtsTy w' A l := fun {A l} hp => hp.kept h5 fun k cur e => by
    obtain ⟨cur', hc'⟩ := htt k e
    rw [hc']
    simp
  refine ⟨v', w', hr, ⟨ss ++ [(A, n, c)], by simp [h1], ?_, fun i s l' hs hl' => ?_⟩, h5, h6⟩
  · have e2 : slV (ss ++ [(A, n, c)]) = slV ss ++ [.slice A n c] := by simp [slV]
    rw [e2, List.length_append]
    exact h4
  · by_cases hi : i < ss.length
    · rw [List.getElem?_append_left hi] at hs
      rw [List.getElem?_append_left (by omega)] at hl'
      obtain ⟨h7, h8⟩ := h3 i s l' hs hl'
      exact ⟨h7, fun he => keep (h8 he)⟩
    · have hi2 : i = ss.length := by
        have := (List.getElem?_eq_some_iff.1 hs).1
        simp at this; omega
      subst hi2
      rw [List.getElem?_append_right (Nat.le_refl _), Nat.sub_self] at hs
      rw [h1, List.getElem?_append_right (Nat.le_refl _), Nat.sub_self] at hl'
      obtain rfl : (A, n, c) = s := by simpa using hs
      obtain rfl : l = l' := by simpa using hl'
      exact ⟨hl, fun he => keep (ht he)⟩

theorem wpList_plapp {w : World} {ops : Array Oper} {rest : List Oper} {o : Oper} {a : Act} {Q : Exit → Act → World → Prop} (hgd : o.guard = none) (s x : Operand)
    (ho : o.op = .call { callee := .builtin .append, args := #[s, x], argTypes := #[23, 23] }) (base : Nat) (v : Value) (L : List (List Pt)) (b : Nat) (A : Option Addr) (n c : Nat) (l : List Pt)
    (hs : a.eval s = v) (hx : a.eval x = .slice (some ⟨b, 0, none⟩) 1 1) (hown : PolysOwn w base v L) (hc : w.cell? ⟨b, 0, none⟩ = some (.slice A n c)) (hl : l.length = n) (ht : l ≠ [] → PtsTy w A l) (hlen : L.length + 1 ≤ 100000) (hb : base ≤ w.heap.size)
    (h : ∀ v' w', PolysOwn w' base v' (L ++ [l]) → w.grownBy w' v.ownBlock → (v'.ownBlock = v.ownBlock ∨ v'.ownBlock = some w.heap.size) → wpList Try.prog ops Q rest (a.put o.dst v') w') : wpList Try.prog ops Q (o :: rest) a w :=
  wpList_plain hgd fun _ hK => by
    obtain ⟨v', w', hr, h2, h3, h4⟩ := plapp_run hown hc hl ht hlen hb o.type
    unfold Oper.wp execOp
    simp only [ho, resolve, invoke, builtin, Sem.run_bind, Sem.run_pure, Result.andThen_ok, List.map_toArray, List.map_cons, List.map_nil, hs, hx, hr]
    exact hK _ _ (h v' w' h2 h3 h4)
end Go.Proofs.Ytffjonpajjioaaa

/- Plain mathematics of convex hulls: the monotone chain. -/
namespace Go.Proofs.Ytffjonpajjioaaa

/-- The cross product of two vectors. -/
def xr (u v : Pt) : Int := u.1 * v.2 - v.1 * u.2
def subP (a b : Pt) : Pt := (a.1 - b.1, a.2 - b.2)
/-- Upward, or to the right. -/
def Up (v : Pt) : Prop := 0 < v.2 ∨ (v.2 = 0 ∧ 0 < v.1)
/-- From below, then from the left. -/
def ltP (a b : Pt) : Prop := a.2 < b.2 ∨ (a.2 = b.2 ∧ a.1 < b.1)
def leP (a b : Pt) : Prop := a = b ∨ ltP a b

theorem up_sub {a b : Pt} : Up (subP b a) ↔ ltP a b := by unfold Up subP ltP; simp only; omega
theorem ltP_trans {a b c : Pt} (h : ltP a b) (k : ltP b c) : ltP a c := by unfold ltP at *; omega
theorem ltP_irrefl (a : Pt) : ¬ ltP a a := by unfold ltP; omega
theorem ltP_asymm {a b : Pt} (h : ltP a b) : ¬ ltP b a := by unfold ltP at *; omega
theorem leP_trans {a b c : Pt} (h : leP a b) (k : leP b c) : leP a c := by
  rcases h with rfl | h
  · exact k
  · rcases k with rfl | k
    · exact .inr h
    · exact .inr (ltP_trans h k)
theorem leP_refl (a : Pt) : leP a a := .inl rfl
theorem ltP_leP {a b c : Pt} (h : ltP a b) (k : leP b c) : ltP a c := by
  rcases k with rfl | k
  · exact h
  · exact ltP_trans h k
theorem leP_ltP {a b c : Pt} (h : leP a b) (k : ltP b c) : ltP a c := by
  rcases h with rfl | h
  · exact k
  · exact ltP_trans h k
theorem leP_total (a b : Pt) : leP a b ∨ ltP b a := by
  obtain ⟨x, y⟩ := a
  obtain ⟨u, v⟩ := b
  unfold leP ltP
  simp only [Prod.mk.injEq]
  omega
theorem leP_anti {a b : Pt} (h : leP a b) (k : leP b a) : a = b := by
  rcases h with h | h
  · exact h
  · rcases k with k | k
    · exact k.symm
    · exact absurd k (ltP_asymm h)

theorem nonneg_of_mul {v z s : Int} (hv : 0 < v) (h : v * z = s) (hs : 0 ≤ s) : 0 ≤ z := by
  rcases Int.lt_or_le z 0 with g | g
  · have := Int.mul_neg_of_pos_of_neg hv g; omega
  · exact g
theorem pos_of_mul {v z s : Int} (hv : 0 < v) (h : v * z = s) (hs : 0 < s) : 0 < z := by
  rcases Int.lt_or_le 0 z with g | g
  · exact g
  · have := Int.mul_nonpos_of_nonneg_of_nonpos (Int.le_of_lt hv) g; omega
theorem up_y {u : Pt} (h : Up u) : 0 ≤ u.2 := by unfold Up at h; omega

/-- In the upper half plane the angles are ordered. -/
theorem xr_trans {u v w : Pt} (hu : Up u) (hv : Up v) (hw : Up w) (h : 0 ≤ xr u v) (k : 0 ≤ xr v w) : 0 ≤ xr u w := by
  have e : v.2 * xr u w = w.2 * xr u v + u.2 * xr v w := by unfold xr; grind
  have a1 := Int.mul_nonneg (up_y hw) h
  have a2 := Int.mul_nonneg (up_y hu) k
  rcases hv with g | ⟨g, g'⟩
  · exact nonneg_of_mul g e (by omega)
  · have e2 : xr u v = - (v.1 * u.2) := by unfold xr; rw [g]; grind
    have e3 : xr v w = v.1 * w.2 := by unfold xr; rw [g]; grind
    have u0 : u.2 = 0 := by
      rcases Int.lt_or_le 0 u.2 with q | q
      · have := Int.mul_pos g' q; omega
      · have := up_y hu; omega
    have e4 : xr u w = u.1 * w.2 := by unfold xr; rw [u0]; grind
    have hu1 : 0 < u.1 := by unfold Up at hu; omega
    rw [e4]
    exact Int.mul_nonneg (Int.le_of_lt hu1) (up_y hw)
theorem xr_trans1 {u v w : Pt} (hu : Up u) (hv : Up v) (hw : Up w) (h : 0 < xr u v) (k : 0 ≤ xr v w) : 0 < xr u w := by
  have e : v.2 * xr u w = w.2 * xr u v + u.2 * xr v w := by unfold xr; grind
  have hv2 : 0 < v.2 := by
    rcases hv with g | ⟨g, g'⟩
    · exact g
    · have e2 : xr u v = - (v.1 * u.2) := by unfold xr; rw [g]; grind
      have := Int.mul_nonneg (Int.le_of_lt g') (up_y hu)
      omega
  have hw2 : 0 < w.2 := by
    rcases hw with g | ⟨g, g'⟩
    · exact g
    · have e2 : xr v w = - (w.1 * v.2) := by unfold xr; rw [g]; grind
      have := Int.mul_pos g' hv2
      omega
  have a1 := Int.mul_pos hw2 h
  have a2 := Int.mul_nonneg (up_y hu) k
  exact pos_of_mul hv2 e (by omega)
theorem xr_trans2 {u v w : Pt} (hu : Up u) (hv : Up v) (hw : Up w) (h : 0 ≤ xr u v) (k : 0 < xr v w) : 0 < xr u w := by
  have e : v.2 * xr u w = w.2 * xr u v + u.2 * xr v w := by unfold xr; grind
  have hw2 : 0 < w.2 := by
    rcases hw with g | ⟨g, g'⟩
    · exact g
    · have e2 : xr v w = - (w.1 * v.2) := by unfold xr; rw [g]; grind
      have := Int.mul_nonneg (Int.le_of_lt g') (up_y hv)
      omega
  rcases hv with g | ⟨g, g'⟩
  · rcases hu with q | ⟨q, q'⟩
    · have a1 := Int.mul_nonneg (up_y (.inl hw2)) h
      have a2 := Int.mul_pos q k
      exact pos_of_mul g e (by omega)
    · have e2 : xr u v = u.1 * v.2 := by unfold xr; rw [q]; grind
      have e3 : xr u w = u.1 * w.2 := by unfold xr; rw [q]; grind
      rw [e3]; exact Int.mul_pos q' hw2
  · have e2 : xr u v = - (v.1 * u.2) := by unfold xr; rw [g]; grind
    have u0 : u.2 = 0 := by
      rcases Int.lt_or_le 0 u.2 with q | q
      · have := Int.mul_pos g' q; omega
      · have := up_y hu; omega
    have e4 : xr u w = u.1 * w.2 := by unfold xr; rw [u0]; grind
    have hu1 : 0 < u.1 := by unfold Up at hu; omega
    rw [e4]; exact Int.mul_pos hu1 hw2

theorem crossP_xr (a b c : Pt) : crossP a b c = xr (subP b a) (subP c a) := by unfold crossP cross xr subP; grind
theorem crossP_xr2 (a b c : Pt) : crossP a b c = xr (subP b a) (subP c b) := by unfold crossP cross xr subP; grind

/-- A point is to the left of an edge, or on it. -/
def LeftOn (a b p : Pt) : Prop := 0 < crossP a b p ∨ onP a b p = true
theorem onP_cross {a b p : Pt} (h : onP a b p = true) : crossP a b p = 0 := by
  unfold onP onB at h
  simp only [Bool.and_eq_true, beq_iff_eq] at h
  exact h.1.1
theorem LeftOn.nonneg {a b p : Pt} (h : LeftOn a b p) : 0 ≤ crossP a b p := by
  rcases h with h | h
  · omega
  · rw [onP_cross h]; omega
/-- On a line, what lies between in the order lies between. -/
theorem on_of_between {a b p : Pt} (h : crossP a b p = 0) (h1 : leP a p) (h2 : leP p b) : onP a b p = true := by
  obtain ⟨ax, ay⟩ := a
  obtain ⟨bx, by'⟩ := b
  obtain ⟨px, py⟩ := p
  rcases h1 with e | h1
  · rw [← e]; exact onP_start _ _
  · rcases h2 with e | h2
    · rw [e]
      have := (on_iff ax ay (bx - ax) (by' - ay) (bx - ax) (by' - ay)).2 ⟨by unfold al; grind, by unfold btw; omega, by unfold btw; omega⟩
      rw [show ax + (bx - ax) = bx by omega, show ay + (by' - ay) = by' by omega] at this
      exact this
    · have hc : (bx - ax) * (py - ay) = (px - ax) * (by' - ay) := by unfold crossP cross at h; simp only at h; omega
      have key := (on_iff ax ay (bx - ax) (by' - ay) (px - ax) (py - ay))
      rw [show ax + (bx - ax) = bx by omega, show ay + (by' - ay) = by' by omega, show ax + (px - ax) = px by omega, show ay + (py - ay) = py by omega] at key
      refine key.2 ⟨by unfold al; omega, ?_⟩
      unfold ltP at h1 h2
      simp only at h1 h2
      have hy : btw (py - ay) (by' - ay) := by unfold btw; omega
      by_cases e : by' - ay = 0
      · refine ⟨?_, hy⟩
        unfold btw; omega
      · exact ⟨btw_dim e (by rw [Int.mul_comm, ← hc, Int.mul_comm]) hy, hy⟩


theorem onP_end (a b : Pt) (h : leP a b) : onP a b b = true := on_of_between (by unfold crossP cross; grind) h (leP_refl b)

/-- The edges of a chain whose last point stands first. -/
def edges : List Pt → List (Pt × Pt)
  | b :: a :: r => (a, b) :: edges (a :: r)
  | _ => []
def EdgeOK (P : List Pt) (a b : Pt) : Prop := ∀ p ∈ P, LeftOn a b p
def vec (e : Pt × Pt) : Pt := subP e.2 e.1
def Chn (P : List Pt) : List Pt → Prop
  | b :: a :: r => Chn P (a :: r) ∧ ltP a b ∧ EdgeOK P a b ∧ ∀ e ∈ edges (a :: r), 0 < xr (vec e) (subP b a)
  | _ => True
def popW (x : Pt) : List Pt → List Pt
  | b :: a :: r => if crossP a b x ≤ 0 then popW x (a :: r) else b :: a :: r
  | l => l
def pushW (st : List Pt) (x : Pt) : List Pt := x :: popW x st
def chainW (l : List Pt) : List Pt := l.foldl pushW []

theorem chn_edges {P : List Pt} : ∀ {st : List Pt}, Chn P st → ∀ e ∈ edges st, ltP e.1 e.2 ∧ EdgeOK P e.1 e.2
  | [], _, _, h => by cases h
  | [_], _, _, h => by cases h
  | b :: a :: r, hc, e, h => by
    obtain ⟨h1, h2, h3, _⟩ := hc
    rcases List.mem_cons.1 h with rfl | h
    · exact ⟨h2, h3⟩
    · exact chn_edges h1 e h
theorem chn_more {P : List Pt} {x : Pt} : ∀ {st : List Pt}, Chn P st → (∀ e ∈ edges st, LeftOn e.1 e.2 x) → Chn (x :: P) st
  | [], _, _ => trivial
  | [_], _, _ => trivial
  | b :: a :: r, hc, h => by
    obtain ⟨h1, h2, h3, h4⟩ := hc
    refine ⟨chn_more h1 (fun e he => h e (List.mem_cons_of_mem _ he)), h2, fun p hp => ?_, h4⟩
    rcases List.mem_cons.1 hp with rfl | hp
    · exact h (a, b) (List.mem_cons_self)
    · exact h3 p hp
theorem edges_mem : ∀ {st : List Pt} {e : Pt × Pt}, e ∈ edges st → e.1 ∈ st ∧ e.2 ∈ st
  | [], _, h => by cases h
  | [_], _, h => by cases h
  | b :: a :: r, e, h => by
    rcases List.mem_cons.1 h with rfl | h
    · exact ⟨by simp, by simp⟩
    · obtain ⟨h1, h2⟩ := edges_mem h
      exact ⟨List.mem_cons_of_mem _ h1, List.mem_cons_of_mem _ h2⟩

theorem q_step {P : List Pt} {a t x : Pt} (h1 : ltP a t) (h2 : ltP t x) (hx : ∀ p ∈ P, leP p x) (hc : crossP a t x ≤ 0) (he : EdgeOK P a t) (hq : ∀ p ∈ P, leP t p → LeftOn t x p) :
    ∀ p ∈ P, leP a p → LeftOn a x p := by
  intro p hp hap
  have hax := ltP_trans h1 h2
  have hpx := hx p hp
  have hA : Up (subP t a) := up_sub.2 h1
  have hB : Up (subP x t) := up_sub.2 h2
  have hAB : Up (subP x a) := up_sub.2 hax
  have hBA : 0 ≤ xr (subP x t) (subP t a) := by
    have : crossP a t x = - xr (subP x t) (subP t a) := by unfold crossP cross xr subP; grind
    omega
  have key : 0 ≤ crossP a x p := by
    rcases leP_total t p with g | g
    · rcases hpx with rfl | hpx
      · rw [show crossP a p p = 0 by unfold crossP cross; grind]; omega
      · have hD : Up (subP x p) := up_sub.2 hpx
        have k1 := (hq p hp g).nonneg
        have e1 : crossP t x p = xr (subP x p) (subP x t) := by unfold crossP cross xr subP; grind
        have e2 : crossP a x p = xr (subP x p) (subP t a) + xr (subP x p) (subP x t) := by unfold crossP cross xr subP; grind
        have := xr_trans hD hB hA (by omega) hBA
        omega
    · have k1 := (he p hp).nonneg
      rcases hap with rfl | hap
      · rw [show crossP a x a = 0 by unfold crossP cross; grind]; omega
      · have hC : Up (subP p a) := up_sub.2 hap
        have e1 : crossP a t p = xr (subP t a) (subP p a) := crossP_xr a t p
        have e2 : xr (subP x a) (subP t a) = xr (subP x t) (subP t a) := by unfold xr subP; grind
        rw [crossP_xr]
        exact xr_trans hAB hA hC (by omega) (by omega)
  rcases Int.lt_or_eq_of_le key with g | g
  · exact .inl g
  · exact .inr (on_of_between g.symm hap hpx)

/-- What popping leaves. -/
structure Popped (P : List Pt) (x : Pt) (t : Pt) (r : List Pt) : Prop where
  chn : Chn P (t :: r)
  lt : ltP t x
  q : ∀ p ∈ P, leP t p → LeftOn t x p
  turn : ∀ a r', r = a :: r' → 0 < crossP a t x

theorem pop_ok {P : List Pt} {x : Pt} (hx : ∀ p ∈ P, leP p x) : ∀ (t : Pt) (r : List Pt), Chn P (t :: r) → ltP t x → (∀ p ∈ P, leP t p → LeftOn t x p) →
    ∃ t' r', popW x (t :: r) = t' :: r' ∧ Popped P x t' r' ∧ (t' :: r') <:+ (t :: r)
  | t, [], hc, hl, hq => ⟨t, [], rfl, ⟨hc, hl, hq, fun _ _ h => by cases h⟩, List.suffix_refl _⟩
  | t, a :: r, hc, hl, hq => by
    by_cases h : crossP a t x ≤ 0
    · obtain ⟨h1, h2, h3, h4⟩ := hc
      obtain ⟨t', r', e, hp, hs⟩ := pop_ok hx a r h1 (ltP_trans h2 hl) (q_step h2 hl hx h h3 hq)
      refine ⟨t', r', ?_, hp, hs.trans (List.suffix_cons _ _)⟩
      rw [popW, if_pos h]; exact e
    · refine ⟨t, a :: r, ?_, ⟨hc, hl, hq, fun a' r' e => ?_⟩, List.suffix_refl _⟩
      · rw [popW, if_neg h]
      · obtain ⟨rfl, rfl⟩ : a = a' ∧ r = r' := by simpa using e
        omega

theorem push_ok {P : List Pt} {x s0 t : Pt} {r : List Pt} (h : Popped P x t r) (hin : ∀ s ∈ t :: r, s ∈ P) (hx : ∀ p ∈ P, leP p x) (hlast : (t :: r).getLast? = some s0) (hlow : ∀ p ∈ P, leP s0 p) :
    Chn (x :: P) (x :: t :: r) := by
  have hB : Up (subP x t) := up_sub.2 h.lt
  have turns : ∀ e ∈ edges (t :: r), 0 < xr (vec e) (subP x t) := by
    intro e he
    cases r with
    | nil => cases he
    | cons a r =>
      have ht := h.turn a r rfl
      obtain ⟨h1, h2, h3, h4⟩ := h.chn
      have e0 : crossP a t x = xr (subP t a) (subP x t) := crossP_xr2 a t x
      rcases List.mem_cons.1 he with rfl | he
      · show 0 < xr (subP t a) (subP x t); omega
      · have hv : Up (vec e) := up_sub.2 (chn_edges h1 e he).1
        exact xr_trans1 hv (up_sub.2 h2) hB (h4 e he) (by omega)
  have old : ∀ e ∈ edges (t :: r), LeftOn e.1 e.2 x := by
    intro e he
    left
    have k1 := ((chn_edges h.chn e he).2 t (hin t (by simp))).nonneg
    have k2 := turns e he
    have e0 : crossP e.1 e.2 x = crossP e.1 e.2 t + xr (vec e) (subP x t) := by unfold crossP cross xr vec subP; grind
    omega
  refine ⟨chn_more h.chn old, h.lt, fun p hp => ?_, turns⟩
  rcases List.mem_cons.1 hp with rfl | hp
  · exact .inr (onP_end _ _ (.inr h.lt))
  · rcases leP_total t p with g | g
    · exact h.q p hp g
    · left
      cases r with
      | nil =>
        obtain rfl : t = s0 := by simpa using hlast
        exact absurd (leP_ltP (hlow p hp) g) (ltP_irrefl _)
      | cons a r =>
        have ht := h.turn a r rfl
        obtain ⟨h1, h2, h3, h4⟩ := h.chn
        have k1 := (h3 p hp).nonneg
        have e1 : crossP a t p = xr (subP t p) (subP t a) := by unfold crossP cross xr subP; grind
        have e2 : crossP a t x = xr (subP t a) (subP x t) := crossP_xr2 a t x
        have e3 : crossP t x p = xr (subP t p) (subP x t) := by unfold crossP cross xr subP; grind
        have := xr_trans2 (up_sub.2 g) (up_sub.2 h2) hB (by omega) (by omega)
        omega

/-- A chain over points that are not all one. -/
structure Good (P : List Pt) (s0 : Pt) (st : List Pt) : Prop where
  chn : Chn P st
  two : 2 ≤ st.length
  top : ∃ t r, st = t :: r ∧ ∀ p ∈ P, leP p t
  last : st.getLast? = some s0
  low : ∀ p ∈ P, leP s0 p
  sub : ∀ s ∈ st, s ∈ P
/-- .. and over points that are. -/
def Same (P : List Pt) (s0 : Pt) (st : List Pt) : Prop := (∀ p ∈ P, p = s0) ∧ s0 ∈ P ∧ (st = [s0] ∨ st = [s0, s0])

theorem same_push {P : List Pt} {s0 : Pt} {st : List Pt} (h : Same P s0 st) {x : Pt} (hx : leP s0 x) : Same (x :: P) s0 (pushW st x) ∨ Good (x :: P) s0 (pushW st x) := by
  obtain ⟨h1, h2, h3⟩ := h
  have e0 : ∀ q, crossP s0 s0 q = 0 := fun q => by unfold crossP cross; grind
  have hp : pushW st x = [x, s0] := by
    rcases h3 with rfl | rfl
    · rfl
    · show x :: popW x [s0, s0] = _
      rw [popW, if_pos (by rw [e0]; omega)]; rfl
  rw [hp]
  rcases hx with rfl | hx
  · left
    exact ⟨fun p hp => by rcases List.mem_cons.1 hp with h | h; exact h; exact h1 p h, by simp, .inr rfl⟩
  · right
    refine ⟨⟨trivial, hx, fun p hp => ?_, fun e he => by cases he⟩, by simp, ⟨x, [s0], rfl, fun p hp => ?_⟩, rfl, fun p hp => ?_, fun s hs => ?_⟩
    · rcases List.mem_cons.1 hp with rfl | hp
      · exact .inr (onP_end _ _ (.inr hx))
      · rw [h1 p hp]; exact .inr (onP_start _ _)
    · rcases List.mem_cons.1 hp with rfl | hp
      · exact leP_refl _
      · rw [h1 p hp]; exact .inr hx
    · rcases List.mem_cons.1 hp with rfl | hp
      · exact .inr hx
      · rw [h1 p hp]; exact leP_refl _
    · rcases List.mem_cons.1 hs with rfl | hs
      · simp
      · have : s = s0 := by simpa using hs
        subst this; exact List.mem_cons_of_mem _ h2

theorem good_push {P : List Pt} {s0 : Pt} {st : List Pt} (h : Good P s0 st) {x : Pt} (hx : ∀ p ∈ P, leP p x) : Good (x :: P) s0 (pushW st x) := by
  obtain ⟨t, r, rfl, htop⟩ := h.top
  have fin : ∀ t' r', popW x (t :: r) = t' :: r' → Popped P x t' r' → (t' :: r') <:+ (t :: r) → Good (x :: P) s0 (pushW (t :: r) x) := by
    intro t' r' e hp hs
    have hl : (t' :: r').getLast? = some s0 := by
      obtain ⟨pre, hpre⟩ := hs
      have := h.last
      rw [← hpre, List.getLast?_append] at this
      cases e2 : (t' :: r').getLast? with
      | none => simp at e2
      | some y => rw [e2] at this; simpa using this
    have hin : ∀ s ∈ t' :: r', s ∈ P := fun s hs' => h.sub s (hs.subset hs')
    have hne : pushW (t :: r) x = x :: t' :: r' := by unfold pushW; rw [e]
    rw [hne]
    refine ⟨push_ok hp hin hx hl h.low, by simp, ⟨x, _, rfl, fun p hp' => ?_⟩, ?_, fun p hp' => ?_, fun s hs' => ?_⟩
    · rcases List.mem_cons.1 hp' with rfl | hp'
      · exact leP_refl _
      · exact hx p hp'
    · rw [List.getLast?_cons_cons]; exact hl
    · rcases List.mem_cons.1 hp' with rfl | hp'
      · exact leP_trans (h.low t' (hin t' (by simp))) (.inr hp.lt)
      · exact h.low p hp'
    · rcases List.mem_cons.1 hs' with rfl | hs'
      · simp
      · exact List.mem_cons_of_mem _ (hin s hs')
  rcases hx t (h.sub t (by simp)) with e | hlt
  · subst e
    cases r with
    | nil => have := h.two; simp at this
    | cons a r =>
      obtain ⟨h1, h2, h3, h4⟩ := h.chn
      obtain ⟨t', r', e, hp, hs⟩ := pop_ok hx a r h1 h2 (fun p hp _ => h3 p hp)
      refine fin t' r' ?_ hp (hs.trans (List.suffix_cons _ _))
      rw [popW, if_pos (by rw [show crossP a t t = 0 by unfold crossP cross; grind]; omega)]; exact e
  · obtain ⟨t', r', e, hp, hs⟩ := pop_ok hx t r h.chn hlt (fun p hp hle => by
      have : p = t := leP_anti (htop p hp) hle
      subst this; exact .inr (onP_start _ _))
    exact fin t' r' e hp hs

/-- The chain over sorted points. -/
theorem chain_ok : ∀ (l P : List Pt) (s0 : Pt) (st : List Pt), (Same P s0 st ∨ Good P s0 st) → (∀ p ∈ P, ∀ x ∈ l, leP p x) → l.Pairwise leP → s0 ∈ P →
    ∃ Q, (∀ p, p ∈ Q ↔ p ∈ P ∨ p ∈ l) ∧ (Same Q s0 (l.foldl pushW st) ∨ Good Q s0 (l.foldl pushW st))
  | [], P, s0, st, h, _, _, _ => ⟨P, by simp, h⟩
  | x :: l, P, s0, st, h, hle, hs, h0 => by
    obtain ⟨h1, h2⟩ := List.pairwise_cons.1 hs
    have step : Same (x :: P) s0 (pushW st x) ∨ Good (x :: P) s0 (pushW st x) := by
      rcases h with h | h
      · exact same_push h (hle s0 h0 x (by simp))
      · exact .inr (good_push h (fun p hp => hle p hp x (by simp)))
    obtain ⟨Q, hQ, hr⟩ := chain_ok l (x :: P) s0 (pushW st x) step (fun p hp y hy => by
      rcases List.mem_cons.1 hp with rfl | hp
      · exact h1 y hy
      · exact hle p hp y (List.mem_cons_of_mem _ hy)) h2 (List.mem_cons_of_mem _ h0)
    refine ⟨Q, fun p => ?_, hr⟩
    rw [hQ]; simp only [List.mem_cons]
    constructor
    · rintro ((h | h) | h)
      · exact .inr (.inl h)
      · exact .inl h
      · exact .inr (.inr h)
    · rintro (h | h | h)
      · exact .inl (.inr h)
      · exact .inl (.inl h)
      · exact .inr h

end Go.Proofs.Ytffjonpajjioaaa

/- Plain mathematics of convex hulls: what the chains make, and what wrapping finds. -/
namespace Go.Proofs.Ytffjonpajjioaaa

def negP (p : Pt) : Pt := (-p.1, -p.2)
theorem negP_negP (p : Pt) : negP (negP p) = p := by unfold negP; simp
theorem negP_inj {p q : Pt} (h : negP p = negP q) : p = q := by rw [← negP_negP p, h, negP_negP]
theorem crossP_neg (a b c : Pt) : crossP (negP a) (negP b) (negP c) = crossP a b c := by unfold crossP cross negP; grind
theorem ltP_neg {a b : Pt} : ltP (negP a) (negP b) ↔ ltP b a := by unfold ltP negP; simp only; omega
theorem leP_neg {a b : Pt} : leP (negP a) (negP b) ↔ leP b a := by
  unfold leP
  rw [ltP_neg]
  constructor
  · rintro (h | h)
    · exact .inl (negP_inj h).symm
    · exact .inr h
  · rintro (h | h)
    · exact .inl (by rw [h])
    · exact .inr h
theorem onP_iff (a b p : Pt) : onP a b p = true ↔ al (b.1 - a.1) (b.2 - a.2) (p.1 - a.1) (p.2 - a.2) = 0 ∧ btw (p.1 - a.1) (b.1 - a.1) ∧ btw (p.2 - a.2) (b.2 - a.2) := by
  have key := on_iff a.1 a.2 (b.1 - a.1) (b.2 - a.2) (p.1 - a.1) (p.2 - a.2)
  rw [show a.1 + (b.1 - a.1) = b.1 by omega, show a.2 + (b.2 - a.2) = b.2 by omega, show a.1 + (p.1 - a.1) = p.1 by omega, show a.2 + (p.2 - a.2) = p.2 by omega] at key
  exact key
theorem onP_neg (a b p : Pt) : onP (negP a) (negP b) (negP p) = onP a b p := by
  rw [Bool.eq_iff_iff, onP_iff, onP_iff]
  unfold negP al btw
  simp only
  rw [show (-b.1 - -a.1) * (-p.2 - -a.2) - (-p.1 - -a.1) * (-b.2 - -a.2) = (b.1 - a.1) * (p.2 - a.2) - (p.1 - a.1) * (b.2 - a.2) by grind]
  omega
theorem LeftOn_neg {a b p : Pt} : LeftOn (negP a) (negP b) (negP p) ↔ LeftOn a b p := by unfold LeftOn; rw [crossP_neg, onP_neg]

theorem popW_neg (x : Pt) : ∀ st : List Pt, popW (negP x) (st.map negP) = (popW x st).map negP
  | [] => rfl
  | [_] => rfl
  | b :: a :: r => by
    have ih := popW_neg x (a :: r)
    simp only [List.map_cons, popW, crossP_neg] at ih ⊢
    split
    · exact ih
    · rfl
theorem chainW_neg (l : List Pt) : chainW (l.map negP) = (chainW l).map negP := by
  have key : ∀ (l st : List Pt), (l.map negP).foldl pushW (st.map negP) = (l.foldl pushW st).map negP := by
    intro l
    induction l with
    | nil => intro st; rfl
    | cons x l ih =>
      intro st
      simp only [List.map_cons, List.foldl_cons]
      rw [← ih]
      congr 1
      unfold pushW
      rw [popW_neg]; rfl
  exact key l []

/-- An edge of the hull. -/
structure Hedge (P : List Pt) (a b : Pt) : Prop where
  ne : a ≠ b
  ok : ∀ p ∈ P, LeftOn a b p
  fst : a ∈ P
  snd : b ∈ P

/-- A chain, forward: from one end to the other. -/
structure Fwd (P L : List Pt) (s t : Pt) : Prop where
  two : 2 ≤ L.length
  first : L[0]? = some s
  last : L[L.length - 1]? = some t
  edge : ∀ i a b, L[i]? = some a → L[i + 1]? = some b → Hedge P a b

theorem edges_at {R : Pt → Pt → Prop} : ∀ {st : List Pt}, (∀ e ∈ edges st, R e.1 e.2) → ∀ j a b, st[j + 1]? = some a → st[j]? = some b → R a b
  | [], _, _, _, _, h, _ => by simp at h
  | [_], _, _, _, _, h, _ => by simp at h
  | y :: x :: r, h, 0, a, b, h1, h2 => by
    obtain rfl : x = a := by simpa using h1
    obtain rfl : y = b := by simpa using h2
    exact h (x, y) (by simp [edges])
  | y :: x :: r, h, j + 1, a, b, h1, h2 =>
    edges_at (st := x :: r) (fun e he => h e (List.mem_cons_of_mem _ he)) j a b (by simpa using h1) (by simpa using h2)

theorem Fwd.of_edges {P st : List Pt} {s t : Pt} {r : List Pt} (h2 : 2 ≤ st.length) (ht : st = t :: r) (hs : st.getLast? = some s) (he : ∀ e ∈ edges st, Hedge P e.1 e.2) : Fwd P st.reverse s t := by
  have hl : st.reverse.length = st.length := List.length_reverse
  refine ⟨by omega, ?_, ?_, fun i a b ha hb => ?_⟩
  · rw [List.getElem?_reverse (by omega), Nat.sub_zero, ← List.getLast?_eq_getElem?]; exact hs
  · rw [hl, List.getElem?_reverse (by omega), show st.length - 1 - (st.length - 1) = 0 by omega, ht]; rfl
  · have hi : i + 1 < st.length := by
      have := (List.getElem?_eq_some_iff.1 hb).1; omega
    rw [List.getElem?_reverse (by omega)] at ha hb
    exact edges_at he (st.length - 1 - (i + 1)) a b (by rw [show st.length - 1 - (i + 1) + 1 = st.length - 1 - i by omega]; exact ha) hb

def hullL (s : List Pt) : List Pt := (chainW s).reverse.dropLast ++ (chainW s.reverse).reverse.dropLast

/-- What a hull is: its points in their order round it. -/
structure Hull (P H : List Pt) (s0 : Pt) : Prop where
  first : gt H 0 = s0
  two : 2 ≤ H.length
  edge : ∀ i, i < H.length → Hedge P (gt H i) (nx H i)
  once : ∀ i, 0 < i → i < H.length → gt H i ≠ s0

theorem gt_of {l : List Pt} {i : Nat} {p : Pt} (h : l[i]? = some p) : gt l i = p := by
  unfold gt; rw [List.getD_eq_getElem?_getD, h]; rfl

theorem Hull.join {P U D : List Pt} {s t : Pt} (hu : Fwd P U s t) (hd : Fwd P D t s) (hu1 : ∀ i a, 0 < i → U[i]? = some a → a ≠ s) (hd1 : ∀ i a, i + 1 < D.length → D[i]? = some a → a ≠ s) : Hull P (U.dropLast ++ D.dropLast) s := by
  have lu := hu.two
  have ld := hd.two
  have hlen : (U.dropLast ++ D.dropLast).length = (U.length - 1) + (D.length - 1) := by simp
  have gu : ∀ i, i < U.length - 1 → (U.dropLast ++ D.dropLast)[i]? = U[i]? := fun i hi => by
    rw [List.getElem?_append_left (by simpa using hi), List.getElem?_dropLast, if_pos hi]
  have gd : ∀ j, j < D.length - 1 → (U.dropLast ++ D.dropLast)[(U.length - 1) + j]? = D[j]? := fun j hj => by
    rw [List.getElem?_append_right (by simp), List.length_dropLast, Nat.add_sub_cancel_left, List.getElem?_dropLast, if_pos hj]
  have some_u : ∀ i, i < U.length → ∃ a, U[i]? = some a := fun i hi => ⟨U[i], List.getElem?_eq_getElem hi⟩
  have some_d : ∀ i, i < D.length → ∃ a, D[i]? = some a := fun i hi => ⟨D[i], List.getElem?_eq_getElem hi⟩
  have f0 : (U.dropLast ++ D.dropLast)[0]? = some s := by rw [gu 0 (by omega)]; exact hu.first
  have nxg : ∀ i, nx (U.dropLast ++ D.dropLast) i = gt (U.dropLast ++ D.dropLast) ((i + 1) % (U.dropLast ++ D.dropLast).length) := fun _ => rfl
  refine ⟨gt_of f0, by omega, fun i hi => ?_, fun i h0 hi => ?_⟩
  · rw [hlen] at hi
    rcases Nat.lt_or_ge i (U.length - 1) with g | g
    · obtain ⟨a, ha⟩ := some_u i (by omega)
      obtain ⟨b, hb⟩ := some_u (i + 1) (by omega)
      have e1 : gt (U.dropLast ++ D.dropLast) i = a := gt_of ((gu i g).trans ha)
      have e2 : nx (U.dropLast ++ D.dropLast) i = b := by
        rw [nxg, hlen, Nat.mod_eq_of_lt (by omega)]
        rcases Nat.lt_or_ge (i + 1) (U.length - 1) with q | q
        · exact gt_of ((gu _ q).trans hb)
        · have : i + 1 = U.length - 1 := by omega
          have h1 := gd 0 (by omega)
          rw [Nat.add_zero, ← this, hd.first] at h1
          rw [this, hu.last] at hb
          rw [gt_of h1]; exact Option.some.inj hb
      rw [e1, e2]
      exact hu.edge i a b ha hb
    · obtain ⟨j, rfl⟩ : ∃ j, i = (U.length - 1) + j := ⟨i - (U.length - 1), by omega⟩
      obtain ⟨a, ha⟩ := some_d j (by omega)
      obtain ⟨b, hb⟩ := some_d (j + 1) (by omega)
      have e1 : gt (U.dropLast ++ D.dropLast) ((U.length - 1) + j) = a := gt_of ((gd j (by omega)).trans ha)
      have e2 : nx (U.dropLast ++ D.dropLast) ((U.length - 1) + j) = b := by
        rw [nxg, hlen]
        rcases Nat.lt_or_ge (j + 1) (D.length - 1) with q | q
        · rw [Nat.mod_eq_of_lt (by omega)]
          exact gt_of ((gd (j + 1) q).trans hb)
        · have hj : j + 1 = D.length - 1 := by omega
          rw [show U.length - 1 + j + 1 = U.length - 1 + (D.length - 1) by omega, Nat.mod_self, gt_of f0]
          rw [hj, hd.last] at hb
          exact Option.some.inj hb
      rw [e1, e2]
      exact hd.edge j a b ha hb
  · rw [hlen] at hi
    rcases Nat.lt_or_ge i (U.length - 1) with g | g
    · obtain ⟨a, ha⟩ := some_u i (by omega)
      rw [gt_of ((gu i g).trans ha)]
      exact hu1 i a h0 ha
    · obtain ⟨j, rfl⟩ : ∃ j, i = (U.length - 1) + j := ⟨i - (U.length - 1), by omega⟩
      obtain ⟨a, ha⟩ := some_d j (by omega)
      rw [gt_of ((gd j (by omega)).trans ha)]
      exact hd1 j a (by omega) ha

/-- Along a chain the points rise. -/
theorem rises {P : List Pt} : ∀ {st : List Pt}, Chn P st → ∀ (j : Nat) (a b : Pt), st[j]? = some b → ∀ i : Nat, j < i → st[i]? = some a → ltP a b
  | [], _, _, _, _, h, _, _, _ => by simp at h
  | [_], _, j, a, b, h, i, hi, h' => by
    have h1 := (List.getElem?_eq_some_iff.1 h').1
    simp at h1; omega
  | y :: x :: r, hc, j, a, b, h, i, hi, h' => by
    obtain ⟨h1, h2, h3, h4⟩ := hc
    obtain ⟨i, rfl⟩ : ∃ i', i = i' + 1 := ⟨i - 1, by omega⟩
    rw [List.getElem?_cons_succ] at h'
    cases j with
    | zero =>
      obtain rfl : y = b := by simpa using h
      cases i with
      | zero =>
        obtain rfl : x = a := by simpa using h'
        exact h2
      | succ i => exact ltP_trans (rises h1 0 a x rfl (i + 1) (by omega) h') h2
    | succ j =>
      rw [List.getElem?_cons_succ] at h
      exact rises h1 j a b h i (by omega) h'

theorem sorted_neg {s : List Pt} (h : s.Pairwise leP) : (s.reverse.map negP).Pairwise leP := by
  rw [List.pairwise_map, List.pairwise_reverse]
  exact h.imp fun hab => leP_neg.2 hab

/-- The chain over a sorted list. -/
theorem chain_sorted {x : Pt} {l : List Pt} (hs : (x :: l).Pairwise leP) :
    ∃ Q, (∀ p, p ∈ Q ↔ p ∈ x :: l) ∧ (Same Q x (chainW (x :: l)) ∨ Good Q x (chainW (x :: l))) := by
  obtain ⟨h1, h2⟩ := List.pairwise_cons.1 hs
  obtain ⟨Q, hQ, hr⟩ := chain_ok l [x] x [x] (.inl ⟨by simp, by simp, .inl rfl⟩) (fun p hp y hy => by
    have : p = x := by simpa using hp
    subst this; exact h1 y hy) h2 (by simp)
  exact ⟨Q, fun p => by rw [hQ]; simp, hr⟩

theorem hedge_same {P Q : List Pt} (h : ∀ p, p ∈ Q ↔ p ∈ P) {a b : Pt} (k : Hedge Q a b) : Hedge P a b :=
  ⟨k.ne, fun p hp => k.ok p ((h p).2 hp), (h a).1 k.fst, (h b).1 k.snd⟩

/-- THE HULL OF SORTED POINTS. -/
theorem hull_ok {x : Pt} {l : List Pt} (hs : (x :: l).Pairwise leP) :
    ((∀ p ∈ x :: l, p = x) ∧ (hullL (x :: l)).length ≤ 2) ∨ Hull (x :: l) (hullL (x :: l)) x := by
  obtain ⟨Q, hQ, hr⟩ := chain_sorted hs
  obtain ⟨h1, h2⟩ := List.pairwise_cons.1 hs
  have hlow : ∀ p ∈ x :: l, leP x p := fun p hp => by
    rcases List.mem_cons.1 hp with rfl | hp
    · exact leP_refl _
    · exact h1 p hp
  cases hrev : (x :: l).reverse with
  | nil => simp at hrev
  | cons y m =>
    have hmem : ∀ p, p ∈ y :: m ↔ p ∈ x :: l := fun p => by rw [← hrev]; exact List.mem_reverse
    have hns := sorted_neg hs
    rw [hrev, List.map_cons] at hns
    obtain ⟨R, hR, hr2⟩ := chain_sorted hns
    rw [← List.map_cons, chainW_neg] at hr2
    have hR2 : ∀ p, negP p ∈ R ↔ p ∈ x :: l := fun p => by
      rw [hR, ← List.map_cons, List.mem_map]
      constructor
      · rintro ⟨q, hq, e⟩
        rw [← negP_inj e]; exact (hmem q).1 hq
      · intro h; exact ⟨p, (hmem p).2 h, rfl⟩
    have hhigh : ∀ p ∈ x :: l, leP p y := fun p hp => by
      have := (List.pairwise_cons.1 hns).1
      rcases List.mem_cons.1 ((hmem p).2 hp) with e | e
      · rw [e]; exact leP_refl _
      · exact leP_neg.1 (this (negP p) (List.mem_map.2 ⟨p, e, rfl⟩))
    have hy : y ∈ x :: l := (hmem y).1 (by simp)
    unfold hullL
    rw [hrev]
    rcases hr with hr | hr
    · left
      have hall : ∀ p ∈ x :: l, p = x := fun p hp => hr.1 p ((hQ p).2 hp)
      refine ⟨hall, ?_⟩
      have l1 : (chainW (x :: l)).length ≤ 2 := by rcases hr.2.2 with e | e <;> rw [e] <;> simp
      have l2 : (chainW (y :: m)).length ≤ 2 := by
        rcases hr2 with hr2 | hr2
        · have : ((chainW (y :: m)).map negP).length ≤ 2 := by rcases hr2.2.2 with e | e <;> rw [e] <;> simp
          simpa using this
        · exfalso
          have t2 := hr2.two
          have c := hr2.chn
          match hst : (chainW (y :: m)).map negP, c with
          | [], _ => rw [hst] at t2; simp at t2
          | [_], _ => rw [hst] at t2; simp at t2
          | b :: a :: r, c =>
            have sb := hr2.sub
            rw [hst] at sb
            have ea := hall (negP a) ((hR2 _).1 (by rw [negP_negP]; exact sb a (by simp)))
            have eb := hall (negP b) ((hR2 _).1 (by rw [negP_negP]; exact sb b (by simp)))
            have := c.2.1
            rw [negP_inj (ea.trans eb.symm)] at this
            exact ltP_irrefl _ this
      simp only [List.length_append, List.length_dropLast, List.length_reverse]
      omega
    · right
      obtain ⟨t, r, ht, htop⟩ := hr.top
      have hin := hr.sub
      have tty : t = y := leP_anti (hhigh t ((hQ t).1 (hin t (by rw [ht]; simp)))) (htop y ((hQ y).2 hy))
      have hu : Fwd (x :: l) (chainW (x :: l)).reverse x y := by
        refine Fwd.of_edges (r := r) hr.two (by rw [ht, tty]) hr.last fun e he => ?_
        obtain ⟨k1, k2⟩ := chn_edges hr.chn e he
        obtain ⟨k3, k4⟩ := edges_mem he
        exact ⟨fun q => ltP_irrefl _ (q ▸ k1), fun p hp => k2 p ((hQ p).2 hp), (hQ _).1 (hin _ k3), (hQ _).1 (hin _ k4)⟩
      have hr3 : Good R (negP y) ((chainW (y :: m)).map negP) := by
        rcases hr2 with hr2 | hr2
        · exfalso
          have hall : ∀ p ∈ x :: l, p = y := fun p hp => negP_inj (hr2.1 _ ((hR2 p).2 hp))
          have c := hr.chn
          match hst : chainW (x :: l), c with
          | [], _ => have := hr.two; rw [hst] at this; simp at this
          | [_], _ => have := hr.two; rw [hst] at this; simp at this
          | b :: a :: r, c =>
            rw [hst] at hin
            have ea := hall a ((hQ a).1 (hin a (by simp)))
            have eb := hall b ((hQ b).1 (hin b (by simp)))
            have := c.2.1
            rw [ea, eb] at this
            exact ltP_irrefl _ this
        · exact hr2
      have ed : ∀ e ∈ edges ((chainW (y :: m)).map negP), Hedge (x :: l) (negP e.1) (negP e.2) := fun e he => by
        obtain ⟨k1, k2⟩ := chn_edges hr3.chn e he
        obtain ⟨k3, k4⟩ := edges_mem he
        refine ⟨fun q => ltP_irrefl _ ((negP_inj q) ▸ k1), fun p hp => ?_, (hR2 _).1 (by rw [negP_negP]; exact hr3.sub _ k3), (hR2 _).1 (by rw [negP_negP]; exact hr3.sub _ k4)⟩
        have := k2 (negP p) ((hR2 p).2 hp)
        rw [← LeftOn_neg, negP_negP, negP_negP]
        exact this
      obtain ⟨t', r', ht', htop'⟩ := hr3.top
      have tx : negP t' = x := by
        have g1 : t' ∈ R := hr3.sub t' (by rw [ht']; simp)
        have g2 : negP t' ∈ x :: l := (hR2 _).1 (by rw [negP_negP]; exact g1)
        have g3 := htop' (negP x) ((hR2 x).2 (by simp))
        rw [← negP_negP t', leP_neg] at g3
        exact leP_anti g3 (hlow _ g2)
      have hd0 : Fwd (x :: l) (chainW (y :: m)).reverse y x := by
        have l2 : 2 ≤ (chainW (y :: m)).length := by simpa using hr3.two
        cases hst : chainW (y :: m) with
        | nil => rw [hst] at l2; simp at l2
        | cons b r2 =>
          have e1 : b = x := by
            have : negP b = t' := by rw [hst] at ht'; simpa using (List.cons.inj ht').1
            rw [← tx, ← this, negP_negP]
          have elast : (b :: r2).getLast? = some y := by
            have := hr3.last
            rw [hst, List.getLast?_map] at this
            cases e : (b :: r2).getLast? with
            | none => rw [e] at this; cases this
            | some q => rw [e] at this; rw [negP_inj (Option.some.inj this)]
          refine Fwd.of_edges (r := r2) (by rw [← hst]; exact l2) (by rw [e1]) elast fun e he => ?_
          have em : ∀ (st : List Pt) (e : Pt × Pt), e ∈ edges st → (negP e.1, negP e.2) ∈ edges (st.map negP) := by
            intro st
            induction st with
            | nil => intro e h; cases h
            | cons b st ih =>
              intro e h
              cases st with
              | nil => cases h
              | cons a st =>
                rcases List.mem_cons.1 h with rfl | h
                · simp [edges]
                · have := ih e h
                  simp only [List.map_cons] at this ⊢
                  exact List.mem_cons_of_mem _ this
          have := ed _ (by rw [hst]; exact em _ e he)
          simpa only [negP_negP] using this
      refine Hull.join hu hd0 (fun i a h0 ha => ?_) (fun i a hi ha => ?_)
      · have hl : (chainW (x :: l)).reverse.length = (chainW (x :: l)).length := List.length_reverse
        have hi : i < (chainW (x :: l)).length := by have := (List.getElem?_eq_some_iff.1 ha).1; omega
        rw [List.getElem?_reverse hi] at ha
        have hlast := hr.last
        rw [List.getLast?_eq_getElem?] at hlast
        intro e
        rw [e] at ha
        exact ltP_irrefl _ (rises hr.chn _ x x ha ((chainW (x :: l)).length - 1) (by omega) hlast)
      · have hl : (chainW (y :: m)).reverse.length = (chainW (y :: m)).length := List.length_reverse
        rw [hl] at hi
        rw [List.getElem?_reverse (by omega)] at ha
        intro e
        have hch := hr3.chn
        have h0 : ((chainW (y :: m)).map negP)[0]? = some t' := by rw [ht']; rfl
        have hj : ((chainW (y :: m)).map negP)[(chainW (y :: m)).length - 1 - i]? = some (negP a) := by rw [List.getElem?_map, ha]; rfl
        have := rises hch 0 (negP a) t' h0 _ (by omega) hj
        rw [e, ← tx, negP_negP] at this
        exact ltP_irrefl _ this

end Go.Proofs.Ytffjonpajjioaaa

/- Plain mathematics of convex hulls: what wrapping finds; points on one line. -/
namespace Go.Proofs.Ytffjonpajjioaaa

theorem crossP_swap (a b c : Pt) : crossP a b c = - crossP a c b := by unfold crossP cross; grind
theorem on_both {a t p : Pt} (h1 : onP a t p = true) (h2 : onP a p t = true) : p = t := by
  rw [onP_iff] at h1 h2
  obtain ⟨x, y⟩ := p
  obtain ⟨u, v⟩ := t
  unfold btw at h1 h2
  simp only [Prod.mk.injEq] at *
  omega

/-- One step of wrapping: the point where the next edge may end. -/
def wrapStep (at_ cur p : Pt) : Pt :=
  if p = at_ then cur else if cur = at_ ∨ crossP at_ cur p < 0 ∨ (crossP at_ cur p = 0 ∧ onP at_ p cur = true) then p else cur
def wrap (at_ : Pt) (l : List Pt) : Pt := l.foldl (wrapStep at_) at_

theorem wrap_keep {at_ t p : Pt} (hne : at_ ≠ t) (h : LeftOn at_ t p) : wrapStep at_ t p = t := by
  unfold wrapStep
  split
  · rfl
  · split
    · rename_i h1 h2
      rcases h2 with h2 | h2 | ⟨h2, h3⟩
      · exact absurd h2.symm hne
      · have := h.nonneg; omega
      · rcases h with h | h
        · omega
        · exact on_both h h3
    · rfl
theorem wrap_take {at_ t cur : Pt} (hne : at_ ≠ t) (h : cur = at_ ∨ LeftOn at_ t cur) : wrapStep at_ cur t = t := by
  unfold wrapStep
  rw [if_neg (fun e => hne e.symm), if_pos]
  rcases h with h | h
  · exact .inl h
  · have e := crossP_swap at_ cur t
    rcases h with h | h
    · exact .inr (.inl (by omega))
    · exact .inr (.inr ⟨by have := onP_cross h; omega, h⟩)
theorem wrap_fold {P : List Pt} {at_ t : Pt} (he : Hedge P at_ t) : ∀ (l : List Pt) (cur : Pt), (∀ p ∈ l, p ∈ P) → (cur = at_ ∨ cur ∈ P) → (t ∈ l ∨ cur = t) → l.foldl (wrapStep at_) cur = t
  | [], cur, _, _, h => by
    rcases h with h | h
    · cases h
    · exact h
  | p :: l, cur, hl, hcur, h => by
    rw [List.foldl_cons]
    have hp : p ∈ P := hl p (by simp)
    have hl' : ∀ q ∈ l, q ∈ P := fun q hq => hl q (List.mem_cons_of_mem _ hq)
    by_cases e : cur = t
    · rw [e, wrap_keep he.ne (he.ok p hp)]
      exact wrap_fold he l t hl' (.inr he.snd) (.inr rfl)
    · by_cases e2 : p = t
      · rw [e2, wrap_take he.ne (hcur.imp id (fun h => he.ok cur h))]
        exact wrap_fold he l t hl' (.inr he.snd) (.inr rfl)
      · have ht : t ∈ l := by
          rcases h with h | h
          · rcases List.mem_cons.1 h with h | h
            · exact absurd h.symm e2
            · exact h
          · exact absurd h e
        refine wrap_fold he l _ hl' ?_ (.inl ht)
        unfold wrapStep
        split
        · exact hcur
        · split
          · exact .inr hp
          · exact hcur
theorem wrap_edge {P : List Pt} {at_ t : Pt} (he : Hedge P at_ t) : wrap at_ P = t :=
  wrap_fold he P at_ (fun _ h => h) (.inl rfl) (.inl he.snd)

/-- All points lie on one line. -/
def Flat (P : List Pt) (o : Pt) : Prop := ∀ a ∈ P, ∀ b ∈ P, crossP o a b = 0
theorem Flat.all {P : List Pt} {o : Pt} (h : Flat P o) {a b c : Pt} (ha : a ∈ P) (hb : b ∈ P) (hc : c ∈ P) : crossP a b c = 0 := by
  have e : crossP a b c = crossP o a b + crossP o b c + crossP o c a := by unfold crossP cross; grind
  rw [e, h a ha b hb, h b hb c hc, h c hc a ha]; omega

theorem line_all {a b p q r : Pt} (hne : a ≠ b) (hp : crossP a b p = 0) (hq : crossP a b q = 0) (hr : crossP a b r = 0) : crossP p q r = 0 := by
  have key : ∀ (u v : Pt), xr (subP b a) u = 0 → xr (subP b a) v = 0 → xr u v = 0 := by
    intro u v h1 h2
    have e1 : (subP b a).1 * xr u v = u.1 * xr (subP b a) v - v.1 * xr (subP b a) u := by unfold xr; grind
    have e2 : (subP b a).2 * xr u v = u.2 * xr (subP b a) v - v.2 * xr (subP b a) u := by unfold xr; grind
    rw [h1, h2] at e1 e2
    simp only [Int.mul_zero, Int.sub_self] at e1 e2
    rcases Int.mul_eq_zero.1 e1 with g | g
    · rcases Int.mul_eq_zero.1 e2 with k | k
      · exfalso; apply hne
        obtain ⟨ax, ay⟩ := a
        obtain ⟨bx, by'⟩ := b
        unfold subP at g k
        simp only [Prod.mk.injEq] at *
        omega
      · exact k
    · exact g
  rw [crossP_xr] at hp hq hr ⊢
  have e1 : xr (subP b a) (subP q p) = xr (subP b a) (subP q a) - xr (subP b a) (subP p a) := by unfold xr subP; grind
  have e2 : xr (subP b a) (subP r p) = xr (subP b a) (subP r a) - xr (subP b a) (subP p a) := by unfold xr subP; grind
  exact key _ _ (by omega) (by omega)

theorem gt_nx {H : List Pt} {i : Nat} (h : i + 1 < H.length) : nx H i = gt H (i + 1) := by
  show gt H ((i + 1) % H.length) = _
  rw [Nat.mod_eq_of_lt h]

/-- A hull has three points or more exactly if its points are not on one line. -/
theorem hull_flat {P H : List Pt} {s0 o : Pt} (h : Hull P H s0) (ho : o ∈ P) : Flat P o ↔ H.length < 3 := by
  have two := h.two
  constructor
  · intro hf
    rcases Nat.lt_or_ge H.length 3 with g | g
    · exact g
    · exfalso
      have e0 := h.edge 0 (by omega)
      have e1 := h.edge 1 (by omega)
      rw [gt_nx (by omega)] at e0 e1
      have k0 := hf.all e0.fst e0.snd e1.snd
      have k1 := hf.all e1.fst e1.snd e0.fst
      have o0 : onP (gt H 0) (gt H 1) (gt H 2) = true := by
        rcases e0.ok _ e1.snd with q | q
        · have q' : 0 < crossP (gt H 0) (gt H 1) (gt H 2) := q
          have k0' : crossP (gt H 0) (gt H (0 + 1)) (gt H (1 + 1)) = 0 := k0
          simp only [Nat.zero_add] at k0'
          omega
        · exact q
      have o1 : onP (gt H 1) (gt H 2) (gt H 0) = true := by
        rcases e1.ok _ e0.fst with q | q
        · have q' : 0 < crossP (gt H 1) (gt H 2) (gt H 0) := q
          have k1' : crossP (gt H 1) (gt H (1 + 1)) (gt H 0) = 0 := k1
          omega
        · exact q
      have hne := h.once 2 (by omega) (by omega)
      apply hne
      rw [← h.first]
      rw [onP_iff] at o0 o1
      generalize gt H 0 = a at *
      generalize gt H 1 = b at *
      generalize gt H 2 = c at *
      obtain ⟨a1, a2⟩ := a
      obtain ⟨b1, b2⟩ := b
      obtain ⟨c1, c2⟩ := c
      unfold btw at o0 o1
      simp only [Prod.mk.injEq] at *
      omega
  · intro hl
    have hl2 : H.length = 2 := by omega
    have e0 := h.edge 0 (by omega)
    have e1 := h.edge 1 (by omega)
    have n0 : nx H 0 = gt H 1 := gt_nx (by omega)
    have n1 : nx H 1 = gt H 0 := by show gt H ((1 + 1) % H.length) = _; rw [hl2]
    rw [n0] at e0
    rw [n1] at e1
    have z : ∀ p ∈ P, crossP (gt H 0) (gt H 1) p = 0 := fun p hp => by
      have a1 := (e0.ok p hp).nonneg
      have a2 := (e1.ok p hp).nonneg
      have : crossP (gt H 1) (gt H 0) p = - crossP (gt H 0) (gt H 1) p := by unfold crossP cross; grind
      omega
    intro a ha b hb
    exact line_all e0.ne (z o ho) (z a ha) (z b hb)

theorem flat_one {P : List Pt} {x o : Pt} (h : ∀ p ∈ P, p = x) (ho : o ∈ P) : Flat P o := fun a ha b hb => by
  rw [h a ha, h b hb, h o ho]; unfold crossP cross; grind

theorem Hedge.mem {P Q : List Pt} (h : ∀ p, p ∈ Q ↔ p ∈ P) {a b : Pt} (k : Hedge P a b) : Hedge Q a b :=
  ⟨k.ne, fun p hp => k.ok p ((h p).1 hp), (h a).2 k.fst, (h b).2 k.snd⟩
theorem Hull.mem {P Q H : List Pt} {s0 : Pt} (h : ∀ p, p ∈ Q ↔ p ∈ P) (k : Hull P H s0) : Hull Q H s0 :=
  ⟨k.first, k.two, fun i hi => (k.edge i hi).mem h, k.once⟩

/-- Points in their order, from below and then from the left. -/
def leB (a b : Pt) : Bool := decide (a.2 < b.2) || (decide (a.2 = b.2) && decide (a.1 ≤ b.1))
theorem leB_iff {a b : Pt} : leB a b = true ↔ leP a b := by
  obtain ⟨x, y⟩ := a
  obtain ⟨u, v⟩ := b
  unfold leB leP ltP
  simp only [Bool.or_eq_true, Bool.and_eq_true, decide_eq_true_eq, Prod.mk.injEq]
  omega

end Go.Proofs.Ytffjonpajjioaaa

/- Shape: a hull is convex in normal form, as the reference finds it. -/
namespace Go.Proofs.Ytffjonpajjioaaa

theorem hedge_next {P : List Pt} {a b c : Pt} (h : Hedge P a b) (k : Hedge P a c) : b = c := by
  have h1 := h.ok c k.snd
  have h2 := k.ok b h.snd
  have e := crossP_swap a b c
  have z1 := h1.nonneg
  have z2 := h2.nonneg
  rcases h1 with q | q
  · omega
  · rcases h2 with r | r
    · omega
    · exact (on_both q r).symm

theorem zero_of {p q X Y : Int} (hp : 0 < p) (hq : 0 < q) (h : p * X = q * Y) (hX : X ≤ 0) (hY : 0 ≤ Y) : X = 0 ∧ Y = 0 := by
  have h1 : 0 ≤ q * Y := Int.mul_nonneg (by omega) hY
  have h2 : 0 ≤ p * -X := Int.mul_nonneg (by omega) (by omega)
  rw [Int.mul_neg] at h2
  have e1 : p * X = 0 := by omega
  have e2 : q * Y = 0 := by omega
  exact ⟨(Int.mul_eq_zero.1 e1).resolve_left (by omega), (Int.mul_eq_zero.1 e2).resolve_left (by omega)⟩

/-- A point strictly between two others sees them on both sides of every line through it. -/
theorem mid_zero {ux uy wx wy ex ey : Int} (hp : ux * wy = wx * uy) (bx : btw ux (ux + wx)) (hby : btw uy (uy + wy)) (hu : ¬ (ux = 0 ∧ uy = 0)) (hw : ¬ (wx = 0 ∧ wy = 0))
    (na : ex * uy - ux * ey ≤ 0) (nb : 0 ≤ ex * wy - wx * ey) : ex * uy - ux * ey = 0 ∧ ex * wy - wx * ey = 0 := by
  unfold btw at bx hby
  have k1 : wx * (ex * uy - ux * ey) = ux * (ex * wy - wx * ey) := by grind
  have k2 : wy * (ex * uy - ux * ey) = uy * (ex * wy - wx * ey) := by grind
  generalize ex * uy - ux * ey = X at *
  generalize ex * wy - wx * ey = Y at *
  by_cases hx : ux = 0
  · have hy : uy ≠ 0 := fun e => hu ⟨hx, e⟩
    rw [hx, Int.zero_mul] at hp
    have hwx : wx = 0 := (Int.mul_eq_zero.1 hp.symm).resolve_right hy
    have hwy : wy ≠ 0 := fun e => hw ⟨hwx, e⟩
    rcases Int.lt_or_lt_of_ne hy with g | g
    · exact zero_of (p := -wy) (q := -uy) (by omega) (by omega) (by rw [Int.neg_mul, Int.neg_mul, k2]) na nb
    · exact zero_of (p := wy) (q := uy) (by omega) (by omega) k2 na nb
  · have hwx : wx ≠ 0 := fun e => by
      rw [e, Int.zero_mul] at hp
      have := (Int.mul_eq_zero.1 hp).resolve_left hx
      exact hw ⟨e, this⟩
    rcases Int.lt_or_lt_of_ne hx with g | g
    · exact zero_of (p := -wx) (q := -ux) (by omega) (by omega) (by rw [Int.neg_mul, Int.neg_mul, k1]) na nb
    · exact zero_of (p := wx) (q := ux) (by omega) (by omega) k1 na nb

theorem mid_no {ux uy wx wy ex ey : Int} (hp : ux * wy = wx * uy) (bx : btw ux (ux + wx)) (hby : btw uy (uy + wy)) (hu : ¬ (ux = 0 ∧ uy = 0)) (hw : ¬ (wx = 0 ∧ wy = 0))
    (a1 : btw (-ux) ex) (a2 : btw (-uy) ey) (b1 : btw wx ex) (b2 : btw wy ey) : False := by
  unfold btw at *
  by_cases hx : ux = 0
  · have hy : uy ≠ 0 := fun e => hu ⟨hx, e⟩
    rw [hx, Int.zero_mul] at hp
    have hwx : wx = 0 := (Int.mul_eq_zero.1 hp.symm).resolve_right hy
    have hwy : wy ≠ 0 := fun e => hw ⟨hwx, e⟩
    omega
  · have hwx : wx ≠ 0 := fun e => by
      rw [e, Int.zero_mul] at hp
      have := (Int.mul_eq_zero.1 hp).resolve_left hx
      exact hw ⟨e, this⟩
    omega

/-- No corner lies within an edge. -/
theorem hedge_between {P : List Pt} {a b c d : Pt} (h : Hedge P a b) (k : Hedge P c d) (on : onP a b c = true) : c = a ∨ c = b := by
  have ka := k.ok a h.fst
  have kb := k.ok b h.snd
  have na := ka.nonneg
  have nb := kb.nonneg
  rw [onP_iff] at on
  obtain ⟨z, o1, o2⟩ := on
  apply Classical.byContradiction
  intro hno
  have hu : ¬ (c.1 - a.1 = 0 ∧ c.2 - a.2 = 0) := fun e => hno (.inl (Prod.ext (by omega) (by omega)))
  have hw : ¬ (b.1 - c.1 = 0 ∧ b.2 - c.2 = 0) := fun e => hno (.inr (Prod.ext (by omega) (by omega)))
  have hp : (c.1 - a.1) * (b.2 - c.2) = (b.1 - c.1) * (c.2 - a.2) := by unfold al at z; grind
  have bx : btw (c.1 - a.1) (c.1 - a.1 + (b.1 - c.1)) := by rw [show c.1 - a.1 + (b.1 - c.1) = b.1 - a.1 by omega]; exact o1
  have hby : btw (c.2 - a.2) (c.2 - a.2 + (b.2 - c.2)) := by rw [show c.2 - a.2 + (b.2 - c.2) = b.2 - a.2 by omega]; exact o2
  have na' : (d.1 - c.1) * (c.2 - a.2) - (c.1 - a.1) * (d.2 - c.2) ≤ 0 := by
    have : crossP c d a = -((d.1 - c.1) * (c.2 - a.2) - (c.1 - a.1) * (d.2 - c.2)) := by unfold crossP cross; grind
    omega
  have nb' : 0 ≤ (d.1 - c.1) * (b.2 - c.2) - (b.1 - c.1) * (d.2 - c.2) := nb
  obtain ⟨z1, z2⟩ := mid_zero hp bx hby hu hw na' nb'
  have oa : onP c d a = true := ka.resolve_left fun q => by
    have : crossP c d a = -((d.1 - c.1) * (c.2 - a.2) - (c.1 - a.1) * (d.2 - c.2)) := by unfold crossP cross; grind
    omega
  have ob : onP c d b = true := kb.resolve_left fun q => by
    have : crossP c d b = (d.1 - c.1) * (b.2 - c.2) - (b.1 - c.1) * (d.2 - c.2) := rfl
    omega
  rw [onP_iff] at oa ob
  exact mid_no (ex := d.1 - c.1) (ey := d.2 - c.2) hp bx hby hu hw (by rw [show -(c.1 - a.1) = a.1 - c.1 by omega]; exact oa.2.1) (by rw [show -(c.2 - a.2) = a.2 - c.2 by omega]; exact oa.2.2) ob.2.1 ob.2.2

theorem hull_walk {P H : List Pt} {s0 : Pt} (h : Hull P H s0) {i j : Nat} (e : gt H (i % H.length) = gt H (j % H.length)) : ∀ k, gt H ((i + k) % H.length) = gt H ((j + k) % H.length)
  | 0 => e
  | k + 1 => by
    have two := h.two
    have ih := hull_walk h e k
    have ei := h.edge ((i + k) % H.length) (Nat.mod_lt _ (by omega))
    have ej := h.edge ((j + k) % H.length) (Nat.mod_lt _ (by omega))
    rw [← ih] at ej
    have := hedge_next ei ej
    have m : ∀ x, nx H (x % H.length) = gt H ((x + 1) % H.length) := fun x => by
      show gt H ((x % H.length + 1) % H.length) = _
      rw [Nat.mod_add_mod]
    rw [m, m] at this
    exact this

/-- All corners are different. -/
theorem hull_inj {P H : List Pt} {s0 : Pt} (h : Hull P H s0) {i j : Nat} (hi : i < H.length) (hj : j < H.length) (e : gt H i = gt H j) : i = j := by
  have key : ∀ i j, i < j → j < H.length → gt H i = gt H j → False := fun i j hij hj e => by
    have := hull_walk h (i := i) (j := j) (by rw [Nat.mod_eq_of_lt (by omega), Nat.mod_eq_of_lt hj]; exact e) (H.length - j)
    rw [show j + (H.length - j) = H.length by omega, Nat.mod_self, Nat.mod_eq_of_lt (by omega), h.first] at this
    exact h.once _ (by omega) (by omega) this
  rcases Nat.lt_trichotomy i j with g | g | g
  · exact (key i j g hj e).elim
  · exact g
  · exact (key j i g hi e.symm).elim

theorem sgn_mul {X Y : Int} (hX : 0 ≤ X) (hY : 0 ≤ Y) : ¬ sgn X * sgn Y < 0 := by
  have key : ∀ Z, 0 ≤ Z → sgn Z = 0 ∨ sgn Z = 1 := fun Z hZ => by
    unfold sgn
    split
    · exact .inr rfl
    · split
      · omega
      · exact .inl rfl
  rcases key X hX with e | e <;> rcases key Y hY with f | f <;> rw [e, f] <;> decide

theorem hedge_apart {P : List Pt} {a b c d a' b' : Pt} (h : Hedge P a b) (k : Hedge P c d) (ha : Hedge P b a') (hd : Hedge P d b') (h1 : c ≠ a) (h2 : c ≠ b) (h3 : d ≠ a) (h4 : d ≠ b) : meetP a b c d = false := by
  have o1 : onP a b c = false := by
    cases e : onP a b c
    · rfl
    · rcases hedge_between h k e with q | q
      · exact absurd q h1
      · exact absurd q h2
  have o2 : onP a b d = false := by
    cases e : onP a b d
    · rfl
    · rcases hedge_between h hd e with q | q
      · exact absurd q h3
      · exact absurd q h4
  have o3 : onP c d a = false := by
    cases e : onP c d a
    · rfl
    · rcases hedge_between k h e with q | q
      · exact absurd q.symm h1
      · exact absurd q.symm h3
  have o4 : onP c d b = false := by
    cases e : onP c d b
    · rfl
    · rcases hedge_between k ha e with q | q
      · exact absurd q.symm h2
      · exact absurd q.symm h4
  have x1 : ¬ sgn (crossP a b c) * sgn (crossP a b d) < 0 := sgn_mul (h.ok c k.fst).nonneg (h.ok d k.snd).nonneg
  show ((onP a b c || onP a b d || onP c d a || onP c d b) || (decide (sgn (crossP a b c) * sgn (crossP a b d) < 0) && decide (sgn (crossP c d a) * sgn (crossP c d b) < 0))) = false
  rw [o1, o2, o3, o4, decide_eq_false x1]
  rfl

theorem eqP_false {a b : Pt} (h : a ≠ b) : eqP a b = false := by
  cases e : eqP a b
  · rfl
  · unfold eqP eqI at e
    rw [Bool.and_eq_true, beq_iff_eq, beq_iff_eq] at e
    exact absurd (Prod.ext e.1 e.2) h

/-- THE HULL IS CONVEX IN NORMAL FORM. -/
theorem hull_convex {P H : List Pt} {s0 : Pt} (h : Hull P H s0) (h3 : 3 ≤ H.length) (hlow : ∀ p ∈ P, leP s0 p) : convexB H = true := by
  have lt : ∀ x, x % H.length < H.length := fun x => Nat.mod_lt _ (by omega)
  have E : ∀ x, Hedge P (gt H (x % H.length)) (gt H ((x + 1) % H.length)) := fun x => by
    have := h.edge (x % H.length) (lt x)
    have m : nx H (x % H.length) = gt H ((x + 1) % H.length) := by
      show gt H ((x % H.length + 1) % H.length) = _
      rw [Nat.mod_add_mod]
    rwa [m] at this
  have ne : ∀ x y, x % H.length ≠ y % H.length → gt H (x % H.length) ≠ gt H (y % H.length) := fun x y hxy e => hxy (hull_inj h (lt x) (lt y) e)
  have nxe : ∀ x, nx H x = gt H ((x + 1) % H.length) := fun _ => rfl
  have s1 : ∀ i, i < H.length → i % H.length ≠ (i + 1) % H.length := fun i hi => by
    rw [Nat.mod_eq_of_lt hi]
    rcases Nat.lt_or_ge (i + 1) H.length with g | g
    · rw [Nat.mod_eq_of_lt g]; omega
    · rw [show i + 1 = H.length by omega, Nat.mod_self]; omega
  have s2 : ∀ i, i < H.length → i % H.length ≠ (i + 1 + 1) % H.length := fun i hi => by
    rw [Nat.mod_eq_of_lt hi]
    rcases Nat.lt_or_ge (i + 1 + 1) H.length with g | g
    · rw [Nat.mod_eq_of_lt g]; omega
    · rcases Nat.lt_or_ge (i + 1) H.length with q | q
      · rw [show i + 1 + 1 = H.length by omega, Nat.mod_self]; omega
      · rw [show i + 1 + 1 = 1 + H.length by omega, Nat.add_mod_right, Nat.mod_eq_of_lt (by omega)]; omega
  have s3 : ∀ i, (i + 1) % H.length ≠ (i + 1 + 1) % H.length := fun i e => by
    have := s1 ((i + 1) % H.length) (lt _)
    rw [Nat.mod_mod, Nat.mod_add_mod] at this
    exact this e
  have gm : ∀ i, i < H.length → gt H i = gt H (i % H.length) := fun i hi => by rw [Nat.mod_eq_of_lt hi]
  have turn : ∀ i, i < H.length → onP (gt H i) (nx H i) (nx H (i + 1)) = false := fun i hi => by
    cases e : onP (gt H i) (nx H i) (nx H (i + 1))
    · rfl
    · rw [nxe, nxe, gm i hi] at e
      rcases hedge_between (E i) (E (i + 1 + 1)) e with q | q
      · exact absurd q.symm (ne _ _ (s2 i hi))
      · exact absurd q.symm (ne _ _ (s3 i))
  have back : ∀ i, i < H.length → onP (nx H i) (nx H (i + 1)) (gt H i) = false := fun i hi => by
    cases e : onP (nx H i) (nx H (i + 1)) (gt H i)
    · rfl
    · rw [nxe, nxe, gm i hi] at e
      rcases hedge_between (E (i + 1)) (E i) e with q | q
      · exact absurd q (ne _ _ (s1 i hi))
      · exact absurd q (ne _ _ (s2 i hi))
  unfold convexB simpleB
  rw [Bool.and_eq_true, Bool.and_eq_true, List.all_eq_true, List.all_eq_true, List.all_eq_true]
  refine ⟨⟨fun i hi => ?_, fun i hi => ?_⟩, fun i hi => ?_⟩
  · rw [List.mem_range] at hi
    unfold zeroAt
    rw [nxe, gm i hi, eqP_false (ne _ _ (s1 i hi))]
    rfl
  · rw [List.mem_range] at hi
    unfold foldAt
    rw [turn i hi, back i hi, Bool.and_eq_true, List.all_eq_true]
    refine ⟨rfl, fun k hk => ?_⟩
    rw [List.mem_range] at hk
    by_cases g : k < i + 2
    · rw [decide_eq_true g]; rfl
    · rw [decide_eq_false g]
      unfold hitAt
      cases e : ((k + 1) % H.length == i)
      · have e' : (k + 1) % H.length ≠ i := by rw [← beq_eq_false_iff_ne]; exact e
        rw [nxe, nxe, gm i hi, gm k hk, hedge_apart (E i) (E k) (E (i + 1)) (E (k + 1)) (ne _ _ ?_) (ne _ _ ?_) (ne _ _ ?_) (ne _ _ ?_)]
        · rfl
        · rw [Nat.mod_eq_of_lt hi, Nat.mod_eq_of_lt hk]; omega
        · rw [Nat.mod_eq_of_lt hk, Nat.mod_eq_of_lt (by omega)]; omega
        · rw [Nat.mod_eq_of_lt hi]; exact e'
        · rw [Nat.mod_eq_of_lt (show i + 1 < H.length by omega)]
          rcases Nat.lt_or_ge (k + 1) H.length with q | q
          · rw [Nat.mod_eq_of_lt q]; omega
          · rw [show k + 1 = H.length by omega, Nat.mod_self]; omega
      · rfl
  · rw [List.mem_range] at hi
    unfold convexAt
    have hc : ¬ crossP (gt H i) (nx H i) (nx H (i + 1)) ≤ 0 := fun q => by
      have l := (E i).ok (nx H (i + 1)) (by rw [nxe]; exact (E (i + 1)).snd)
      rw [← gm i hi, ← nxe] at l
      rcases l with l | l
      · omega
      · rw [turn i hi] at l; cases l
    rw [decide_eq_false hc, Bool.and_eq_true]
    refine ⟨rfl, ?_⟩
    by_cases i0 : i = 0
    · subst i0; rfl
    · have hm : gt H i ∈ P := by rw [gm i hi]; exact (E i).fst
      rcases hlow _ hm with q | q
      · exact absurd q.symm (h.once i (by omega) hi)
      · rw [Bool.or_eq_true]
        right
        rw [h.first]
        unfold firstP firstB
        unfold ltP at q
        simp only [Bool.or_eq_true, Bool.and_eq_true, decide_eq_true_eq, beq_iff_eq]
        exact q

end Go.Proofs.Ytffjonpajjioaaa

/- Shape: a hull is one; the points that it was made of lie in it or on its edges. -/
namespace Go.Proofs.Ytffjonpajjioaaa

/-- The corners, round and round. -/
def vtx (H : List Pt) (x : Nat) : Pt := gt H (x % H.length)
theorem Hull.edgeV {P H : List Pt} {s0 : Pt} (h : Hull P H s0) (x : Nat) : Hedge P (vtx H x) (vtx H (x + 1)) := by
  have two := h.two
  have := h.edge (x % H.length) (Nat.mod_lt _ (by omega))
  have m : nx H (x % H.length) = vtx H (x + 1) := by
    show gt H ((x % H.length + 1) % H.length) = _
    rw [Nat.mod_add_mod]; rfl
  rwa [m] at this
theorem vtx_lt {H : List Pt} {x : Nat} (h : x < H.length) : vtx H x = gt H x := by unfold vtx; rw [Nat.mod_eq_of_lt h]
theorem vtx_nx (H : List Pt) (x : Nat) : nx H x = vtx H (x + 1) := rfl
theorem vtx_add (H : List Pt) (x : Nat) : vtx H (x + H.length) = vtx H x := by unfold vtx; rw [Nat.add_mod_right]
theorem Hull.vtx0 {P H : List Pt} {s0 : Pt} (h : Hull P H s0) : vtx H 0 = s0 := by
  have two := h.two
  rw [vtx_lt (by omega)]; exact h.first

theorem hull_steps {P H K : List Pt} {s0 : Pt} (h : Hull P H s0) (k : Hull P K s0) : ∀ x, vtx H x = vtx K x
  | 0 => by rw [h.vtx0, k.vtx0]
  | x + 1 => by
    have e1 := h.edgeV x
    have e2 := k.edgeV x
    rw [hull_steps h k x] at e1
    exact hedge_next e1 e2

theorem hull_len_le {P H K : List Pt} {s0 : Pt} (h : Hull P H s0) (k : Hull P K s0) : K.length ≤ H.length := by
  have two := h.two
  rcases Nat.lt_or_ge H.length K.length with g | g
  · exfalso
    have e := hull_steps h k H.length
    rw [vtx_lt g] at e
    refine k.once H.length (by omega) g ?_
    rw [← e]
    have := vtx_add H 0
    rw [Nat.zero_add] at this
    rw [this, h.vtx0]
  · exact g

theorem hull_unique {P H K : List Pt} {s0 : Pt} (h : Hull P H s0) (k : Hull P K s0) : H = K := by
  have hl : H.length = K.length := Nat.le_antisymm (hull_len_le k h) (hull_len_le h k)
  refine List.ext_getElem hl fun i h1 h2 => ?_
  have e := hull_steps h k i
  rw [vtx_lt h1, vtx_lt h2] at e
  rw [gt_of (List.getElem?_eq_getElem h1), gt_of (List.getElem?_eq_getElem h2)] at e
  exact e

theorem hull_sub {P H : List Pt} {s0 : Pt} (h : Hull P H s0) {p : Pt} (hp : p ∈ H) : p ∈ P := by
  obtain ⟨i, hi, rfl⟩ := List.getElem_of_mem hp
  have := (h.edge i hi).fst
  rwa [gt_of (List.getElem?_eq_getElem hi)] at this
theorem vtx_mem {H : List Pt} (h : 0 < H.length) (x : Nat) : vtx H x ∈ H := by
  unfold vtx
  rw [gt_of (List.getElem?_eq_getElem (Nat.mod_lt x h))]
  exact List.getElem_mem _
/-- The hull of the hull's corners is itself. -/
theorem hull_self {P H : List Pt} {s0 : Pt} (h : Hull P H s0) : Hull H H s0 := by
  have two := h.two
  refine ⟨h.first, h.two, fun i hi => ?_, h.once⟩
  have e := h.edge i hi
  refine ⟨e.ne, fun p hp => e.ok p (hull_sub h hp), ?_, ?_⟩
  · rw [← vtx_lt hi]; exact vtx_mem (by omega) _
  · rw [vtx_nx]; exact vtx_mem (by omega) _

theorem nodup_le {l m : List Pt} (h : l.Nodup) (hs : ∀ p ∈ l, p ∈ m) : l.length ≤ m.length := by
  induction l generalizing m with
  | nil => simp
  | cons x l ih =>
    obtain ⟨h1, h2⟩ := List.nodup_cons.1 h
    have hx := hs x (by simp)
    have := ih (m := m.erase x) h2 fun p hp => (List.mem_erase_of_ne (fun e => h1 (by rw [← e]; exact hp))).2 (hs p (by simp [hp]))
    rw [List.length_erase_of_mem hx] at this
    have : 0 < m.length := List.length_pos_of_mem hx
    simp only [List.length_cons]
    omega
theorem hull_length {P H : List Pt} {s0 : Pt} (h : Hull P H s0) : H.length ≤ P.length := by
  refine nodup_le ?_ fun p hp => hull_sub h hp
  refine List.pairwise_iff_getElem.2 fun i j hi hj hij e => ?_
  have := hull_inj h (i := i) (j := j) hi hj (by rw [gt_of (List.getElem?_eq_getElem hi), gt_of (List.getElem?_eq_getElem hj)]; exact e)
  omega

theorem crossP_rot (a b p : Pt) : crossP b a p = - crossP a b p := by unfold crossP cross; grind

theorem top_of (f : Nat → Pt) : ∀ k, 0 < k → ∃ j, j < k ∧ ∀ i, i < k → leP (f i) (f j)
  | 0, h => by omega
  | 1, _ => ⟨0, by omega, fun i hi => by
    have : i = 0 := by omega
    rw [this]; exact leP_refl _⟩
  | k + 2, _ => by
    obtain ⟨j, hj, h⟩ := top_of f (k + 1) (by omega)
    rcases leP_total (f j) (f (k + 1)) with g | g
    · refine ⟨k + 1, by omega, fun i hi => ?_⟩
      rcases Nat.lt_or_ge i (k + 1) with q | q
      · exact leP_trans (h i q) g
      · have : i = k + 1 := by omega
        rw [this]; exact leP_refl _
    · refine ⟨j, by omega, fun i hi => ?_⟩
      rcases Nat.lt_or_ge i (k + 1) with q | q
      · exact h i q
      · have : i = k + 1 := by omega
        rw [this]; exact .inr g

theorem no_top {a1 a2 b1 b2 q1 q2 : Int} (ha : 0 ≤ a2) (hb : b2 ≤ 0) (hq : 0 ≤ q2) (h1 : 0 < a1 * q2 - q1 * a2) (h2 : 0 < b1 * q2 - q1 * b2) (h3 : 0 < a1 * b2 - b1 * a2) : False := by
  have id : q2 * (a1 * b2 - b1 * a2) = -((b1 * q2 - q1 * b2) * a2) + (a1 * q2 - q1 * a2) * b2 := by grind
  have n1 : 0 ≤ q2 * (a1 * b2 - b1 * a2) := Int.mul_nonneg hq (by omega)
  have n2 : 0 ≤ (b1 * q2 - q1 * b2) * a2 := Int.mul_nonneg (by omega) ha
  have n3 : 0 ≤ (a1 * q2 - q1 * a2) * -b2 := Int.mul_nonneg (by omega) (by omega)
  rw [Int.mul_neg] at n3
  have z2 : (b1 * q2 - q1 * b2) * a2 = 0 := by omega
  have z3 : (a1 * q2 - q1 * a2) * b2 = 0 := by omega
  have e2 := (Int.mul_eq_zero.1 z2).resolve_left (by omega)
  have e3 := (Int.mul_eq_zero.1 z3).resolve_left (by omega)
  rw [e2, e3, Int.mul_zero, Int.mul_zero] at h3
  omega

theorem two_up {a b c d : Pt} {y : Int} (h1 : a.2 ≤ y) (h2 : y < b.2) (h3 : c.2 ≤ y) (h4 : y < d.2) (k1 : 0 ≤ crossP a b c) (k2 : 0 ≤ crossP a b d) (k3 : 0 ≤ crossP c d a) (k4 : 0 ≤ crossP c d b) : crossP a b c = 0 := by
  have n1 : 0 ≤ (d.2 - y) * crossP a b c := Int.mul_nonneg (by omega) k1
  have n2 : 0 ≤ (y - c.2) * crossP a b d := Int.mul_nonneg (by omega) k2
  have n3 : 0 ≤ (b.2 - y) * crossP c d a := Int.mul_nonneg (by omega) k3
  have n4 : 0 ≤ (y - a.2) * crossP c d b := Int.mul_nonneg (by omega) k4
  have id : (d.2 - y) * crossP a b c + (y - c.2) * crossP a b d + ((b.2 - y) * crossP c d a + (y - a.2) * crossP c d b) = 0 := by unfold crossP cross; grind
  have z : (d.2 - y) * crossP a b c = 0 := by omega
  exact (Int.mul_eq_zero.1 z).resolve_left (by omega)

theorem side_one {l : List Pt} {p : Pt} {m : Nat} (h : ∀ i, i < l.length → left2At l p i = decide (i = m)) : ∀ k, k ≤ l.length → sideTo l p k = if m < k then 1 else -1
  | 0, _ => by rw [if_neg (by omega)]; rfl
  | k + 1, hk => by
    have ih := side_one h k (by omega)
    unfold sideTo
    rw [h k (by omega)]
    by_cases e : k = m
    · rw [decide_eq_true e, if_pos rfl, ih, if_neg (by omega), if_pos (by omega)]; rfl
    · rw [decide_eq_false e, if_neg (by simp), ih]
      by_cases g : m < k
      · rw [if_pos g, if_pos (by omega)]
      · rw [if_neg g, if_neg (by omega)]

/-- EVERY POINT LIES IN THE HULL OR ON ITS EDGES. -/
theorem hull_where {P H : List Pt} {s0 p : Pt} (h : Hull P H s0) (hlow : ∀ p ∈ P, leP s0 p) (hp : p ∈ P) : whereD H p = 0 ∨ whereD H p = 1 := by
  have two := h.two
  by_cases ho : ∃ i, i < H.length ∧ on2At H p i = true
  · obtain ⟨i, hi, e⟩ := ho
    exact .inl (whereD_on hi e)
  · have off : ∀ j, j < H.length → on2At H p j = false := fun j hj => by
      cases e : on2At H p j
      · rfl
      · exact absurd ⟨j, hj, e⟩ ho
    have pos : ∀ i, i < H.length → 0 < crossP (gt H i) (nx H i) p := fun i hi => by
      rcases (h.edge i hi).ok p hp with q | q
      · exact q
      · have := off i hi
        unfold on2At at this
        rw [this] at q; cases q
    have posV : ∀ x, 0 < crossP (vtx H x) (vtx H (x + 1)) p := fun x => by
      have := pos (x % H.length) (Nat.mod_lt _ (by omega))
      have m : nx H (x % H.length) = vtx H (x + 1) := by
        show gt H ((x % H.length + 1) % H.length) = _
        rw [Nat.mod_add_mod]; rfl
      rw [m] at this; exact this
    right
    rw [whereD_off off]
    have up : ∀ i, i < H.length → (left2At H p i = true ↔ (gt H i).2 ≤ p.2 ∧ p.2 < (nx H i).2) := fun i hi => by
      have := pos i hi
      unfold left2At leftB
      rw [show cross (gt H i).1 (gt H i).2 (nx H i).1 (nx H i).2 p.1 p.2 = crossP (gt H i) (nx H i) p from rfl, decide_eq_true this]
      by_cases g1 : p.2 < (gt H i).2 <;> by_cases g2 : p.2 < (nx H i).2 <;> by_cases g3 : (gt H i).2 < (nx H i).2 <;> simp [g1, g2, g3] <;> omega
    have one : ∀ i j, i < H.length → j < H.length → left2At H p i = true → left2At H p j = true → i = j := fun i j hi hj ei ej => by
      obtain ⟨a1, a2⟩ := (up i hi).1 ei
      obtain ⟨b1, b2⟩ := (up j hj).1 ej
      have Ei := h.edge i hi
      have Ej := h.edge j hj
      have z := two_up a1 a2 b1 b2 (Ei.ok _ Ej.fst).nonneg (Ei.ok _ Ej.snd).nonneg (Ej.ok _ Ei.fst).nonneg (Ej.ok _ Ei.snd).nonneg
      have on : onP (gt H i) (nx H i) (gt H j) = true := (Ei.ok _ Ej.fst).resolve_left (by omega)
      rcases hedge_between Ei Ej on with q | q
      · exact (hull_inj h hj hi q).symm
      · rw [q] at b1; omega
    have some_up : ∃ m, m < H.length ∧ left2At H p m = true := by
      obtain ⟨k, hk, htop⟩ := top_of (vtx H) H.length (by omega)
      have topV : ∀ x, leP (vtx H x) (vtx H k) := fun x => by
        have := htop (x % H.length) (Nat.mod_lt _ (by omega))
        have e : vtx H (x % H.length) = vtx H x := by unfold vtx; rw [Nat.mod_mod]
        rw [e] at this; exact this
      have hhi : p.2 < (vtx H k).2 := by
        apply Classical.byContradiction
        intro hno
        have c1 := posV (k + H.length - 1)
        have c2 := posV k
        have e1 : vtx H (k + H.length - 1 + 1) = vtx H k := by rw [show k + H.length - 1 + 1 = k + H.length by omega]; exact vtx_add H k
        rw [e1] at c1
        have t1 := topV (k + H.length - 1)
        have t2 := topV (k + 1)
        have E1 := h.edgeV (k + H.length - 1)
        rw [e1] at E1
        have E2 := h.edgeV k
        have c3 : 0 < crossP (vtx H (k + H.length - 1)) (vtx H k) (vtx H (k + 1)) := by
          rcases E1.ok _ E2.snd with q | q
          · exact q
          · exfalso
            rcases E1.ok p hp with r | r
            · have hq := onP_cross q
              -- the next corner lies on the edge before: it is its first point
              rcases hedge_between E1 (h.edgeV (k + 1)) q with g | g
              · rw [g] at c2
                have := crossP_rot (vtx H (k + H.length - 1)) (vtx H k) p
                omega
              · exact E2.ne g.symm
            · have := onP_cross r
              omega
        have f1 : (vtx H (k + H.length - 1)).2 ≤ (vtx H k).2 := by
          rcases t1 with e | e
          · rw [e]; exact Int.le_refl _
          · unfold ltP at e; omega
        have f2 : (vtx H (k + 1)).2 ≤ (vtx H k).2 := by
          rcases t2 with e | e
          · rw [e]; exact Int.le_refl _
          · unfold ltP at e; omega
        rw [crossP_xr2] at c1 c3
        rw [crossP_xr] at c2
        unfold xr subP at c1 c2 c3
        simp only at c1 c2 c3
        exact no_top (a2 := (vtx H k).2 - (vtx H (k + H.length - 1)).2) (b2 := (vtx H (k + 1)).2 - (vtx H k).2) (q2 := p.2 - (vtx H k).2) (by omega) (by omega) (by omega) c1 c2 c3
      have h0 : (vtx H 0).2 ≤ p.2 := by
        rw [h.vtx0]
        rcases hlow p hp with e | e
        · rw [e]; exact Int.le_refl _
        · unfold ltP at e; omega
      have climb : ∀ x, p.2 < (vtx H x).2 → ∃ m, m < x ∧ (vtx H m).2 ≤ p.2 ∧ p.2 < (vtx H (m + 1)).2 := by
        intro x
        induction x with
        | zero => intro hx; omega
        | succ x ih =>
          intro hx
          rcases Int.lt_or_le p.2 (vtx H x).2 with g | g
          · obtain ⟨m, m1, m2⟩ := ih g
            exact ⟨m, by omega, m2⟩
          · exact ⟨x, by omega, g, hx⟩
      obtain ⟨m, m1, m2, m3⟩ := climb k hhi
      have hm : m < H.length := by omega
      exact ⟨m, hm, (up m hm).2 ⟨by rw [← vtx_lt hm]; exact m2, m3⟩⟩
    obtain ⟨m, hm, em⟩ := some_up
    have all : ∀ i, i < H.length → left2At H p i = decide (i = m) := fun i hi => by
      by_cases e : i = m
      · rw [e, em, decide_eq_true rfl]
      · rw [decide_eq_false e]
        cases q : left2At H p i
        · rfl
        · exact absurd (one i m hi hm q em) e
    rw [side_one all H.length (Nat.le_refl _), if_pos hm]

end Go.Proofs.Ytffjonpajjioaaa

/- Package shape's chain. -/
namespace Go.Proofs.Ytffjonpajjioaaa
open Go.RowKit Go.Sort
attribute [local go_sem ↓] run_min_mn run_max_mx Go.wp_at_zero Go.wp_at_succ

theorem PtsOwn.nil (w : World) (base : Nat) : PtsOwn w base (.slice none 0 0) [] := by
  unfold PtsOwn World.ownsRow
  exact ⟨by simp [ptsV], .inl ⟨rfl, rfl⟩⟩
theorem ptsV_take : ∀ (l : List Pt) (k : Nat), (ptsV l).take (k * 2) = ptsV (l.take k)
  | [], k => by simp [ptsV]
  | p :: l, 0 => by simp [ptsV]
  | p :: l, k + 1 => by
    rw [show (k + 1) * 2 = k * 2 + 1 + 1 by omega]
    simp only [ptsV, List.take_succ_cons, ptsV_take l k]
theorem PtsOwn.shrink {w : World} {base : Nat} {A : Option Addr} {n c : Nat} {l : List Pt} (h : PtsOwn w base (.slice A n c) l) (hn : l.length = n) {k : Nat} (hk : k ≤ n) : PtsOwn w base (.slice A k c) (l.take k) := by
  have hlen : (l.take k).length = k := by rw [List.length_take]; omega
  unfold PtsOwn World.ownsRow at *
  rw [hn] at h
  rw [hlen]
  obtain ⟨h1, h2⟩ := h
  refine ⟨by rw [ptsV_length, hlen], ?_⟩
  rcases h2 with ⟨e1, e2⟩ | ⟨g, cap, cur, e, hb, hg, hnc, hh, hsz, ht⟩
  · left
    have : n = 0 := e2
    have hk0 : k = 0 := by omega
    subst hk0
    simp only [Value.slice.injEq] at e1
    exact ⟨by rw [e1.1, e1.2.2], rfl⟩
  · right
    simp only [Value.slice.injEq] at e
    obtain ⟨rfl, -, rfl⟩ := e
    refine ⟨g, c, cur, rfl, hb, hg, by omega, hh, hsz, ?_⟩
    rw [← ptsV_take, ← ht, List.take_take]
    congr 1
    omega
theorem PtsOwn.belows {w w' : World} {base B : Nat} {v : Value} {xs : List Pt} (h : PtsOwn w base v xs) (hb : Below B w w') (hB : w.heap.size ≤ B) : PtsOwn w' base v xs := by
  unfold PtsOwn World.ownsRow at *
  obtain ⟨h1, h2⟩ := h
  refine ⟨h1, ?_⟩
  rcases h2 with h2 | ⟨g, cap, cur, e, hb1, hg, hr⟩
  · exact .inl h2
  · exact .inr ⟨g, cap, cur, e, hb1, (hb.block g (Nat.lt_of_lt_of_le (Array.getElem?_eq_some_iff.1 hg).1 hB)).trans hg, hr⟩

theorem popW_suffix (x : Pt) : ∀ st : List Pt, popW x st <:+ st
  | [] => List.suffix_refl _
  | [_] => List.suffix_refl _
  | b :: a :: r => by
    rw [popW]
    split
    · exact (popW_suffix x (a :: r)).trans (List.suffix_cons _ _)
    · exact List.suffix_refl _
theorem chainW_mem : ∀ (l st : List Pt) (s : Pt), s ∈ l.foldl pushW st → s ∈ l ∨ s ∈ st
  | [], _, _, h => .inr h
  | x :: l, st, s, h => by
    rcases chainW_mem l (pushW st x) s h with h | h
    · exact .inl (List.mem_cons_of_mem _ h)
    · rcases List.mem_cons.1 h with rfl | h
      · exact .inl (by simp)
      · exact .inr ((popW_suffix x st).subset h)
theorem chainW_len : ∀ (l st : List Pt), (l.foldl pushW st).length ≤ l.length + st.length
  | [], _ => by simp
  | x :: l, st => by
    have h1 := chainW_len l (pushW st x)
    have h2 := (popW_suffix x st).length_le
    simp only [List.foldl_cons, List.length_cons, pushW] at h1 ⊢
    omega

theorem PtsOwn.slice_n {w : World} {base : Nat} {v : Value} {l : List Pt} (h : PtsOwn w base v l) {n : Nat} (hn : l.length = n) : ∃ A c, v = .slice A n c ∧ n ≤ c ∧ PtsAt w A l := by
  obtain ⟨A, c, h1, h2, h3, _⟩ := h.slice
  exact ⟨A, c, by rw [h1, hn], by rw [← hn]; exact h2, h3⟩
def slLen : Value → Nat
  | .slice _ n _ => n
  | _ => 0

set_option maxRecDepth 100000 in
set_option maxHeartbeats 4000000 in
theorem chain_any (b off n c : Nat) (l : List Pt) (w : World) (hl : l.length = n) (hn' : n ≤ 100) (h : PtsIn w b off l) (hb : b < w.heap.size) (hbd : ∀ x ∈ l, Bd x) :
    Calls Try.prog 45 #[.slice (some ⟨b, off, none⟩) n c] w (RefMovedTo (chainW l).reverse w) := by
  have HL := Lib.hid hl
  have HP := Lib.hid h
  have HBD := Lib.hid hbd
  clear hl h hbd
  go_enter Try.func45, Try.ntmps45
  go_wp2
  go_loopw [3, 8] (fun s i wr => ∃ k : Nat, k ≤ n ∧ i = .int .i64 k ∧ PtsOwn wr w.heap.size s ((l.take k).foldl pushW []).reverse ∧ Below w.heap.size w wr) (fun _ i _ => n - (intOf i).toNat)
  case atStart => exact ⟨0, Nat.zero_le _, rfl, PtsOwn.nil _ _, Below.refl _ _⟩
  case round =>
    obtain ⟨k, hk, rfl, hO, hbw⟩ := hrel
    have HO := Lib.hid hO
    have HBW := Lib.hid hbw
    clear hO
    by_cases hlt : k < n
    · have hkl : k < l.length := by rw [HL.out]; exact hlt
      obtain ⟨h1, h2⟩ := (HP.out.below hbw hb) k (gt l k) (by unfold gt; rw [List.getD_eq_getElem?_getD, List.getElem?_eq_getElem hkl]; rfl)
      have hB : b < wr.heap.size := Nat.lt_of_lt_of_le hb hbw.size
      have HN : Hid ((l.take (k + 1)).foldl pushW [] = pushW ((l.take k).foldl pushW []) (gt l k)) := Lib.hid (by
        rw [List.take_succ_eq_append_getElem hkl, List.foldl_append]
        simp [gt, List.getD, hkl])
      have HM : Hid (∀ s ∈ (l.take k).foldl pushW [], Bd s) := Lib.hid fun s hs => by
        rcases chainW_mem _ _ _ hs with h | h
        · exact HBD.out s (List.take_subset _ _ h)
        · cases h
      have HLN : Hid (((l.take k).foldl pushW []).length ≤ 100) := Lib.hid (by
        have := chainW_len (l.take k) []
        rw [List.length_take] at this
        simp only [List.length_nil] at this
        omega)
      have hx : Bd (gt l k) := HBD.out _ (by unfold gt; rw [List.getD_eq_getElem?_getD, List.getElem?_eq_getElem hkl]; exact List.getElem_mem hkl)
      generalize (l.take k).foldl pushW [] = st0 at *
      generalize gt l k = p at *
      obtain ⟨x, y⟩ := p
      obtain ⟨x1, x2⟩ := hx
      have hsz := hbw.size
      clear hbw
      obtain ⟨wo, rfl⟩ : ∃ wo : World, wo = wr := ⟨_, rfl⟩
      have Bq : PtAt (wo.alloc (bx x y)) wo.heap.size x y := PtAt.new
      have hbq : Below wo.heap.size wo (wo.alloc (bx x y)) := (Below.refl _ _).alloc (Nat.le_refl _) _
      have hzq : (wo.alloc (bx x y)).heap.size = wo.heap.size + 1 := by simp
      have O1 : PtsOwn (wo.alloc (bx x y)) w.heap.size u3 st0.reverse := HO.out.alloc _
      have HBQ : Hid (Below w.heap.size w (wo.alloc (bx x y))) := Lib.hid (HBW.out.trans (hbq.mono HBW.out.size))
      go_wp2_with fail
      generalize wo.alloc (bx x y) = wq at *
      generalize hgq : wo.heap.size = gq at *
      have HO1 := Lib.hid O1
      clear O1 hbq HO HBW h1 h2
      go_loopw [3] (fun s wi => ∃ st, PtsOwn wi w.heap.size s (List.reverse st) ∧ popW (x, y) st = popW (x, y) st0 ∧ st <:+ st0 ∧ Below wq.heap.size wq wi) (fun s _ => slLen s)
      case atStart => exact ⟨st0, HO1.out, rfl, List.suffix_refl _, Below.refl _ _⟩
      case round =>
        clear HO1
        obtain ⟨st, hO, hpop, hsuf, hbi⟩ := hrel
        have HPOP := Lib.hid hpop
        have HSUF := Lib.hid hsuf
        have hlen : st.length ≤ 100 := Nat.le_trans hsuf.length_le HLN.out
        have hgi : gq < wr.heap.size := by have := hbi.size; omega
        have Q0 : Hid (PtAt wr gq x y) := Lib.hid (PtAt.below hbi (by omega) Bq)
        obtain ⟨q1, q2⟩ := Q0.out
        have HBI := Lib.hid hbi
        have HBW := Lib.hid (HBQ.out.trans (hbi.mono HBQ.out.size))
        have HBDS : Hid (∀ s ∈ st, Bd s) := Lib.hid fun s hs => HM.out s (hsuf.subset hs)
        clear hpop hsuf hbi
        rcases st with _ | ⟨t, _ | ⟨a, r⟩⟩
        · obtain ⟨A1, c1, rfl, hc1, hat⟩ := hO.slice_n (n := 0) rfl
          have HO := Lib.hid hO
          clear hO hat
          go_wp2_with fail
          refine wp_region_quiet_below (by kernel_rfl) (by kernel_rfl) ?_
          repeat (go_big_quiet_step (fail))
          refine wpQuiet_nil ?_
          intro _ hw'
          obtain ⟨⟨dq, osq⟩, hw''⟩ := hw'
          subst hw''
          have hbr := below_regrown wr dq osq
          generalize grow (redrawn wr dq) osq = w2 at *
          have O2 : Hid (PtsOwn w2 w.heap.size _ (([] : List Pt)).reverse) := Lib.hid (HO.out.belows hbr (Nat.le_refl _))
          have HB2 := Lib.hid (HBW.out.trans (hbr.mono HBW.out.size))
          have hg2 : gq < w2.heap.size := Nat.lt_of_lt_of_le hgi hbr.size
          obtain ⟨q1, q2⟩ := PtAt.below hbr hgi Q0.out
          have HE : Hid ((pushW st0 (x, y)).reverse = (([] : List Pt)).reverse ++ [(x, y)]) := Lib.hid (by
            have e : popW (x, y) (([] : List Pt)) = ([] : List Pt) := rfl
            unfold pushW
            rw [List.reverse_cons, ← HPOP.out, e])
          have hsz2 := HB2.out.size
          clear hbr
          have hA1 : (([] : List Pt)).reverse.length + [(x, y)].length ≤ 100000 := by first | (rw [List.length_reverse, hq2]; simp; omega) | simp
          have hA2 : w.heap.size ≤ (w2.alloc (bx x y)).heap.size := by rw [World.size_alloc]; omega
          go_wp2_with (at_builtin; refine wpList_papp rfl (.tmp 37) (.tmp 39) rfl w.heap.size _ ((([] : List Pt)).reverse) [(x, y)] (some ⟨w2.heap.size, 0, none⟩) 1 1 rfl rfl (O2.out.alloc _) rfl (PtsAt.one w2 x y) hA1 hA2 ?_; intro v1 w3 ho hg hat; have HO3 := Lib.hid ho; have HG3 := Lib.hid hg; clear ho hg hat)
          have HB3 : Hid (Below w.heap.size w w3) := Lib.hid ((HB2.out.alloc hsz2 _).grown HG3.out (by simp; omega) (fun k hk => (O2.out.base k hk).1))
          go_wp2_with fail
          go_roundw
          case rel => exact ⟨k + 1, by omega, by go_num, by rw [HN.out, HE.out]; exact HO3.out, HB3.out⟩
          case measure => simp [intOf]; omega
        · obtain ⟨A1, c1, rfl, hc1, hat⟩ := hO.slice_n (n := 1) rfl
          have HO := Lib.hid hO
          clear hO hat
          go_wp2_with fail
          refine wp_region_quiet_below (by kernel_rfl) (by kernel_rfl) ?_
          repeat (go_big_quiet_step (fail))
          refine wpQuiet_nil ?_
          intro _ hw'
          obtain ⟨⟨dq, osq⟩, hw''⟩ := hw'
          subst hw''
          have hbr := below_regrown wr dq osq
          generalize grow (redrawn wr dq) osq = w2 at *
          have O2 : Hid (PtsOwn w2 w.heap.size _ ([t]).reverse) := Lib.hid (HO.out.belows hbr (Nat.le_refl _))
          have HB2 := Lib.hid (HBW.out.trans (hbr.mono HBW.out.size))
          have hg2 : gq < w2.heap.size := Nat.lt_of_lt_of_le hgi hbr.size
          obtain ⟨q1, q2⟩ := PtAt.below hbr hgi Q0.out
          have HE : Hid ((pushW st0 (x, y)).reverse = ([t]).reverse ++ [(x, y)]) := Lib.hid (by
            have e : popW (x, y) ([t]) = [t] := rfl
            unfold pushW
            rw [List.reverse_cons, ← HPOP.out, e])
          have hsz2 := HB2.out.size
          clear hbr
          have hA1 : ([t]).reverse.length + [(x, y)].length ≤ 100000 := by first | (rw [List.length_reverse, hq2]; simp; omega) | simp
          have hA2 : w.heap.size ≤ (w2.alloc (bx x y)).heap.size := by rw [World.size_alloc]; omega
          go_wp2_with (at_builtin; refine wpList_papp rfl (.tmp 37) (.tmp 39) rfl w.heap.size _ (([t]).reverse) [(x, y)] (some ⟨w2.heap.size, 0, none⟩) 1 1 rfl rfl (O2.out.alloc _) rfl (PtsAt.one w2 x y) hA1 hA2 ?_; intro v1 w3 ho hg hat; have HO3 := Lib.hid ho; have HG3 := Lib.hid hg; clear ho hg hat)
          have HB3 : Hid (Below w.heap.size w w3) := Lib.hid ((HB2.out.alloc hsz2 _).grown HG3.out (by simp; omega) (fun k hk => (O2.out.base k hk).1))
          go_wp2_with fail
          go_roundw
          case rel => exact ⟨k + 1, by omega, by go_num, by rw [HN.out, HE.out]; exact HO3.out, HB3.out⟩
          case measure => simp [intOf]; omega
        · have hlr : (t :: a :: r).reverse.length = r.length + 2 := by simp
          have ha : (t :: a :: r).reverse[r.length]? = some a := by
            rw [List.getElem?_reverse (by simp; omega)]
            rw [show (t :: a :: r).length - 1 - r.length = 1 by simp]; rfl
          have ht : (t :: a :: r).reverse[r.length + 1]? = some t := by
            rw [List.getElem?_reverse (by simp)]
            rw [show (t :: a :: r).length - 1 - (r.length + 1) = 0 by simp]; rfl
          obtain ⟨A1, c1, rfl, hc1, hat⟩ := hO.slice_n hlr
          obtain ⟨g, og, rfl, hgl, hin⟩ := hat (by simp)
          obtain ⟨a1, a2⟩ := hin _ _ ha
          obtain ⟨t1, t2⟩ := hin _ _ ht
          have HO := Lib.hid hO
          have HPS : Hid (popW (x, y) (t :: a :: r) = if crossP a t (x, y) ≤ 0 then popW (x, y) (a :: r) else t :: a :: r) := Lib.hid (by rw [popW])
          have hbt := HBDS.out t (by simp)
          have hba := HBDS.out a (by simp)
          have hq : r.length ≤ 100 := by simp at hlen; omega
          clear hO hat hin ha ht hlr hlen
          generalize hql : r.length = q at *
          have HQL := Lib.hid hql
          clear hql
          obtain ⟨tx, ty⟩ := t
          obtain ⟨ax, ay⟩ := a
          have C := fun W => Lib.hid (turn_any ax ay tx ty x y W hba.1 hba.2 hbt.1 hbt.2 x1 x2)
          have HCR : Hid (crossP (ax, ay) (tx, ty) (x, y) = cross ax ay tx ty x y) := Lib.hid rfl
          clear hba hbt
          generalize cross ax ay tx ty x y = cr at *
          have K1 := fun d os => Lib.hid (Calls.regrown_of ((C (grow (redrawn wr d) os)).out))
          have k1 := cell_regrown q1
          have k2 := cell_regrown q2
          have k3 := cell_regrown a1
          have k4 := cell_regrown a2
          have k5 := cell_regrown t1
          have k6 := cell_regrown t2
          clear q1 q2 a1 a2 t1 t2 C
          have hg : decide ((1 : Int) < (q : Int) + 2) = true := decide_eq_true (by omega)
          go_wp2_with fail
          refine wp_region_quiet_below (by kernel_rfl) (by kernel_rfl) ?_
          repeat (go_big_quiet_step (first | (with_reducible exact (K1 _ _).out)))
          refine wpQuiet_nil ?_
          intro _ hw'
          obtain ⟨⟨dq, osq⟩, hw''⟩ := hw'
          subst hw''
          by_cases hcr : cr ≤ 0
          · have HP2 : Hid (popW (x, y) ((ax, ay) :: r) = popW (x, y) st0) := Lib.hid (by rw [← HPOP.out, HPS.out, HCR.out, if_pos hcr])
            have hbr := below_regrown wr dq osq
            generalize grow (redrawn wr dq) osq = w2 at *
            have O2 : Hid (PtsOwn w2 w.heap.size (.slice (some ⟨g, og, none⟩) (q + 1) c1) (((ax, ay) :: r).reverse)) := Lib.hid (by
              have h := (HO.out.belows hbr (Nat.le_refl _)).shrink (n := q + 2) (k := q + 1) (by have := HQL.out; simp; omega) (by omega)
              rw [show ((tx, ty) :: (ax, ay) :: r).reverse.take (q + 1) = ((ax, ay) :: r).reverse by
                rw [List.reverse_cons, List.take_append_of_le_length (by have := HQL.out; simp; omega), List.take_of_length_le (by have := HQL.out; simp; omega)]] at h
              exact h)
            have HB2 := Lib.hid (HBI.out.trans (hbr.mono HBI.out.size))
            clear hbr
            go_wp2_with fail
            go_roundw
            case rel => exact ⟨(ax, ay) :: r, O2.out, HP2.out, (List.suffix_cons _ _).trans HSUF.out, HB2.out⟩
            case measure => simp [slLen]
          · have HNP : Hid (popW (x, y) ((tx, ty) :: (ax, ay) :: r) = (tx, ty) :: (ax, ay) :: r) := Lib.hid (by rw [HPS.out, HCR.out, if_neg hcr])
            have hq2 : ((tx, ty) :: (ax, ay) :: r).length = q + 2 := by have := HQL.out; simp; omega
            have hbr := below_regrown wr dq osq
            generalize grow (redrawn wr dq) osq = w2 at *
            have O2 : Hid (PtsOwn w2 w.heap.size _ ((tx, ty) :: (ax, ay) :: r).reverse) := Lib.hid (HO.out.belows hbr (Nat.le_refl _))
            have HB2 := Lib.hid (HBW.out.trans (hbr.mono HBW.out.size))
            have hg2 : gq < w2.heap.size := Nat.lt_of_lt_of_le hgi hbr.size
            obtain ⟨q1, q2⟩ := PtAt.below hbr hgi Q0.out
            have HE : Hid ((pushW st0 (x, y)).reverse = ((tx, ty) :: (ax, ay) :: r).reverse ++ [(x, y)]) := Lib.hid (by
              have e : popW (x, y) ((tx, ty) :: (ax, ay) :: r) = (tx, ty) :: (ax, ay) :: r := HNP.out
              unfold pushW
              rw [List.reverse_cons, ← HPOP.out, e])
            have hsz2 := HB2.out.size
            clear hbr
            have hA1 : ((tx, ty) :: (ax, ay) :: r).reverse.length + [(x, y)].length ≤ 100000 := by first | (rw [List.length_reverse, hq2]; simp; omega) | simp
            have hA2 : w.heap.size ≤ (w2.alloc (bx x y)).heap.size := by rw [World.size_alloc]; omega
            go_wp2_with (at_builtin; refine wpList_papp rfl (.tmp 37) (.tmp 39) rfl w.heap.size _ (((tx, ty) :: (ax, ay) :: r).reverse) [(x, y)] (some ⟨w2.heap.size, 0, none⟩) 1 1 rfl rfl (O2.out.alloc _) rfl (PtsAt.one w2 x y) hA1 hA2 ?_; intro v1 w3 ho hg hat; have HO3 := Lib.hid ho; have HG3 := Lib.hid hg; clear ho hg hat)
            have HB3 : Hid (Below w.heap.size w w3) := Lib.hid ((HB2.out.alloc hsz2 _).grown HG3.out (by simp; omega) (fun k hk => (O2.out.base k hk).1))
            go_wp2_with fail
            go_roundw
            case rel => exact ⟨k + 1, by omega, by go_num, by rw [HN.out, HE.out]; exact HO3.out, HB3.out⟩
            case measure => simp [intOf]; omega
    · obtain rfl : k = n := by omega
      have HF : Hid ((l.take k).foldl pushW [] = chainW l) := Lib.hid (by rw [List.take_of_length_le (by rw [HL.out]; omega)]; rfl)
      clear hbw
      go_wp2_with fail
      go_ret
      exact ⟨_, rfl, by rw [← HF.out]; exact HO.out, HBW.out⟩
end Go.Proofs.Ytffjonpajjioaaa

/- slices.Clone of points. -/
namespace Go.Proofs.Ytffjonpajjioaaa
open Go.RowKit Go.Sort
attribute [local go_sem ↓] run_min_mn run_max_mx

theorem clone_any (b off n c : Nat) (l : List Pt) (w : World) (hn : l.length = n) (hbig : n ≤ 100) (hin : PtsIn w b off l) (hb : b < w.heap.size) :
    Calls Try.prog 42 #[.slice (some ⟨b, off, none⟩) n c] w (RefMovedTo l w) := by
  have hnil := fun W => Lib.run_eql_slice_nil (P := Try.prog) W 24 27 (some ⟨b, off, none⟩) n c 0 0 Try.underlying24
  have hx : PtsAt (w.alloc (.cells #[] 27)) (some ⟨b, off, none⟩) l := fun _ => ⟨b, off, rfl, by simp; omega, hin.below ((Below.refl _ _).alloc (Nat.le_refl _) _) hb⟩
  have HX := Lib.hid hx
  have HN := Lib.hid hn
  clear hn hx hin
  go_enter Try.func42, Try.ntmps42
  go_wp2_with (at_builtin; refine wpList_papp rfl (.tmp 5) (.tmp 6) rfl w.heap.size (.slice (some ⟨w.heap.size, 0, none⟩) 0 0) [] l _ n c rfl rfl (PtsOwn.empty w) HN.out HX.out (by rw [HN.out]; simp; omega) (by simp) ?_; intro v1 w1 ho hg hat; have HO := Lib.hid ho; have HG := Lib.hid hg; clear ho hg hat)
  go_ret
  exact ⟨_, rfl, by simpa using HO.out, ((Below.refl _ _).alloc (Nat.le_refl _) _).grown HG.out (by simp) (by simp [Value.ownBlock])⟩
end Go.Proofs.Ytffjonpajjioaaa

/- slices.SortFunc by package shape's compare, and slices.Reverse, on a row of the call's own. -/
namespace Go.Proofs.Ytffjonpajjioaaa
open Go.RowKit Go.Sort
attribute [local go_sem ↓] run_min_mn run_max_mx

set_option maxRecDepth 100000 in
set_option maxHeartbeats 1000000 in
theorem compare_lays (ax ay bx by' : Int) (w : World) :
    Calls Try.prog 44 #[.agg #[.int .i64 ax, .int .i64 ay], .agg #[.int .i64 bx, .int .i64 by']] w fun e w' =>
      e = .returned (.int .i64 (cmpP ax ay bx by')) ∧ ∃ q os', w' = grow (w.drewN q) os' := by
  have C1 := fun W => Lib.hid ((cmpI_any ay by' W).mono fun _ _ h => And.intro h.1 h.2.symm)
  have C2 := fun W => Lib.hid ((cmpI_any ax bx W).mono fun _ _ h => And.intro h.1 h.2.symm)
  have H : Hid (cmpP ax ay bx by' = orI (cmpI ay by') (cmpI ax bx)) := Lib.hid rfl
  generalize cmpI ay by' = u at *
  generalize cmpI ax bx = v at *
  generalize cmpP ax ay bx by' = r at *
  go_enter Try.func44, Try.ntmps44
  go_wp2_with fail
  have B := boxed2 w ax ay bx by'
  have HW : Hid (((w.alloc (Go.Proofs.Ytffjonpajjioaaa.bx ax ay)).alloc (Go.Proofs.Ytffjonpajjioaaa.bx bx by')) = grow w #[Go.Proofs.Ytffjonpajjioaaa.bx ax ay, Go.Proofs.Ytffjonpajjioaaa.bx bx by']) := Lib.hid (by
    rw [alloc_eq_grow, alloc_eq_grow, grow_grow]; rfl)
  generalize ((w.alloc (Go.Proofs.Ytffjonpajjioaaa.bx ax ay)).alloc (Go.Proofs.Ytffjonpajjioaaa.bx bx by')) = W0 at *
  obtain ⟨⟨a1, a2⟩, ⟨b1, b2⟩, hb, hz⟩ := B
  clear hb hz
  refine wp_region_still_tail 10 (by kernel_rfl) (by kernel_rfl) ?_
  simp only [List.take_succ_cons, List.take_zero, List.drop_succ_cons, List.drop_zero]
  change wpStill _ _ W0.drew _ _ _
  replace a1 : W0.drew.cell? _ = _ := a1
  replace a2 : W0.drew.cell? _ = _ := a2
  replace b1 : W0.drew.cell? _ = _ := b1
  replace b2 : W0.drew.cell? _ = _ := b2
  iterate 4 still_step
  still_call (C1 _).out
  iterate 4 still_step
  still_call (C2 _).out
  refine wpStill_nil ?_
  change wpList _ _ _ _ _ W0.drew
  go_wp2_with fail
  refine (or_any _ u v _ (by go_simp) (by go_simp)).mono ?_
  rintro e w' ⟨rfl, rfl⟩
  go_wp2
  go_ret
  refine ⟨ret_int H.out.symm, 1, #[Go.Proofs.Ytffjonpajjioaaa.bx ax ay, Go.Proofs.Ytffjonpajjioaaa.bx bx by'] ++ #[Obj.cells #[Value.int IntKind.i64 u, Value.int IntKind.i64 v] 3], ?_⟩
  rw [HW.out, alloc_eq_grow, grow_grow, drew_grow]
  rfl

/-- A point's two cells. -/
def encP (x : Pt) : List Value := [.int .i64 x.1, .int .i64 x.2]
theorem ptsV_enc : ∀ l : List Pt, ptsV l = l.flatMap encP
  | [] => rfl
  | p :: l => by simp only [ptsV, List.flatMap_cons, encP, ptsV_enc l]; rfl
theorem ptsV_at' {l : List Pt} {t : Nat} (h : t < l.length * 2) : (ptsV l)[t]? = some ((encP (gt l (t / 2)))[t % 2]!) := by
  have hi : t / 2 < l.length := by omega
  have hg : l[t / 2]? = some (gt l (t / 2)) := by
    unfold gt; rw [List.getD_eq_getElem?_getD, List.getElem?_eq_getElem hi]; rfl
  obtain ⟨h1, h2⟩ := ptsV_get l (t / 2) _ hg
  rcases Nat.mod_two_eq_zero_or_one t with e | e
  · rw [e, show t = t / 2 * 2 by omega, h1, show t / 2 * 2 / 2 = t / 2 by omega]; rfl
  · rw [e]
    have : t = t / 2 * 2 + 1 := by omega
    rw [this, h2, show (t / 2 * 2 + 1) / 2 = t / 2 by omega]; rfl
theorem gt_arr (l : List Pt) (i : Nat) : (l.toArray)[i]! = gt l i := by
  unfold gt
  rw [List.getD_eq_getElem?_getD]
  simp only [List.getElem!_toArray]
  rw [List.getElem!_eq_getElem?_getD]
  rfl

theorem holds_own {w : World} {base g n c : Nat} {l : List Pt} (h : PtsOwn w base (.slice (some ⟨g, 0, none⟩) n c) l) (hn : l.length = n) : HoldsK encP 2 w g 0 l.toArray := by
  unfold PtsOwn World.ownsRow at h
  obtain ⟨h1, h2⟩ := h
  rcases h2 with ⟨e, _⟩ | ⟨g', cap, cur, e, hb, hg, hnc, hh, hsz, ht⟩
  · cases e
  · simp only [Value.slice.injEq, Option.some.injEq, Addr.mk.injEq] at e
    obtain ⟨⟨rfl, -, -⟩, -, -⟩ := e
    intro j hj
    rw [size_flatK] at hj
    have hj2 : j < l.length * 2 := by simpa using hj
    rw [get_flatK _ _ _ _ hj, gt_arr]
    refine ⟨?_, ?_⟩
    · rw [cell_of_row w g _ cur _ (0, 0) hg, Nat.zero_add]
      have := ptsV_at' hj2
      rw [← ht, List.getElem?_take, if_pos hj2] at this
      simpa using this
    · simp [World.frozen?, hg]

/-- The row after a sort, or whatever else lays it anew. -/
theorem own_laid {w : World} {base g n c m : Nat} {l l' : List Pt} {os : Array Obj} (h : PtsOwn w base (.slice (some ⟨g, 0, none⟩) n c) l) (hn : l.length = n) (hn' : l'.length = n) :
    PtsOwn (sortWorldK encP 2 w g 0 m l'.toArray os) base (.slice (some ⟨g, 0, none⟩) n c) l' ∧ w.grownBy (sortWorldK encP 2 w g 0 m l'.toArray os) (some g) := by
  unfold PtsOwn World.ownsRow at *
  obtain ⟨h1, h2⟩ := h
  rcases h2 with ⟨e, _⟩ | ⟨g', cap, cur, e, hb, hg, hnc, hh, hsz, ht⟩
  · cases e
  · simp only [Value.slice.injEq, Option.some.injEq, Addr.mk.injEq] at e
    obtain ⟨⟨rfl, -, -⟩, -, rfl⟩ := e
    have hgl : g < w.heap.size := (Array.getElem?_eq_some_iff.1 hg).1
    rw [hn] at ht hnc
    have hrow : (sortWorldK encP 2 w g 0 m l'.toArray os).heap[g]? = some (.cells (putCells id 0 (flatK encP 2 l'.toArray) cur) 27 (0, 0)) := by
      unfold sortWorldK grow putRowK putRow mapBlock Go.Sort.ahead
      simp only
      rw [Array.getElem?_append_left (by simpa using hgl), Array.getElem?_modify, if_pos rfl, hg]
      rfl
    refine ⟨⟨by rw [ptsV_length], .inr ⟨g, c, _, by rw [hn'], hb, hrow, by rw [hn']; exact hnc, hh, by simp [putCells, hsz], ?_⟩⟩, ?_⟩
    · apply List.ext_getElem?
      intro t
      rw [List.getElem?_take]
      by_cases q : t < l'.length * 2
      · rw [if_pos q, ptsV_at' q]
        have hc : t < cur.size := by rw [hsz]; have : l'.length * 2 ≤ c * 2 := by omega
                                     omega
        simp only [putCells, Array.getElem?_toList, Array.getElem?_mapIdx, Array.getElem?_eq_getElem hc, Option.map_some]
        rw [if_pos ⟨Nat.zero_le _, by simpa using q⟩, Nat.sub_zero, get_flatK _ _ _ _ (by simpa using q), gt_arr]
        rfl
      · rw [if_neg q, List.getElem?_eq_none (by rw [ptsV_length]; omega)]
    · refine ⟨rfl, rfl, rfl, by simp [sortWorldK, putRowK], fun k hk hne => ?_⟩
      have hkg : ¬ g = k := fun e => hne (by rw [e])
      unfold sortWorldK grow putRowK putRow mapBlock Go.Sort.ahead
      simp only
      rw [Array.getElem?_append_left (by simp; omega), Array.getElem?_modify, if_neg hkg]

theorem PtsOwn.other {w w' : World} {base g : Nat} {v : Value} {l : List Pt} (h : PtsOwn w base v l) (hg : w.grownBy w' (some g)) (hne : v.ownBlock ≠ some g) : PtsOwn w' base v l := by
  unfold PtsOwn World.ownsRow at *
  obtain ⟨h1, h2⟩ := h
  refine ⟨h1, ?_⟩
  rcases h2 with h2 | ⟨k, cap, cur, e, hb1, hk, hr⟩
  · exact .inl h2
  · refine .inr ⟨k, cap, cur, e, hb1, (hg.block k (Array.getElem?_eq_some_iff.1 hk).1 (fun q => hne ?_)).trans hk, hr⟩
    rw [e]; exact q
theorem PtsOwn.row {w : World} {base : Nat} {v : Value} {l : List Pt} {n : Nat} (h : PtsOwn w base v l) (hn : l.length = n) (h0 : 0 < n) :
    ∃ g c, v = .slice (some ⟨g, 0, none⟩) n c ∧ n ≤ c ∧ base ≤ g ∧ g < w.heap.size ∧ PtsIn w g 0 l := by
  obtain ⟨A, c, e, h1, hat, hbase⟩ := h.slice
  obtain ⟨g, og, rfl, hg, hin⟩ := hat (by intro e; subst e; simp at hn; omega)
  have hog : og = 0 := by
    subst e
    rcases h.2 with ⟨e, _⟩ | ⟨g', cap, cur, e, _⟩
    · cases e
    · simp only [Value.slice.injEq, Option.some.injEq, Addr.mk.injEq] at e; exact e.1.2.1
  subst hog
  rw [hn] at e h1
  exact ⟨g, c, e, h1, hbase _ rfl, hg, hin⟩

/-- Sorted points. -/
theorem sorted_of {l' : List Pt} (h : SortedIn (fun x y => decide (cmpQ x y < 0)) 0 l'.toArray.size l'.toArray) : l'.Pairwise leP := by
  rw [List.pairwise_iff_getElem]
  intro i j hi hj hij
  have := h i j (Nat.zero_le _) hij (by simpa using hj)
  simp only [gt_arr] at this
  have e1 : gt l' i = l'[i] := by unfold gt; rw [List.getD_eq_getElem?_getD, List.getElem?_eq_getElem hi]; rfl
  have e2 : gt l' j = l'[j] := by unfold gt; rw [List.getD_eq_getElem?_getD, List.getElem?_eq_getElem hj]; rfl
  rw [e1, e2, cmpQ_first] at this
  rcases leP_total l'[i] l'[j] with g | g
  · exact g
  · exfalso
    have : firstP l'[j] l'[i] = true := by
      unfold firstP firstB
      unfold ltP at g
      simp only [Bool.or_eq_true, Bool.and_eq_true, decide_eq_true_eq, beq_iff_eq]
      omega
    simp_all

end Go.Proofs.Ytffjonpajjioaaa
