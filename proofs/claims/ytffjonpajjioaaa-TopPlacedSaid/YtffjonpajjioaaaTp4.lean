/- Parts of the proof, one after the other: DevHull, RefHull, HullTop, HullOne, SumMath, SumWalk, SumEnd, SumConv, SumSelf, SumTop, HullInt, NoFitMath, NestBox, NestMath. -/
import Derived.Test.YtffjonpajjioaaaTp3
import Derived.Test.YtffjonpajjioaaaTp2
/- Package shape's hull. -/
namespace Go.Proofs.Ytffjonpajjioaaa
open Go.RowKit Go.Sort
attribute [local go_sem ↓] run_min_mn run_max_mx Go.wp_at_zero Go.wp_at_succ

/-- What slices.SortFunc does by package shape's compare. -/
def SortsPts : Prop := ∀ (blk off cap : Nat) (d : Array Pt) (w : World), HoldsK encP 2 w blk off d → blk < w.heap.size → d.size < 4611686018427387904 →
  Calls Try.prog 43 #[.slice (some ⟨blk, off, none⟩) d.size cap, .func (.func 44) #[] #[]] w fun e w' =>
    e = .returned (.tuple #[]) ∧ ∃ d' n os, PermIn 0 d.size d d' ∧ SortedIn (fun x y => decide (cmpQ x y < 0)) 0 d.size d' ∧ w' = sortWorldK encP 2 w blk off n d' os
/-- What slices.Reverse does. -/
def ReversesPts : Prop := ∀ (blk off cap : Nat) (d : Array Pt) (w : World), HoldsK encP 2 w blk off d → d.size < 4611686018427387904 → 0 < d.size →
  Calls Try.prog 46 #[.slice (some ⟨blk, off, none⟩) d.size cap] w fun e w' =>
    e = .returned (.tuple #[]) ∧ ∃ n, w' = putRowK encP 2 (Go.Sort.ahead w n) blk off d.reverse

def SortedTo (g n c : Nat) (l : List Pt) (base : Nat) (w : World) (e : Ending) (w' : World) : Prop :=
  e = .returned (.tuple #[]) ∧ ∃ l', l'.Perm l ∧ l'.Pairwise leP ∧ PtsOwn w' base (.slice (some ⟨g, 0, none⟩) n c) l' ∧ w.grownBy w' (some g)

theorem sort_own (hS : SortsPts) {w : World} {base g n c : Nat} {l : List Pt} (h : PtsOwn w base (.slice (some ⟨g, 0, none⟩) n c) l) (hn : l.length = n) (hb : n ≤ 1000) (hg : g < w.heap.size) :
    Calls Try.prog 43 #[.slice (some ⟨g, 0, none⟩) n c, .func (.func 44) #[] #[]] w (SortedTo g n c l base w) := by
  have k := hS g 0 c l.toArray w (holds_own h hn) hg (by simp; omega)
  simp only [List.size_toArray, hn] at k
  refine k.mono ?_
  rintro e w' ⟨rfl, d', m, os, hp, hs, rfl⟩
  obtain ⟨d', rfl⟩ : ∃ l' : List Pt, d' = l'.toArray := ⟨d'.toList, by simp⟩
  have hsz : d'.length = n := by have := hp.1; simpa [hn] using this
  have hperm : d'.Perm l := by
    have := hp.2.2
    simpa [← hn, List.take_of_length_le (show d'.length ≤ l.length by omega)] using this
  obtain ⟨o1, o2⟩ := own_laid (m := m) (os := os) h hn hsz
  refine ⟨rfl, d', hperm, sorted_of (by simpa [hsz] using hs), o1, o2⟩

theorem reverse_own (hR : ReversesPts) {w : World} {base g n c : Nat} {l : List Pt} (h : PtsOwn w base (.slice (some ⟨g, 0, none⟩) n c) l) (hn : l.length = n) (hb : n ≤ 1000) (h0 : 0 < n) :
    Calls Try.prog 46 #[.slice (some ⟨g, 0, none⟩) n c] w fun e w' => e = .returned (.tuple #[]) ∧ PtsOwn w' base (.slice (some ⟨g, 0, none⟩) n c) l.reverse ∧ w.grownBy w' (some g) := by
  have k := hR g 0 c l.toArray w (holds_own h hn) (by simp; omega) (by simp; omega)
  simp only [List.size_toArray, hn] at k
  refine k.mono ?_
  rintro e w' ⟨rfl, m, rfl⟩
  have o := own_laid (m := m) (os := #[]) (l' := l.reverse) h hn (by simpa using hn)
  rw [show l.toArray.reverse = l.reverse.toArray by simp]
  unfold sortWorldK at o
  rw [grow_empty] at o
  exact ⟨rfl, o.1, o.2⟩

/-- What hull leaves: the chains of the points in their order. -/
def HullTo (l : List Pt) (w : World) (e : Ending) (w' : World) : Prop :=
  ∃ s v, s.Perm l ∧ s.Pairwise leP ∧ e = .returned v ∧ PtsOwn w' w.heap.size v (hullL s) ∧ Below w.heap.size w w'

theorem chain_len {l : List Pt} (h : l ≠ []) : 1 ≤ (chainW l).length := by
  have key : ∀ (l st : List Pt), l ≠ [] ∨ st ≠ [] → l.foldl pushW st ≠ [] := by
    intro l
    induction l with
    | nil => intro st h; rcases h with h | h; exact absurd rfl h; exact h
    | cons x l ih => intro st _; exact ih (pushW st x) (.inr (by simp [pushW]))
  have := key l [] (.inl h)
  unfold chainW
  exact List.length_pos_iff.2 this

set_option maxRecDepth 100000 in
set_option maxHeartbeats 4000000 in
theorem hull_any (hS : SortsPts) (hR : ReversesPts) (b off n c : Nat) (l : List Pt) (w : World) (hl : l.length = n) (hn : 0 < n) (hn' : n ≤ 100) (h : PtsIn w b off l) (hb : b < w.heap.size) (hbd : ∀ x ∈ l, Bd x) :
    Calls Try.prog 27 #[.slice (some ⟨b, off, none⟩) n c] w (HullTo l w) := by
  have K1 := Lib.hid (clone_any b off n c l w hl hn' h hb)
  have HBD := Lib.hid hbd
  have HL := Lib.hid hl
  clear h hbd
  go_enter Try.func27, Try.ntmps27
  go_wp2_with fail
  refine (K1.out).mono ?_
  rintro e w1 ⟨v, rfl, ho, hb1⟩
  obtain ⟨g, c1, rfl, hc1, hgb, hg, -⟩ := ho.row hl hn
  have K2 := Lib.hid (sort_own hS ho hl (by omega) hg)
  have HB1 := Lib.hid hb1
  clear K1 ho hb1
  go_wp2_with fail
  refine (K2.out).mono ?_
  rintro e w2 ⟨rfl, s, hperm, hsort, ho2, hg2⟩
  have hsl : s.length = n := by rw [hperm.length_eq]; exact hl
  have HB2 := Lib.hid (HB1.out.grown hg2 HB1.out.size (fun k hk => by obtain rfl := Option.some.inj hk; exact hgb))
  have hgl2 : g < w2.heap.size := Nat.lt_of_lt_of_le hg hg2.size
  obtain ⟨g', c', e', _, _, _, hin2⟩ := ho2.row hsl hn
  simp only [Value.slice.injEq, Option.some.injEq, Addr.mk.injEq] at e'
  obtain ⟨⟨rfl, -, -⟩, -, -⟩ := e'
  have hsbd : ∀ x ∈ s, Bd x := fun x hx => HBD.out x (hperm.mem_iff.1 hx)
  have K3 := Lib.hid (chain_any g 0 n c1 s w2 hsl hn' hin2 hgl2 hsbd)
  have HO2 := Lib.hid ho2
  have HPERM := Lib.hid hperm
  have HSORT := Lib.hid hsort
  have HSB := Lib.hid hsbd
  have hsz2 := HB2.out.size
  clear K2 ho2 hg2 hin2 hperm hsort hsbd
  go_wp2_with fail
  refine (K3.out).mono ?_
  rintro e w3 ⟨v3, rfl, ho3, hb3⟩
  have hl3 := chain_len (l := s) (by intro e; subst e; simp at hsl; omega)
  obtain ⟨u, hu⟩ : ∃ u, (chainW s).length = u + 1 := ⟨(chainW s).length - 1, by omega⟩
  obtain ⟨g3, c3, rfl, hc3, hb3g, hg3, -⟩ := ho3.row (n := u + 1) (by rw [List.length_reverse]; exact hu) (by omega)
  have HO3 := Lib.hid (HO2.out.belows hb3 (Nat.le_refl _))
  have K4 := Lib.hid (reverse_own hR HO3.out hsl (by omega) hn)
  have HU3 := Lib.hid ho3
  have HB3 := Lib.hid (HB2.out.trans (hb3.mono hsz2))
  clear K3 ho3 hb3 hl3 HO2
  go_wp2_with fail
  refine (K4.out).mono ?_
  rintro e w4 ⟨rfl, ho4, hg4⟩
  have HU4 := Lib.hid (HU3.out.other hg4 (by simp [Value.ownBlock]; omega))
  have HB4 := Lib.hid (HB3.out.grown hg4 HB3.out.size (fun k hk => by obtain rfl := Option.some.inj hk; exact hgb))
  have hrl : s.reverse.length = n := by rw [List.length_reverse]; exact hsl
  obtain ⟨g', c', e', _, _, hgl4, hin4⟩ := ho4.row hrl hn
  simp only [Value.slice.injEq, Option.some.injEq, Addr.mk.injEq] at e'
  obtain ⟨⟨rfl, -, -⟩, -, -⟩ := e'
  have K5 := Lib.hid (chain_any g 0 n c1 s.reverse w4 hrl hn' hin4 hgl4 (fun x hx => HSB.out x (List.mem_reverse.1 hx)))
  have hg34 : g3 < w4.heap.size := Nat.lt_of_lt_of_le hg3 hg4.size
  have hsz4 := HB4.out.size
  clear K4 ho4 hg4 hin4 HU3
  go_wp2_with fail
  refine (K5.out).mono ?_
  rintro e w5 ⟨v5, rfl, ho5, hb5⟩
  have hl5 := chain_len (l := s.reverse) (by intro e; have := congrArg List.length e; simp at this; rw [this] at hsl; simp at hsl; omega)
  obtain ⟨d, hd⟩ : ∃ d, (chainW s.reverse).length = d + 1 := ⟨(chainW s.reverse).length - 1, by omega⟩
  have hu8 : u + 1 ≤ n := by
    have := chainW_len s []
    unfold chainW at hu; simp only [List.length_nil] at this; omega
  have hd8 : d + 1 ≤ n := by
    have := chainW_len s.reverse []
    unfold chainW at hd; simp only [List.length_nil, List.length_reverse] at this; omega
  obtain ⟨g5, c5, rfl, hc5, hb5g, hg5, hin5⟩ := ho5.row (n := d + 1) (by rw [List.length_reverse]; exact hd) (by omega)
  have HU5 : Hid (PtsOwn w5 w2.heap.size (.slice (some ⟨g3, 0, none⟩) u c3) ((chainW s).reverse.dropLast)) := Lib.hid (by
    have h := (HU4.out.belows hb5 (Nat.le_refl _)).shrink (n := u + 1) (k := u) (by rw [List.length_reverse]; exact hu) (by omega)
    rw [List.dropLast_eq_take, List.length_reverse, hu, Nat.add_sub_cancel]
    exact h)
  have HD5 : Hid (PtsAt w5 (some ⟨g5, 0, none⟩) ((chainW s.reverse).reverse.dropLast)) := Lib.hid fun _ => ⟨g5, 0, rfl, hg5, fun i p hp => hin5 i p (by
    rw [List.getElem?_dropLast] at hp
    split at hp
    · exact hp
    · cases hp)⟩
  have hlu : ((chainW s).reverse.dropLast).length = u := by rw [List.length_dropLast, List.length_reverse, hu]; omega
  have hld : ((chainW s.reverse).reverse.dropLast).length = d := by rw [List.length_dropLast, List.length_reverse, hd]; omega
  have HB5 := Lib.hid (HB4.out.trans (hb5.mono hsz4))
  have hlen : ((chainW s).reverse.dropLast).length + ((chainW s.reverse).reverse.dropLast).length ≤ 100000 := by rw [hlu, hld]; omega
  have hw25 : w2.heap.size ≤ w5.heap.size := by
    have h1 := hb5.size
    omega
  clear K5 ho5 hb5 hl5 hin5 HU4 HB4
  have i1 : (0 : Int) ≤ (u : Int) := Int.natCast_nonneg _
  have i2 : (u : Int) ≤ (c3 : Int) := by omega
  have i3 : (0 : Int) ≤ (d : Int) := Int.natCast_nonneg _
  have i4 : (d : Int) ≤ (c5 : Int) := by omega
  have j1 : IntKind.i64.wrap (((u + 1 : Nat) : Int) - 1) = (u : Int) := by rw [IntKind.wrap_i64]; omega
  have j2 : IntKind.i64.wrap ((u : Int) + 1 - 1) = (u : Int) := by rw [IntKind.wrap_i64]; omega
  have j3 : IntKind.i64.wrap (((d + 1 : Nat) : Int) - 1) = (d : Int) := by rw [IntKind.wrap_i64]; omega
  have j4 : IntKind.i64.wrap ((d : Int) + 1 - 1) = (d : Int) := by rw [IntKind.wrap_i64]; omega
  have j5 : IntKind.i64.wrap (u : Int) = (u : Int) := by rw [IntKind.wrap_i64]; omega
  have j6 : IntKind.i64.wrap (d : Int) = (d : Int) := by rw [IntKind.wrap_i64]; omega
  have i5 : u ≤ c3 := by omega
  have i6 : d ≤ c5 := by omega
  go_wp2_with fail
  go_region_held3 (fun _ => True) (exact trivial)
    ((refine step_papp (by rfl) _ _ (by rfl) w2.heap.size (.slice (some ⟨g3, 0, none⟩) u c3) _ _ (some ⟨g5, 0, none⟩) d c5 (by rfl) (by rfl) HU5.out.drew hld HD5.out hlen (by simpa using hw25) ?_; intro v6 w6 ho6 hg6 hat))
  go_wp2_with fail
  go_ret
  exact ⟨s, v6, HPERM.out, HSORT.out, rfl, ho6.low hsz2, HB5.out.drew.grown hg6 (by simpa using HB5.out.size) (fun k hk => Nat.le_trans hsz2 (HU5.out.base k hk).1)⟩
end Go.Proofs.Ytffjonpajjioaaa

/- The reference's Hull. -/
namespace Go.Proofs.Ytffjonpajjioaaa
open Go.RowKit Go.Sort
attribute [local go_sem ↓] run_min_mn run_max_mx Go.wp_at_zero Go.wp_at_succ

def flat0 (l : List Pt) (i k : Nat) : Bool := crossP (gt l 0) (gt l i) (gt l k) == 0
def flatAt (l : List Pt) (i : Nat) : Bool := (List.range l.length).all (flat0 l i)
def flatTo (l : List Pt) (i : Nat) : Bool := (List.range i).all (flatAt l)
def lowTo (l : List Pt) : Nat → Pt
  | 0 => gt l 0
  | i + 1 => if firstP (gt l i) (lowTo l i) then gt l i else lowTo l i

/-- What the reference's Hull leaves: nothing where the points lie on one line, else the hull. -/
def RefHullTo (l H : List Pt) (w : World) (e : Ending) (w' : World) : Prop :=
  Below w.heap.size w w' ∧ ((flatTo l l.length = true ∧ e = .returned (.tuple #[.slice none 0 0, .bool false])) ∨
    (flatTo l l.length = false ∧ ∃ v, e = .returned (.tuple #[v, .bool true]) ∧ PtsOwn w' w.heap.size v H))

theorem PtBlk.one {w : World} {g : Nat} {x y : Int} (h : PtBlk w g [(x, y)]) : PtAt w g x y := by
  obtain ⟨h1, h2⟩ := h.cell (i := 0) (p := (x, y)) rfl
  exact ⟨by simpa using h1, by simpa using h2⟩
theorem PtBlk.put {w : World} {g : Nat} {p : Pt} (h : PtBlk w g [p]) (x y : Int) : PtBlk ((w.setCell ⟨g, 0, none⟩ (.int .i64 x)).setCell ⟨g, 1, none⟩ (.int .i64 y)) g [(x, y)] := by
  simpa using h.set 0 x y
theorem PtBlk.box (w : World) (x y : Int) : PtBlk (w.alloc (bx x y)) w.heap.size [(x, y)] := heap_alloc_new _ _

theorem PtsOwn.one (W : World) (x y : Int) {base : Nat} (hb : base ≤ W.heap.size) : PtsOwn (W.alloc (bx x y)) base (.slice (some ⟨W.heap.size, 0, none⟩) 1 1) [(x, y)] := by
  unfold PtsOwn World.ownsRow
  exact ⟨rfl, .inr ⟨W.heap.size, 1, _, rfl, hb, heap_alloc_new _ _, Nat.le_refl _, by simp [maxLen], rfl, rfl⟩⟩
theorem eqI_iff {a b c d : Int} : eqI a b c d = true ↔ (a, b) = (c, d) := by simp [eqI]

theorem wrap_mem (a : Pt) : ∀ (l : List Pt) (cur : Pt), l.foldl (wrapStep a) cur ∈ l ∨ l.foldl (wrapStep a) cur = cur
  | [], _ => .inr rfl
  | p :: l, cur => by
    rw [List.foldl_cons]
    rcases wrap_mem a l (wrapStep a cur p) with h | h
    · exact .inl (List.mem_cons_of_mem _ h)
    · rw [h]
      unfold wrapStep
      split
      · exact .inr rfl
      · split
        · exact .inl (by simp)
        · exact .inr rfl

theorem flatTo_succ (l : List Pt) (i : Nat) : flatTo l (i + 1) = (flatTo l i && flatAt l i) := by
  unfold flatTo; rw [List.range_succ, List.all_append]; simp
theorem range_all_succ (f : Nat → Bool) (k : Nat) : (List.range (k + 1)).all f = ((List.range k).all f && f k) := by
  rw [List.range_succ, List.all_append]; simp
theorem lowTo_mem {l : List Pt} (h : 0 < l.length) : ∀ i, i ≤ l.length → lowTo l i ∈ l
  | 0, _ => by
    show gt l 0 ∈ l
    unfold gt; rw [List.getD_eq_getElem?_getD, List.getElem?_eq_getElem h]; exact List.getElem_mem h
  | i + 1, hi => by
    unfold lowTo
    split
    · have : i < l.length := by omega
      unfold gt; rw [List.getD_eq_getElem?_getD, List.getElem?_eq_getElem this]; exact List.getElem_mem this
    · exact lowTo_mem h i (by omega)

end Go.Proofs.Ytffjonpajjioaaa

/- Package shape's Hull and the reference's find the same; the reference's Same. -/
namespace Go.Proofs.Ytffjonpajjioaaa
open Go.RowKit Go.Sort
attribute [local go_sem ↓] run_min_mn run_max_mx Go.wp_at_zero Go.wp_at_succ

/-- What Hull leaves. -/
def HullXTo (l : List Pt) (w : World) (e : Ending) (w' : World) : Prop :=
  Below w.heap.size w w' ∧ ((ptsB l 1 = false ∧ e = .returned (.tuple #[.slice none 0 0, .int .i64 1])) ∨
    (ptsB l 1 = true ∧ ∃ s, s.Perm l ∧ s.Pairwise leP ∧ (((hullL s).length < 3 ∧ e = .returned (.tuple #[.slice none 0 0, .int .i64 6])) ∨
      (3 ≤ (hullL s).length ∧ ∃ v, e = .returned (.tuple #[v, .int .i64 0]) ∧ PtsOwn w' w.heap.size v (hullL s)))))

theorem hullL_len (s : List Pt) : (hullL s).length ≤ 2 * s.length := by
  have h1 := chainW_len s []
  have h2 := chainW_len s.reverse []
  simp only [List.length_nil, List.length_reverse] at h1 h2
  unfold hullL chainW
  simp only [List.length_append, List.length_dropLast, List.length_reverse]
  omega

theorem ptsB_1 {l : List Pt} : ptsB l 1 = true ↔ 1 ≤ l.length ∧ l.length ≤ 32 ∧ l.all okP = true := by
  unfold ptsB
  simp only [Bool.and_eq_true, decide_eq_true_eq]
  exact ⟨fun ⟨⟨a, b⟩, c⟩ => ⟨a, b, c⟩, fun ⟨a, b, c⟩ => ⟨⟨a, b⟩, c⟩⟩

set_option maxRecDepth 100000 in
set_option maxHeartbeats 1000000 in
theorem hullX_any (hS : SortsPts) (hR : ReversesPts) (A : Option Addr) (n c : Nat) (l : List Pt) (w : World) (hn : l.length = n) (hbig : n ≤ 1000000) (hx : PtsAt w A l) :
    Calls Try.prog 12 #[.slice A n c] w (HullXTo l w) := by
  have K := Lib.hid (arePoints_any A n c 1 l w hn hbig (by omega) hx)
  cases hp : ptsB l 1
  · rw [hp] at K
    clear hn hx
    go_enter Try.func12, Try.ntmps12
    go_wp2_with fail
    refine (K.out).mono ?_
    rintro e w' ⟨rfl, hb⟩
    go_wp2
    go_ret2
    exact ⟨hb, .inl ⟨hp, rfl⟩⟩
  · rw [hp] at K
    obtain ⟨q1, q2, q3⟩ := ptsB_1.1 hp
    obtain ⟨b, off, rfl, h3, h4⟩ := hx (by intro e; subst e; simp at q1)
    have S := fun W hW => Lib.hid (hull_any hS hR b off n c l W hn (by omega) (by omega) (h4.below (B := w.heap.size) hW h3) (Nat.lt_of_lt_of_le h3 hW.size) (ok_Bd q3))
    clear hn hx h4 q1 q2 q3
    go_enter Try.func12, Try.ntmps12
    go_wp2_with fail
    refine (K.out).mono ?_
    rintro e w1 ⟨rfl, hb⟩
    go_wp2_with fail
    refine ((S _ hb).out).mono ?_
    rintro e w2 ⟨s, v, hperm, hsort, rfl, ho, hb2⟩
    have hbw := hb.trans (hb2.mono hb.size)
    generalize hm : (hullL s).length = m at *
    obtain ⟨A1, c1, rfl, hc1, hat⟩ := ho.slice_n hm
    have HO := Lib.hid (ho.low hb.size)
    have HH : Hid (s.Perm l ∧ s.Pairwise leP) := Lib.hid ⟨hperm, hsort⟩
    have HM := Lib.hid hm
    clear ho hat hperm hsort hm
    by_cases h3 : m < 3
    · go_wp2_with fail
      go_ret2
      exact ⟨hbw, .inr ⟨hp, s, HH.out.1, HH.out.2, .inl ⟨by rw [HM.out]; exact h3, rfl⟩⟩⟩
    · go_wp2_with fail
      go_ret2
      exact ⟨hbw, .inr ⟨hp, s, HH.out.1, HH.out.2, .inr ⟨by rw [HM.out]; omega, _, rfl, HO.out⟩⟩⟩

theorem flatTo_iff {l : List Pt} (h : 0 < l.length) : flatTo l l.length = true ↔ Flat l (gt l 0) := by
  have gm : ∀ i, i < l.length → gt l i ∈ l := fun i hi => by
    unfold gt; rw [List.getD_eq_getElem?_getD, List.getElem?_eq_getElem hi]; exact List.getElem_mem hi
  have mg : ∀ p ∈ l, ∃ i, i < l.length ∧ gt l i = p := fun p hp => by
    obtain ⟨i, hi, e⟩ := List.getElem_of_mem hp
    exact ⟨i, hi, by unfold gt; rw [List.getD_eq_getElem?_getD, List.getElem?_eq_getElem hi]; exact e⟩
  unfold flatTo flatAt flat0 Flat
  simp only [List.all_eq_true, List.mem_range, beq_iff_eq]
  constructor
  · intro hh a ha b hb
    obtain ⟨i, hi, rfl⟩ := mg a ha
    obtain ⟨k, hk, rfl⟩ := mg b hb
    exact hh i hi k hk
  · intro hh i hi k hk
    exact hh _ (gm i hi) _ (gm k hk)

theorem firstP_iff {a b : Pt} : firstP a b = true ↔ ltP a b := by
  unfold firstP firstB ltP
  simp only [Bool.or_eq_true, Bool.and_eq_true, decide_eq_true_eq, beq_iff_eq]
theorem lowTo_le (l : List Pt) : ∀ k i, i < k → leP (lowTo l k) (gt l i)
  | 0, _, h => by omega
  | k + 1, i, h => by
    unfold lowTo
    split
    · rename_i hf
      have hlt := firstP_iff.1 hf
      rcases Nat.lt_or_eq_of_le (Nat.le_of_lt_succ h) with h | rfl
      · exact leP_trans (.inr hlt) (lowTo_le l k i h)
      · exact leP_refl _
    · rename_i hf
      rcases Nat.lt_or_eq_of_le (Nat.le_of_lt_succ h) with h | rfl
      · exact lowTo_le l k i h
      · rcases leP_total (lowTo l i) (gt l i) with g | g
        · exact g
        · exact absurd (firstP_iff.2 g) hf

/-- Both find the same. -/
theorem hull_both {l s : List Pt} (h0 : 0 < l.length) (hp : s.Perm l) (hs : s.Pairwise leP) :
    (flatTo l l.length = true ↔ (hullL s).length < 3) ∧ (flatTo l l.length = false → Hull l (hullL s) (lowTo l l.length)) := by
  cases s with
  | nil => have := hp.length_eq; simp at this; omega
  | cons x m =>
    have hm : ∀ p, p ∈ l ↔ p ∈ x :: m := fun p => hp.mem_iff.symm
    have hg0 : gt l 0 ∈ l := by
      unfold gt; rw [List.getD_eq_getElem?_getD, List.getElem?_eq_getElem h0]; exact List.getElem_mem h0
    have hlow : lowTo l l.length = x := by
      have h1 := lowTo_mem h0 l.length (Nat.le_refl _)
      have h2 : leP x (lowTo l l.length) := by
        rcases List.mem_cons.1 ((hm _).1 h1) with e | e
        · rw [e]; exact leP_refl _
        · exact (List.pairwise_cons.1 hs).1 _ e
      obtain ⟨i, hi, e⟩ := List.getElem_of_mem ((hm x).2 (by simp))
      have h3 := lowTo_le l l.length i hi
      have e2 : gt l i = x := by unfold gt; rw [List.getD_eq_getElem?_getD, List.getElem?_eq_getElem hi]; exact e
      rw [e2] at h3
      exact leP_anti h3 h2
    rcases hull_ok hs with ⟨h1, h2⟩ | h
    · have hf : flatTo l l.length = true := (flatTo_iff h0).2 (flat_one (fun p hp => h1 p ((hm p).1 hp)) hg0)
      exact ⟨⟨fun _ => by omega, fun _ => hf⟩, fun e => by rw [hf] at e; cases e⟩
    · have h' := h.mem hm
      refine ⟨(flatTo_iff h0).trans (hull_flat h' hg0), fun _ => by rw [hlow]; exact h'⟩

end Go.Proofs.Ytffjonpajjioaaa

/- Shape: hulls of lists with the same points; what ShapeHulled asks of them. -/
namespace Go.Proofs.Ytffjonpajjioaaa

theorem gt_mem {l : List Pt} {i : Nat} (h : i < l.length) : gt l i ∈ l := by
  rw [gt_of (List.getElem?_eq_getElem h)]; exact List.getElem_mem h
theorem low_le {l : List Pt} {p : Pt} (h : p ∈ l) : leP (lowTo l l.length) p := by
  obtain ⟨i, hi, e⟩ := List.getElem_of_mem h
  have := lowTo_le l l.length i hi
  rwa [gt_of (List.getElem?_eq_getElem hi), e] at this

theorem hull_facts {l s : List Pt} (hp : s.Perm l) (hs : s.Pairwise leP) (h0 : (0, 0) ∈ l) (h1 : (1, 0) ∈ l) (h2 : (0, 1) ∈ l) :
    3 ≤ (hullL s).length ∧ ∃ s0, Hull l (hullL s) s0 ∧ ∀ p ∈ l, leP s0 p := by
  have hl : 0 < l.length := List.length_pos_of_mem h0
  obtain ⟨a, b⟩ := hull_both hl hp hs
  cases hf : flatTo l l.length
  · refine ⟨?_, _, b hf, fun p hp => low_le hp⟩
    rcases Nat.lt_or_ge (hullL s).length 3 with g | g
    · rw [a.2 g] at hf; cases hf
    · exact g
  · exfalso
    have := ((flatTo_iff hl).1 hf).all h0 h1 h2
    unfold crossP cross at this
    omega

theorem hull_other {P K Q t : List Pt} {k0 : Pt} (h : Hull P K k0) (hlow : ∀ p ∈ P, leP k0 p) (h3 : 3 ≤ K.length) (hQ : ∀ p, p ∈ Q ↔ p ∈ P) (hp : t.Perm Q) (hs : t.Pairwise leP) : hullL t = K := by
  have hk0 : k0 ∈ P := by
    have := (h.edge 0 (by omega)).fst
    rwa [h.first] at this
  have hl : 0 < Q.length := List.length_pos_of_mem ((hQ k0).2 hk0)
  obtain ⟨a, b⟩ := hull_both hl hp hs
  cases hf : flatTo Q Q.length
  · have hh := (b hf).mem (P := Q) (Q := P) (fun p => (hQ p).symm)
    have hm : lowTo Q Q.length ∈ P := (hQ _).1 (lowTo_mem hl _ (Nat.le_refl _))
    have e : lowTo Q Q.length = k0 := leP_anti (low_le ((hQ _).2 hk0)) (hlow _ hm)
    rw [e] at hh
    exact hull_unique hh h
  · exfalso
    have hflat := (flatTo_iff hl).1 hf
    have : Flat P (gt Q 0) := fun x hx y hy => hflat x ((hQ x).2 hx) y ((hQ y).2 hy)
    have := (hull_flat h ((hQ _).1 (gt_mem hl))).1 this
    omega

/-- A hull as an argument. -/
theorem hull_poly {P H : List Pt} {s0 : Pt} (h : Hull P H s0) (h3 : 3 ≤ H.length) (hok : P.all okP = true) (hlen : P.length ≤ 32) : polyB H = true := by
  unfold polyB
  rw [Bool.and_eq_true]
  refine ⟨List.all_eq_true.2 fun p hp => List.all_eq_true.1 hok p (hull_sub h hp), ?_⟩
  have := hull_length h
  rw [inB_true]
  omega

theorem convexB_simple {l : List Pt} (h : convexB l = true) : simpleB l = true := by
  unfold convexB at h
  rw [Bool.and_eq_true] at h
  exact h.1

theorem hull_simpE {H : List Pt} (hp : polyB H = true) (hc : convexB H = true) : simpE H = 0 := by
  have := convexB_simple hc
  rcases simpE_cases H with h | h | h
  · rw [hp] at h; cases h.2
  · have := h.2; simp_all
  · exact h.1

/-- Where finds all points inside or on the edges. -/
theorem hull_whereX {P H : List Pt} {s0 p : Pt} (h : Hull P H s0) (hlow : ∀ p ∈ P, leP s0 p) (h3 : 3 ≤ H.length) (hok : P.all okP = true) (hlen : P.length ≤ 32) (hp : p ∈ P) :
    (whereX H p = 0 ∨ whereX H p = 1) ∧ whereE H p = 0 := by
  have e0 := hull_simpE (hull_poly h h3 hok hlen) (hull_convex h h3 hlow)
  have ev : validB p.1 p.2 10000 = true := List.all_eq_true.1 hok p hp
  refine ⟨?_, ?_⟩
  · unfold whereX
    rw [if_pos ⟨e0, ev⟩, ← where_same]
    exact hull_where h hlow hp
  · unfold whereE
    rw [if_pos e0, if_pos ev]

end Go.Proofs.Ytffjonpajjioaaa

/- Shape: the merge of two convex chains, one step: mathematics of Sum. -/
namespace Go.Proofs.Ytffjonpajjioaaa

theorem xr_mid {d ea eb v : Pt} (h1 : 0 < xr d eb) (h2 : 0 ≤ xr d ea) (h3 : 0 ≤ xr ea eb) (h4 : 0 ≤ xr d v) (h5 : 0 ≤ xr eb v) : 0 ≤ xr ea v := by
  have id : xr d eb * xr ea v = xr ea eb * xr d v + xr d ea * xr eb v := by unfold xr; grind
  have a := Int.mul_nonneg h3 h4
  have b := Int.mul_nonneg h2 h5
  exact nonneg_of_mul h1 id (by omega)
theorem xr_same {d ea eb f : Pt} (h1 : 0 < xr d eb) (h2 : 0 < xr d ea) (h3 : xr ea eb = 0) (h4 : 0 < xr eb f) : 0 < xr ea f := by
  have id : xr d eb * xr ea f = xr ea eb * xr d f + xr d ea * xr eb f := by unfold xr; grind
  rw [h3, Int.zero_mul, Int.zero_add] at id
  exact pos_of_mul h1 id (Int.mul_pos h2 h4)

/-- The edge that begins at a corner. -/
def ev (a : List Pt) (i : Nat) : Pt := subP (vtx a (i + 1)) (vtx a i)

/-- A direction that both chains have not passed yet, with both corners on its outer side. -/
structure Sweep (a b : List Pt) (i j : Nat) (d : Pt) : Prop where
  onA : ∀ x ∈ a, 0 ≤ xr d (subP x (vtx a i))
  onB : ∀ y ∈ b, 0 ≤ xr d (subP y (vtx b j))
  nextA : 0 < xr d (ev a i)
  nextB : 0 < xr d (ev b j)

/-- A convex polygon: its own hull, with strict turns. -/
structure Conv (a : List Pt) (a0 : Pt) : Prop where
  hull : Hull a a a0
  three : 3 ≤ a.length
  low : ∀ p ∈ a, leP a0 p

theorem Conv.left {a : List Pt} {a0 : Pt} (h : Conv a a0) (i : Nat) {x : Pt} (hx : x ∈ a) : 0 ≤ xr (ev a i) (subP x (vtx a i)) := by
  have := ((h.hull.edgeV i).ok x hx).nonneg
  rwa [crossP_xr] at this
theorem Conv.left2 {a : List Pt} {a0 : Pt} (h : Conv a a0) (i : Nat) {x : Pt} (hx : x ∈ a) : 0 ≤ xr (ev a i) (subP x (vtx a (i + 1))) := by
  have := ((h.hull.edgeV i).ok x hx).nonneg
  rwa [crossP_xr2] at this
theorem Conv.vne {a : List Pt} {a0 : Pt} (h : Conv a a0) (i : Nat) : vtx a (i + 1 + 1) ≠ vtx a i := by
  have three := h.three
  intro e
  have e' := hull_inj h.hull (Nat.mod_lt _ (by omega)) (Nat.mod_lt _ (by omega)) (show gt a ((i + 1 + 1) % a.length) = gt a (i % a.length) from e)
  have h1 : (i + 1 + 1 - i) % a.length = 0 := by
    have := (Nat.sub_mod_eq_zero_of_mod_eq e')
    exact this
  rw [show i + 1 + 1 - i = 2 by omega, Nat.mod_eq_of_lt (by omega)] at h1
  omega
theorem Conv.turn {a : List Pt} {a0 : Pt} (h : Conv a a0) (i : Nat) : 0 < xr (ev a i) (ev a (i + 1)) := by
  have E := h.hull.edgeV i
  have F := h.hull.edgeV (i + 1)
  have k := E.ok _ F.snd
  have e : crossP (vtx a i) (vtx a (i + 1)) (vtx a (i + 1 + 1)) = xr (ev a i) (ev a (i + 1)) := crossP_xr2 _ _ _
  rcases k with k | k
  · rwa [e] at k
  · rcases hedge_between E (h.hull.edgeV (i + 1 + 1)) k with q | q
    · exact absurd q (h.vne i)
    · exact absurd q.symm F.ne
theorem Conv.vmem {a : List Pt} {a0 : Pt} (h : Conv a a0) (i : Nat) : vtx a i ∈ a := vtx_mem (by have := h.three; omega) i

theorem subP_add (x y z : Pt) : xr x (subP y z) = xr x y - xr x z := by unfold xr subP; grind
theorem xr_swap (u v : Pt) : xr u v = - xr v u := by unfold xr; grind

theorem Sweep.swap {a b : List Pt} {i j : Nat} {d : Pt} (h : Sweep a b i j d) : Sweep b a j i d := ⟨h.onB, h.onA, h.nextB, h.nextA⟩

/-- The first one's edge supports the second one, too. -/
theorem Sweep.side {a b : List Pt} {a0 b0 : Pt} (ca : Conv a a0) (cb : Conv b b0) {i j : Nat} {d : Pt} (h : Sweep a b i j d) (ho : 0 ≤ xr (ev a i) (ev b j)) {y : Pt} (hy : y ∈ b) : 0 ≤ xr (ev a i) (subP y (vtx b j)) :=
  xr_mid h.nextB (by have := h.nextA; omega) ho (h.onB y hy) (cb.left j hy)

theorem Sweep.stepA {a b : List Pt} {a0 b0 : Pt} (ca : Conv a a0) (cb : Conv b b0) {i j : Nat} {d : Pt} (h : Sweep a b i j d) (ho : 0 < xr (ev a i) (ev b j)) : Sweep a b (i + 1) j (ev a i) :=
  ⟨fun x hx => ca.left2 i hx, fun y hy => h.side ca cb (by omega) hy, ca.turn i, ho⟩
theorem Sweep.stepB {a b : List Pt} {a0 b0 : Pt} (ca : Conv a a0) (cb : Conv b b0) {i j : Nat} {d : Pt} (h : Sweep a b i j d) (ho : xr (ev a i) (ev b j) < 0) : Sweep a b i (j + 1) (ev b j) :=
  (h.swap.stepA cb ca (by rw [xr_swap]; omega)).swap
theorem Sweep.stepAB {a b : List Pt} {a0 b0 : Pt} (ca : Conv a a0) (cb : Conv b b0) {i j : Nat} {d : Pt} (h : Sweep a b i j d) (ho : xr (ev a i) (ev b j) = 0) : Sweep a b (i + 1) (j + 1) (ev a i) := by
  refine ⟨fun x hx => ca.left2 i hx, fun y hy => ?_, ca.turn i, xr_same h.nextB h.nextA ho (cb.turn j)⟩
  have k := h.side ca cb (by omega) hy
  have e : xr (ev a i) (subP y (vtx b (j + 1))) = xr (ev a i) (subP y (vtx b j)) - xr (ev a i) (ev b j) := by unfold ev xr subP; grind
  rw [e, ho]
  omega

def sumP (p q : Pt) : Pt := (p.1 + q.1, p.2 + q.2)
/-- All sums of a point of one list and a point of the other. -/
def sums (a b : List Pt) : List Pt := a.flatMap fun x => b.map fun y => sumP x y
theorem mem_sums {a b : List Pt} {p : Pt} : p ∈ sums a b ↔ ∃ x ∈ a, ∃ y ∈ b, p = sumP x y := by
  unfold sums
  simp only [List.mem_flatMap, List.mem_map]
  constructor
  · rintro ⟨x, hx, y, hy, rfl⟩; exact ⟨x, hx, y, hy, rfl⟩
  · rintro ⟨x, hx, y, hy, rfl⟩; exact ⟨x, hx, y, hy, rfl⟩

theorem zero_vec {d e v : Pt} (h : 0 < xr d e) (h1 : xr d v = 0) (h2 : xr e v = 0) : v = (0, 0) := by
  have k1 : xr d e * v.1 = xr d v * e.1 - xr e v * d.1 := by unfold xr; grind
  have k2 : xr d e * v.2 = xr d v * e.2 - xr e v * d.2 := by unfold xr; grind
  rw [h1, h2, Int.zero_mul, Int.zero_mul, Int.sub_zero] at k1 k2
  exact Prod.ext ((Int.mul_eq_zero.1 k1).resolve_left (by omega)) ((Int.mul_eq_zero.1 k2).resolve_left (by omega))

theorem cross_sum (a a' b x y : Pt) : crossP (sumP a b) (sumP a' b) (sumP x y) = xr (subP a' a) (subP x a) + xr (subP a' a) (subP y b) := by
  unfold crossP cross sumP xr subP; grind
theorem cross_sum2 (a a' b b' x y : Pt) : crossP (sumP a b) (sumP a' b') (sumP x y) = xr (subP a' a) (subP x a) + xr (subP a' a) (subP y b) + (xr (subP b' b) (subP x a) + xr (subP b' b) (subP y b)) := by
  unfold crossP cross sumP xr subP; grind

theorem onP_sum {a a' b x : Pt} (h : onP a a' x = true) : onP (sumP a b) (sumP a' b) (sumP x b) = true := by
  rw [onP_iff] at h ⊢
  unfold sumP
  simp only
  rw [show a'.1 + b.1 - (a.1 + b.1) = a'.1 - a.1 by omega, show a'.2 + b.2 - (a.2 + b.2) = a'.2 - a.2 by omega, show x.1 + b.1 - (a.1 + b.1) = x.1 - a.1 by omega, show x.2 + b.2 - (a.2 + b.2) = x.2 - a.2 by omega]
  exact h

theorem Sweep.edgeA {a b : List Pt} {a0 b0 : Pt} (ca : Conv a a0) (cb : Conv b b0) {i j : Nat} {d : Pt} (h : Sweep a b i j d) (ho : 0 < xr (ev a i) (ev b j)) :
    Hedge (sums a b) (sumP (vtx a i) (vtx b j)) (sumP (vtx a (i + 1)) (vtx b j)) := by
  have E := ca.hull.edgeV i
  refine ⟨fun e => E.ne ?_, fun p hp => ?_, mem_sums.2 ⟨_, ca.vmem i, _, cb.vmem j, rfl⟩, mem_sums.2 ⟨_, ca.vmem (i + 1), _, cb.vmem j, rfl⟩⟩
  · unfold sumP at e
    simp only [Prod.mk.injEq] at e
    exact Prod.ext (by omega) (by omega)
  · obtain ⟨x, hx, y, hy, rfl⟩ := mem_sums.1 hp
    have k1 := ca.left i hx
    have k2 := h.side ca cb (by omega) hy
    have e := cross_sum (vtx a i) (vtx a (i + 1)) (vtx b j) x y
    have e' : crossP (sumP (vtx a i) (vtx b j)) (sumP (vtx a (i + 1)) (vtx b j)) (sumP x y) = xr (ev a i) (subP x (vtx a i)) + xr (ev a i) (subP y (vtx b j)) := e
    by_cases g : 0 < xr (ev a i) (subP x (vtx a i)) + xr (ev a i) (subP y (vtx b j))
    · exact .inl (by rw [e']; exact g)
    · right
      have z1 : xr (ev a i) (subP x (vtx a i)) = 0 := by omega
      have z2 : xr (ev a i) (subP y (vtx b j)) = 0 := by omega
      have ox : onP (vtx a i) (vtx a (i + 1)) x = true := (E.ok x hx).resolve_left fun q => by
        rw [crossP_xr] at q
        have : 0 < xr (ev a i) (subP x (vtx a i)) := q
        omega
      have id : xr d (ev b j) * xr (ev a i) (subP y (vtx b j)) = xr (ev a i) (ev b j) * xr d (subP y (vtx b j)) + xr d (ev a i) * xr (ev b j) (subP y (vtx b j)) := by unfold xr; grind
      rw [z2, Int.mul_zero] at id
      have m1 := Int.mul_nonneg (Int.le_of_lt ho) (h.onB y hy)
      have m2 := Int.mul_nonneg (Int.le_of_lt h.nextA) (cb.left j hy)
      have y1 := (Int.mul_eq_zero.1 (show xr (ev a i) (ev b j) * xr d (subP y (vtx b j)) = 0 by omega)).resolve_left (by omega)
      have y2 := (Int.mul_eq_zero.1 (show xr d (ev a i) * xr (ev b j) (subP y (vtx b j)) = 0 by omega)).resolve_left (by have := h.nextA; omega)
      have hv := zero_vec h.nextB y1 y2
      have hy' : y = vtx b j := by
        unfold subP at hv
        simp only [Prod.mk.injEq] at hv
        exact Prod.ext (by omega) (by omega)
      rw [hy']
      exact onP_sum ox

theorem sumP_comm (p q : Pt) : sumP p q = sumP q p := by unfold sumP; simp only [Prod.mk.injEq]; omega
theorem Hedge.iff {P Q : List Pt} (h : ∀ p, p ∈ P ↔ p ∈ Q) {a b : Pt} (k : Hedge P a b) : Hedge Q a b := k.mem fun p => (h p).symm
theorem sums_comm (a b : List Pt) (p : Pt) : p ∈ sums a b ↔ p ∈ sums b a := by
  rw [mem_sums, mem_sums]
  constructor
  · rintro ⟨x, hx, y, hy, rfl⟩; exact ⟨y, hy, x, hx, sumP_comm _ _⟩
  · rintro ⟨x, hx, y, hy, rfl⟩; exact ⟨y, hy, x, hx, sumP_comm _ _⟩
theorem Sweep.edgeB {a b : List Pt} {a0 b0 : Pt} (ca : Conv a a0) (cb : Conv b b0) {i j : Nat} {d : Pt} (h : Sweep a b i j d) (ho : xr (ev a i) (ev b j) < 0) :
    Hedge (sums a b) (sumP (vtx a i) (vtx b j)) (sumP (vtx a i) (vtx b (j + 1))) := by
  have k := (h.swap.edgeA cb ca (by rw [xr_swap]; omega)).iff (fun p => sums_comm b a p)
  rwa [sumP_comm, sumP_comm (vtx b (j + 1))] at k

theorem btw_sum {u p v q : Int} (h1 : btw u p) (h2 : btw v q) (hs : (0 ≤ p ∧ 0 ≤ q) ∨ (p ≤ 0 ∧ q ≤ 0)) : btw (u + v) (p + q) := by
  unfold btw at *
  omega
theorem same_sign {k m p q : Int} (hk : 0 < k) (hm : 0 < m) (h : k * p = m * q) : (0 ≤ p ∧ 0 ≤ q) ∨ (p ≤ 0 ∧ q ≤ 0) := by
  rcases Int.le_total 0 q with g | g
  · exact .inl ⟨nonneg_of_mul hk h (Int.mul_nonneg (by omega) g), g⟩
  · refine .inr ⟨?_, g⟩
    have : 0 ≤ -p := nonneg_of_mul hk (s := m * -q) (by rw [Int.mul_neg, Int.mul_neg, h]) (Int.mul_nonneg (by omega) (by omega))
    omega

theorem Sweep.edgeAB {a b : List Pt} {a0 b0 : Pt} (ca : Conv a a0) (cb : Conv b b0) {i j : Nat} {d : Pt} (h : Sweep a b i j d) (ho : xr (ev a i) (ev b j) = 0) :
    Hedge (sums a b) (sumP (vtx a i) (vtx b j)) (sumP (vtx a (i + 1)) (vtx b (j + 1))) := by
  have E := ca.hull.edgeV i
  have F := cb.hull.edgeV j
  have nA := h.nextA
  have nB := h.nextB
  have p1 : xr d (ev b j) * (ev a i).1 = xr d (ev a i) * (ev b j).1 := by
    have : xr d (ev b j) * (ev a i).1 = xr d (ev a i) * (ev b j).1 + xr (ev a i) (ev b j) * d.1 := by unfold xr; grind
    rw [ho, Int.zero_mul, Int.add_zero] at this; exact this
  have p2 : xr d (ev b j) * (ev a i).2 = xr d (ev a i) * (ev b j).2 := by
    have : xr d (ev b j) * (ev a i).2 = xr d (ev a i) * (ev b j).2 + xr (ev a i) (ev b j) * d.2 := by unfold xr; grind
    rw [ho, Int.zero_mul, Int.add_zero] at this; exact this
  have s1 := same_sign nB nA p1
  have s2 := same_sign nB nA p2
  have ea : ev a i = subP (vtx a (i + 1)) (vtx a i) := rfl
  have eb : ev b j = subP (vtx b (j + 1)) (vtx b j) := rfl
  have hmul : ∀ v, xr d (ev b j) * xr (ev a i) v = xr d (ev a i) * xr (ev b j) v := fun v => by
    have : xr d (ev b j) * xr (ev a i) v = xr d (ev a i) * xr (ev b j) v + xr (ev a i) (ev b j) * xr d v := by unfold xr; grind
    rw [ho, Int.zero_mul, Int.add_zero] at this; exact this
  refine ⟨fun e => ?_, fun p hp => ?_, mem_sums.2 ⟨_, ca.vmem i, _, cb.vmem j, rfl⟩, mem_sums.2 ⟨_, ca.vmem (i + 1), _, cb.vmem (j + 1), rfl⟩⟩
  · have z : ∀ (u v u' v' : Pt), sumP u v = sumP u' v' → subP v' v = (-(subP u' u).1, -(subP u' u).2) := fun u v u' v' e => by
      unfold sumP at e
      unfold subP
      simp only [Prod.mk.injEq] at e ⊢
      omega
    have := z _ _ _ _ e
    rw [← ea, ← eb] at this
    rw [this] at nB
    have : xr d (-(ev a i).1, -(ev a i).2) = - xr d (ev a i) := by unfold xr; grind
    omega
  · obtain ⟨x, hx, y, hy, rfl⟩ := mem_sums.1 hp
    have k1 := ca.left i hx
    have k2 := h.side ca cb (by omega) hy
    have k3 := cb.left j hy
    have k4 := h.swap.side cb ca (by rw [xr_swap]; omega) hx
    have e' : crossP (sumP (vtx a i) (vtx b j)) (sumP (vtx a (i + 1)) (vtx b (j + 1))) (sumP x y) = xr (ev a i) (subP x (vtx a i)) + xr (ev a i) (subP y (vtx b j)) + (xr (ev b j) (subP x (vtx a i)) + xr (ev b j) (subP y (vtx b j))) := cross_sum2 _ _ _ _ _ _
    by_cases g : 0 < crossP (sumP (vtx a i) (vtx b j)) (sumP (vtx a (i + 1)) (vtx b (j + 1))) (sumP x y)
    · exact .inl g
    · right
      have z1 : xr (ev a i) (subP x (vtx a i)) = 0 := by omega
      have z2 : xr (ev b j) (subP y (vtx b j)) = 0 := by omega
      have ox : onP (vtx a i) (vtx a (i + 1)) x = true := (E.ok x hx).resolve_left fun q => by
        rw [crossP_xr] at q
        have : 0 < xr (ev a i) (subP x (vtx a i)) := q
        omega
      have oy : onP (vtx b j) (vtx b (j + 1)) y = true := (F.ok y hy).resolve_left fun q => by
        rw [crossP_xr] at q
        have : 0 < xr (ev b j) (subP y (vtx b j)) := q
        omega
      have g0 : crossP (sumP (vtx a i) (vtx b j)) (sumP (vtx a (i + 1)) (vtx b (j + 1))) (sumP x y) = 0 := by omega
      rw [onP_iff] at ox oy ⊢
      obtain ⟨_, o1, o2⟩ := ox
      obtain ⟨_, o3, o4⟩ := oy
      refine ⟨g0, ?_, ?_⟩
      · have := btw_sum o1 o3 s1
        unfold sumP
        simp only
        rw [show (vtx a (i + 1)).1 + (vtx b (j + 1)).1 - ((vtx a i).1 + (vtx b j).1) = (vtx a (i + 1)).1 - (vtx a i).1 + ((vtx b (j + 1)).1 - (vtx b j).1) by omega, show x.1 + y.1 - ((vtx a i).1 + (vtx b j).1) = x.1 - (vtx a i).1 + (y.1 - (vtx b j).1) by omega]
        exact this
      · have := btw_sum o2 o4 s2
        unfold sumP
        simp only
        rw [show (vtx a (i + 1)).2 + (vtx b (j + 1)).2 - ((vtx a i).2 + (vtx b j).2) = (vtx a (i + 1)).2 - (vtx a i).2 + ((vtx b (j + 1)).2 - (vtx b j).2) by omega, show x.2 + y.2 - ((vtx a i).2 + (vtx b j).2) = x.2 - (vtx a i).2 + (y.2 - (vtx b j).2) by omega]
        exact this

end Go.Proofs.Ytffjonpajjioaaa

/- Shape: the merge of two convex chains is the hull of all sums. -/
namespace Go.Proofs.Ytffjonpajjioaaa

/-- How far the merge has come: one step. -/
def mstep (a b : List Pt) (s : Nat × Nat) : Nat × Nat :=
  if 0 < xr (ev a s.1) (ev b s.2) then (s.1 + 1, s.2) else if xr (ev a s.1) (ev b s.2) < 0 then (s.1, s.2 + 1) else (s.1 + 1, s.2 + 1)
def mst (a b : List Pt) : Nat → Nat × Nat
  | 0 => (0, 0)
  | k + 1 => mstep a b (mst a b k)
def mpt (a b : List Pt) (k : Nat) : Pt := sumP (vtx a (mst a b k).1) (vtx b (mst a b k).2)

theorem big_x (l : List Pt) (o : Pt) : ∃ N : Int, 0 < N ∧ ∀ x ∈ l, -N < (subP x o).1 := by
  induction l with
  | nil => exact ⟨1, by omega, by simp⟩
  | cons y l ih =>
    obtain ⟨N, h0, h⟩ := ih
    refine ⟨N + (if (subP y o).1 < 0 then -(subP y o).1 else 0) + 1, by split <;> omega, fun x hx => ?_⟩
    rcases List.mem_cons.1 hx with rfl | hx
    · split <;> omega
    · have := h x hx
      split <;> omega

theorem low_side {l : List Pt} {o : Pt} (h : ∀ p ∈ l, leP o p) {N : Int} (h0 : 0 < N) (hN : ∀ x ∈ l, -N < (subP x o).1) {x : Pt} (hx : x ∈ l) : 0 ≤ xr (N, -1) (subP x o) ∧ (x ≠ o → 0 < xr (N, -1) (subP x o)) := by
  have e : xr (N, -1) (subP x o) = N * (subP x o).2 + (subP x o).1 := by unfold xr; grind
  have k := hN x hx
  rcases h x hx with q | q
  · subst q
    have z : subP o o = (0, 0) := by unfold subP; simp
    refine ⟨by rw [e, z]; simp, fun g => absurd rfl g⟩
  · have pos : 0 < xr (N, -1) (subP x o) := by
      rw [e]
      have hs : 0 < (subP x o).2 ∨ ((subP x o).2 = 0 ∧ 0 < (subP x o).1) := by
        unfold ltP at q; unfold subP; simp only; omega
      rcases hs with hs | ⟨hs1, hs2⟩
      · have : N * 1 ≤ N * (subP x o).2 := Int.mul_le_mul_of_nonneg_left (by omega) (by omega)
        omega
      · rw [hs1]; simp; omega
    exact ⟨by omega, fun _ => pos⟩

theorem sweep_start {a b : List Pt} {a0 b0 : Pt} (ca : Conv a a0) (cb : Conv b b0) : ∃ d, Sweep a b 0 0 d := by
  obtain ⟨N, n0, hN⟩ := big_x a a0
  obtain ⟨M, m0, hM⟩ := big_x b b0
  have hNa : ∀ x ∈ a, -(N + M) < (subP x a0).1 := fun x hx => by have := hN x hx; omega
  have hNb : ∀ x ∈ b, -(N + M) < (subP x b0).1 := fun x hx => by have := hM x hx; omega
  have A := fun x hx => low_side ca.low (N := N + M) (by omega) hNa (x := x) hx
  have B := fun x hx => low_side cb.low (N := N + M) (by omega) hNb (x := x) hx
  have va := ca.hull.vtx0
  have vb := cb.hull.vtx0
  refine ⟨(N + M, -1), ⟨fun x hx => by rw [va]; exact (A x hx).1, fun x hx => by rw [vb]; exact (B x hx).1, ?_, ?_⟩⟩
  · have := (A _ (ca.vmem 1)).2 (fun e => (ca.hull.edgeV 0).ne (by rw [va]; exact e.symm))
    show 0 < xr (N + M, -1) (subP (vtx a 1) (vtx a 0))
    rw [va]; exact this
  · have := (B _ (cb.vmem 1)).2 (fun e => (cb.hull.edgeV 0).ne (by rw [vb]; exact e.symm))
    show 0 < xr (N + M, -1) (subP (vtx b 1) (vtx b 0))
    rw [vb]; exact this

theorem sweep_at {a b : List Pt} {a0 b0 : Pt} (ca : Conv a a0) (cb : Conv b b0) : ∀ k, ∃ d, Sweep a b (mst a b k).1 (mst a b k).2 d
  | 0 => sweep_start ca cb
  | k + 1 => by
    obtain ⟨d, h⟩ := sweep_at ca cb k
    show ∃ d, Sweep a b (mstep a b (mst a b k)).1 (mstep a b (mst a b k)).2 d
    unfold mstep
    by_cases g : 0 < xr (ev a (mst a b k).1) (ev b (mst a b k).2)
    · rw [if_pos g]; exact ⟨_, h.stepA ca cb g⟩
    · rw [if_neg g]
      by_cases g2 : xr (ev a (mst a b k).1) (ev b (mst a b k).2) < 0
      · rw [if_pos g2]; exact ⟨_, h.stepB ca cb g2⟩
      · rw [if_neg g2]; exact ⟨_, h.stepAB ca cb (by omega)⟩

theorem merge_edge {a b : List Pt} {a0 b0 : Pt} (ca : Conv a a0) (cb : Conv b b0) (k : Nat) : Hedge (sums a b) (mpt a b k) (mpt a b (k + 1)) := by
  obtain ⟨d, h⟩ := sweep_at ca cb k
  show Hedge (sums a b) (mpt a b k) (sumP (vtx a (mstep a b (mst a b k)).1) (vtx b (mstep a b (mst a b k)).2))
  unfold mstep mpt
  by_cases g : 0 < xr (ev a (mst a b k).1) (ev b (mst a b k).2)
  · rw [if_pos g]; exact h.edgeA ca cb g
  · rw [if_neg g]
    by_cases g2 : xr (ev a (mst a b k).1) (ev b (mst a b k).2) < 0
    · rw [if_pos g2]; exact h.edgeB ca cb g2
    · rw [if_neg g2]; exact h.edgeAB ca cb (by omega)

theorem merge_hull {a b K : List Pt} {a0 b0 : Pt} (ca : Conv a a0) (cb : Conv b b0) (h : Hull (sums a b) K (sumP a0 b0)) : ∀ k, mpt a b k = vtx K k
  | 0 => by
    rw [h.vtx0]
    show sumP (vtx a 0) (vtx b 0) = _
    rw [ca.hull.vtx0, cb.hull.vtx0]
  | k + 1 => by
    have e := merge_edge ca cb k
    rw [merge_hull ca cb h k] at e
    exact hedge_next e (h.edgeV k)

theorem sumP_low {a b : List Pt} {a0 b0 : Pt} (ca : Conv a a0) (cb : Conv b b0) : ∀ p ∈ sums a b, leP (sumP a0 b0) p := fun p hp => by
  obtain ⟨x, hx, y, hy, rfl⟩ := mem_sums.1 hp
  have h1 := ca.low x hx
  have h2 := cb.low y hy
  unfold leP ltP sumP at *
  rcases h1 with rfl | h1
  · rcases h2 with rfl | h2
    · exact .inl rfl
    · right; simp only; omega
  · rcases h2 with rfl | h2
    · right; simp only; omega
    · right; simp only; omega
/-- Only the two lowest points make the lowest sum. -/
theorem sumP_first {a b : List Pt} {a0 b0 x y : Pt} (ca : Conv a a0) (cb : Conv b b0) (hx : x ∈ a) (hy : y ∈ b) (e : sumP x y = sumP a0 b0) : x = a0 ∧ y = b0 := by
  have h1 := ca.low x hx
  have h2 := cb.low y hy
  unfold leP ltP at h1 h2
  unfold sumP at e
  simp only [Prod.mk.injEq] at e
  rcases h1 with h1 | h1
  · rcases h2 with h2 | h2
    · exact ⟨h1.symm, h2.symm⟩
    · rw [← h1] at e; omega
  · rcases h2 with h2 | h2
    · rw [← h2] at e; omega
    · omega

end Go.Proofs.Ytffjonpajjioaaa

/- Shape: where the merge of two convex chains ends. -/
namespace Go.Proofs.Ytffjonpajjioaaa

/-- Vectors of the same direction. -/
def Dir (u v : Pt) : Prop := ∃ p q : Int, 0 < p ∧ 0 < q ∧ p * u.1 = q * v.1 ∧ p * u.2 = q * v.2
theorem Dir.xr {u v : Pt} (h : Dir u v) : ∃ p q : Int, 0 < p ∧ 0 < q ∧ ∀ w, p * xr u w = q * xr v w := by
  obtain ⟨p, q, hp, hq, h1, h2⟩ := h
  refine ⟨p, q, hp, hq, fun w => ?_⟩
  have e : p * Go.Proofs.Ytffjonpajjioaaa.xr u w - q * Go.Proofs.Ytffjonpajjioaaa.xr v w = (p * u.1 - q * v.1) * w.2 - (p * u.2 - q * v.2) * w.1 := by unfold Go.Proofs.Ytffjonpajjioaaa.xr; grind
  rw [h1, h2, Int.sub_self, Int.sub_self, Int.zero_mul, Int.zero_mul] at e
  omega
theorem Dir.two {u u' v : Pt} (h : Dir u v) (k : Dir u' v) : Dir u u' := by
  obtain ⟨p, q, hp, hq, h1, h2⟩ := h
  obtain ⟨r, s, hr, hs, k1, k2⟩ := k
  refine ⟨s * p, q * r, Int.mul_pos hs hp, Int.mul_pos hq hr, ?_, ?_⟩
  · rw [Int.mul_assoc, h1, Int.mul_assoc, k1]; grind
  · rw [Int.mul_assoc, h2, Int.mul_assoc, k2]; grind

/-- No two edges of a hull have the same direction. -/
theorem edges_dir {K : List Pt} {s0 : Pt} (c : Conv K s0) {k k' : Nat} (hk : k < k') (hk' : k' < K.length) (hd : Dir (ev K k) (ev K k')) : False := by
  have E := c.hull.edgeV k
  have F := c.hull.edgeV k'
  obtain ⟨p, q, hp, hq, hx⟩ := hd.xr
  have e1 : crossP (vtx K k) (vtx K (k + 1)) (vtx K k') = xr (ev K k) (subP (vtx K k') (vtx K k)) := crossP_xr _ _ _
  have e2 : crossP (vtx K k') (vtx K (k' + 1)) (vtx K k) = xr (ev K k') (subP (vtx K k) (vtx K k')) := crossP_xr _ _ _
  have n1 := (E.ok _ (c.vmem k')).nonneg
  have n2 := (F.ok _ (c.vmem k)).nonneg
  have n3 : 0 ≤ xr (ev K k) (subP (vtx K k) (vtx K k')) := nonneg_of_mul hp (hx _) (Int.mul_nonneg (by omega) (by rw [← e2]; exact n2))
  have e3 : xr (ev K k) (subP (vtx K k) (vtx K k')) = - xr (ev K k) (subP (vtx K k') (vtx K k)) := by unfold xr subP; grind
  have on : onP (vtx K k) (vtx K (k + 1)) (vtx K k') = true := (E.ok _ (c.vmem k')).resolve_left (by omega)
  rcases hedge_between E F on with g | g
  · rw [vtx_lt hk', vtx_lt (by omega)] at g
    have := hull_inj c.hull hk' (by omega) g
    omega
  · rw [vtx_lt hk', vtx_lt (by omega)] at g
    have := hull_inj c.hull hk' (by omega) g
    subst this
    have t := c.turn k
    have h := hx (ev K (k + 1))
    have z : xr (ev K (k + 1)) (ev K (k + 1)) = 0 := by unfold xr; grind
    rw [z, Int.mul_zero] at h
    have := (Int.mul_eq_zero.1 h).resolve_left (by omega)
    omega

/-- A step that goes on along the first one. -/
def goesA (a b : List Pt) (k : Nat) : Prop := 0 ≤ xr (ev a (mst a b k).1) (ev b (mst a b k).2)
theorem mst_A {a b : List Pt} {k : Nat} (h : goesA a b k) : (mst a b (k + 1)).1 = (mst a b k).1 + 1 := by
  unfold goesA at h
  show (mstep a b (mst a b k)).1 = _
  unfold mstep
  by_cases g : 0 < xr (ev a (mst a b k).1) (ev b (mst a b k).2)
  · rw [if_pos g]
  · rw [if_neg g, if_neg (by omega)]
theorem mst_notA {a b : List Pt} {k : Nat} (h : ¬ goesA a b k) : mst a b (k + 1) = ((mst a b k).1, (mst a b k).2 + 1) := by
  unfold goesA at h
  show mstep a b (mst a b k) = _
  unfold mstep
  rw [if_neg (by omega), if_pos (by omega)]

theorem passed {a b : List Pt} (v : Nat) : ∀ k, v < (mst a b k).1 → ∃ k', k' < k ∧ (mst a b k').1 = v ∧ goesA a b k'
  | 0, h => by have h' : v < 0 := h; omega
  | k + 1, h => by
    by_cases g : goesA a b k
    · rw [mst_A g] at h
      by_cases e : (mst a b k).1 = v
      · exact ⟨k, by omega, e, g⟩
      · obtain ⟨k', h1, h2⟩ := passed (a := a) (b := b) v k (by omega)
        exact ⟨k', by omega, h2⟩
    · rw [mst_notA g] at h
      obtain ⟨k', h1, h2⟩ := passed (a := a) (b := b) v k h
      exact ⟨k', by omega, h2⟩

theorem dir_A {a b K : List Pt} {a0 b0 : Pt} (ca : Conv a a0) (cb : Conv b b0) (h : Hull (sums a b) K (sumP a0 b0)) {k : Nat} (g : goesA a b k) : Dir (ev K k) (ev a (mst a b k).1) := by
  obtain ⟨d, sw⟩ := sweep_at ca cb k
  have e1 := merge_hull ca cb h k
  have e2 := merge_hull ca cb h (k + 1)
  have nA := sw.nextA
  have nB := sw.nextB
  unfold goesA at g
  have hev : ev K k = subP (mpt a b (k + 1)) (mpt a b k) := by unfold ev; rw [← e1, ← e2]
  have e3 : mpt a b (k + 1) = sumP (vtx a (mstep a b (mst a b k)).1) (vtx b (mstep a b (mst a b k)).2) := rfl
  rw [hev, e3]
  unfold mstep mpt
  by_cases q : 0 < xr (ev a (mst a b k).1) (ev b (mst a b k).2)
  · rw [if_pos q]
    refine ⟨1, 1, by omega, by omega, ?_, ?_⟩
    · unfold ev subP sumP; simp only; omega
    · unfold ev subP sumP; simp only; omega
  · rw [if_neg q, if_neg (by omega)]
    have ho : xr (ev a (mst a b k).1) (ev b (mst a b k).2) = 0 := by omega
    generalize (mst a b k).1 = i at *
    generalize (mst a b k).2 = j at *
    have p1 : xr d (ev a i) * (ev b j).1 = xr d (ev b j) * (ev a i).1 := by
      have : xr d (ev b j) * (ev a i).1 = xr d (ev a i) * (ev b j).1 + xr (ev a i) (ev b j) * d.1 := by unfold xr; grind
      rw [ho, Int.zero_mul, Int.add_zero] at this; exact this.symm
    have p2 : xr d (ev a i) * (ev b j).2 = xr d (ev b j) * (ev a i).2 := by
      have : xr d (ev b j) * (ev a i).2 = xr d (ev a i) * (ev b j).2 + xr (ev a i) (ev b j) * d.2 := by unfold xr; grind
      rw [ho, Int.zero_mul, Int.add_zero] at this; exact this.symm
    refine ⟨xr d (ev a i), xr d (ev a i) + xr d (ev b j), nA, by omega, ?_, ?_⟩
    · have e : (subP (sumP (vtx a (i + 1)) (vtx b (j + 1))) (sumP (vtx a i) (vtx b j))).1 = (ev a i).1 + (ev b j).1 := by unfold ev subP sumP; simp only; omega
      rw [e, Int.mul_add, p1, Int.add_mul]
    · have e : (subP (sumP (vtx a (i + 1)) (vtx b (j + 1))) (sumP (vtx a i) (vtx b j))).2 = (ev a i).2 + (ev b j).2 := by unfold ev subP sumP; simp only; omega
      rw [e, Int.mul_add, p2, Int.add_mul]

theorem once_A {a b K : List Pt} {a0 b0 : Pt} (ca : Conv a a0) (cb : Conv b b0) (h : Hull (sums a b) K (sumP a0 b0)) (cK : Conv K (sumP a0 b0)) {k : Nat} (hk : k ≤ K.length) : (mst a b k).1 ≤ a.length := by
  have three := ca.three
  rcases Nat.lt_or_ge a.length (mst a b k).1 with g | g
  · exfalso
    obtain ⟨k1, l1, v1, g1⟩ := passed (a := a) (b := b) a.length k g
    obtain ⟨k0, l0, v0, g0⟩ := passed (a := a) (b := b) 0 k1 (by omega)
    have d1 := dir_A ca cb h g1
    have d0 := dir_A ca cb h g0
    rw [v1] at d1
    rw [v0] at d0
    have e : ev a a.length = ev a 0 := by
      unfold ev
      have x1 := vtx_add a 1
      have x0 := vtx_add a 0
      rw [Nat.zero_add] at x0
      rw [Nat.add_comm] at x1
      rw [x1, x0]
    rw [e] at d1
    exact edges_dir cK l0 (by omega) (d0.two d1)
  · exact g

theorem mst_swap {a b : List Pt} : ∀ k, mst b a k = ((mst a b k).2, (mst a b k).1)
  | 0 => rfl
  | k + 1 => by
    show mstep b a (mst b a k) = ((mstep a b (mst a b k)).2, (mstep a b (mst a b k)).1)
    rw [mst_swap k]
    unfold mstep
    simp only
    rw [xr_swap (ev b _) (ev a _)]
    generalize xr (ev a (mst a b k).1) (ev b (mst a b k).2) = o
    by_cases g : 0 < o
    · rw [if_neg (by omega), if_pos (by omega), if_pos g]
    · rw [if_neg g]
      by_cases g2 : o < 0
      · rw [if_pos (by omega), if_pos g2]
      · rw [if_neg (by omega), if_neg (by omega), if_neg g2]

theorem hull_swap {a b K : List Pt} {a0 b0 : Pt} (h : Hull (sums a b) K (sumP a0 b0)) : Hull (sums b a) K (sumP b0 a0) := by
  rw [sumP_comm b0 a0]
  exact h.mem fun p => sums_comm b a p

theorem not_zero_A {a b : List Pt} {a0 b0 : Pt} (ca : Conv a a0) (cb : Conv b b0) {L : Nat} (h0 : 0 < L) (hz : (mst a b L).1 = 0) (hb : vtx b (mst a b L).2 = b0) : False := by
  have all : ∀ k, k ≤ L → (mst a b k).1 = 0 → (mst a b k).2 = k ∧ (0 < k → xr (ev a 0) (subP (vtx b k) b0) < 0) := by
    intro k
    induction k with
    | zero => intro _ _; exact ⟨rfl, fun h => by omega⟩
    | succ k ih =>
      intro hk hz
      by_cases g : goesA a b k
      · rw [mst_A g] at hz; omega
      · have e := mst_notA g
        rw [e] at hz ⊢
        have hz' : (mst a b k).1 = 0 := hz
        obtain ⟨h1, h2⟩ := ih (by omega) hz'
        refine ⟨by show (mst a b k).2 + 1 = k + 1; rw [h1], fun _ => ?_⟩
        unfold goesA at g
        rw [hz', h1] at g
        have e2 : xr (ev a 0) (subP (vtx b (k + 1)) b0) = xr (ev a 0) (ev b k) + xr (ev a 0) (subP (vtx b k) b0) := by unfold ev xr subP; grind
        rcases Nat.eq_zero_or_pos k with q | q
        · subst q
          have e3 : subP (vtx b 0) b0 = (0, 0) := by rw [cb.hull.vtx0]; unfold subP; simp
          rw [e3] at e2
          have : xr (ev a 0) (0, 0) = 0 := by unfold xr; simp
          omega
        · have := h2 q
          omega
  have down : ∀ k, (mst a b k).1 ≤ (mst a b (k + 1)).1 := fun k => by
    by_cases g : goesA a b k
    · rw [mst_A g]; omega
    · rw [mst_notA g]; exact Nat.le_refl _
  obtain ⟨h1, h2⟩ := all L (Nat.le_refl _) hz
  have := h2 h0
  rw [h1] at hb
  rw [hb] at this
  have e3 : subP b0 b0 = (0, 0) := by unfold subP; simp
  rw [e3] at this
  unfold xr at this
  simp at this

theorem vtx_first {a : List Pt} {a0 : Pt} (c : Conv a a0) {i : Nat} (h : vtx a i = a0) : i % a.length = 0 := by
  have three := c.three
  have e : gt a (i % a.length) = gt a 0 := by rw [c.hull.first]; exact h
  exact hull_inj c.hull (Nat.mod_lt _ (by omega)) (by omega) e

/-- THE MERGE ENDS WHERE THE HULL OF ALL SUMS ENDS. -/
theorem merge_end {a b K : List Pt} {a0 b0 : Pt} (ca : Conv a a0) (cb : Conv b b0) (h : Hull (sums a b) K (sumP a0 b0)) (cK : Conv K (sumP a0 b0)) :
    mst a b K.length = (a.length, b.length) ∧ (∀ k, k ≤ K.length → (mst a b k).1 ≤ a.length ∧ (mst a b k).2 ≤ b.length) ∧ ∀ k, k < K.length → (mst a b k).1 < a.length ∨ (mst a b k).2 < b.length := by
  have t1 := ca.three
  have t2 := cb.three
  have t3 := cK.three
  have le : ∀ k, k ≤ K.length → (mst a b k).1 ≤ a.length ∧ (mst a b k).2 ≤ b.length := fun k hk => by
    refine ⟨once_A ca cb h cK hk, ?_⟩
    have cK' : Conv K (sumP b0 a0) := by rw [sumP_comm]; exact cK
    have := once_A cb ca (hull_swap h) cK' hk
    rwa [mst_swap] at this
  have pt : ∀ k, mpt a b k = sumP a0 b0 → (mst a b k).1 % a.length = 0 ∧ (mst a b k).2 % b.length = 0 ∧ vtx a (mst a b k).1 = a0 ∧ vtx b (mst a b k).2 = b0 := fun k e => by
    obtain ⟨e1, e2⟩ := sumP_first ca cb (ca.vmem _) (cb.vmem _) e
    exact ⟨vtx_first ca e1, vtx_first cb e2, e1, e2⟩
  have eL : mpt a b K.length = sumP a0 b0 := by
    rw [merge_hull ca cb h]
    have := vtx_add K 0
    rw [Nat.zero_add] at this
    rw [this, h.vtx0]
  obtain ⟨m1, m2, v1, v2⟩ := pt _ eL
  obtain ⟨l1, l2⟩ := le K.length (Nat.le_refl _)
  have z : ∀ i n : Nat, i ≤ n → i % n = 0 → i ≠ 0 → i = n := fun i n hi hm h0 => by
    rcases Nat.lt_or_eq_of_le hi with g | g
    · rw [Nat.mod_eq_of_lt g] at hm; omega
    · exact g
  have f1 : (mst a b K.length).1 = a.length := z _ _ l1 m1 fun e => not_zero_A ca cb (by omega) e v2
  have f2 : (mst a b K.length).2 = b.length := z _ _ l2 m2 fun e => not_zero_A cb ca (L := K.length) (by omega) (by rw [mst_swap]; exact e) (by rw [mst_swap]; exact v1)
  refine ⟨Prod.ext f1 f2, le, fun k hk => ?_⟩
  obtain ⟨q1, q2⟩ := le k (by omega)
  rcases Nat.lt_or_ge (mst a b k).1 a.length with g | g
  · exact .inl g
  · rcases Nat.lt_or_ge (mst a b k).2 b.length with g2 | g2
    · exact .inr g2
    · exfalso
      have e1 : (mst a b k).1 = a.length := by omega
      have e2 : (mst a b k).2 = b.length := by omega
      rcases Nat.eq_zero_or_pos k with q | q
      · subst q
        have : (0 : Nat) = a.length := e1
        omega
      · apply h.once k q hk
        have w := merge_hull ca cb h k
        rw [vtx_lt hk] at w
        rw [← w]
        unfold mpt
        have x0 := vtx_add a 0
        have y0 := vtx_add b 0
        rw [Nat.zero_add] at x0 y0
        rw [e1, e2, x0, y0, ca.hull.vtx0, cb.hull.vtx0]

end Go.Proofs.Ytffjonpajjioaaa

/- Shape: sums of convex polygons are convex polygons. -/
namespace Go.Proofs.Ytffjonpajjioaaa

theorem leP_leB_trans (a b c : Pt) (h : leB a b = true) (k : leB b c = true) : leB a c = true := leB_iff.2 (leP_trans (leB_iff.1 h) (leB_iff.1 k))
theorem leB_total (a b : Pt) : (leB a b || leB b a) = true := by
  rw [Bool.or_eq_true, leB_iff, leB_iff]
  rcases leP_total a b with h | h
  · exact .inl h
  · exact .inr (.inr h)
theorem sort_of (l : List Pt) : ∃ s : List Pt, s.Perm l ∧ s.Pairwise leP :=
  ⟨l.mergeSort leB, List.mergeSort_perm l leB, (List.pairwise_mergeSort leP_leB_trans leB_total l).imp fun h => leB_iff.1 h⟩

/-- Points that do not lie on one line have a hull. -/
theorem hull_exists {P : List Pt} {k0 a b c : Pt} (hlow : ∀ p ∈ P, leP k0 p) (hk : k0 ∈ P) (ha : a ∈ P) (hb : b ∈ P) (hc : c ∈ P) (hn : crossP a b c ≠ 0) : ∃ K, Hull P K k0 ∧ Conv K k0 := by
  obtain ⟨s, hp, hs⟩ := sort_of P
  have hl : 0 < P.length := List.length_pos_of_mem ha
  obtain ⟨h1, h2⟩ := hull_both hl hp hs
  have hf : flatTo P P.length = false := by
    cases e : flatTo P P.length
    · rfl
    · exact absurd (((flatTo_iff hl).1 e).all ha hb hc) hn
  have h := h2 hf
  have e : lowTo P P.length = k0 := leP_anti (low_le hk) (hlow _ (lowTo_mem hl _ (Nat.le_refl _)))
  rw [e] at h
  refine ⟨hullL s, h, hull_self h, ?_, fun p hp => hlow p (hull_sub h hp)⟩
  rcases Nat.lt_or_ge (hullL s).length 3 with g | g
  · rw [h1.2 g] at hf; cases hf
  · exact g

theorem conv_sums {a b : List Pt} {a0 b0 : Pt} (ca : Conv a a0) (cb : Conv b b0) : ∃ K, Hull (sums a b) K (sumP a0 b0) ∧ Conv K (sumP a0 b0) := by
  have m0 := cb.vmem 0
  have e0 : a0 ∈ a := by have := ca.vmem 0; rwa [ca.hull.vtx0] at this
  have f0 : b0 ∈ b := by rwa [cb.hull.vtx0] at m0
  refine hull_exists (sumP_low ca cb) (mem_sums.2 ⟨_, e0, _, f0, rfl⟩) (mem_sums.2 ⟨_, ca.vmem 0, _, f0, rfl⟩) (mem_sums.2 ⟨_, ca.vmem 1, _, f0, rfl⟩) (mem_sums.2 ⟨_, ca.vmem 2, _, f0, rfl⟩) ?_
  have t := ca.turn 0
  have e : crossP (sumP (vtx a 0) b0) (sumP (vtx a 1) b0) (sumP (vtx a 2) b0) = xr (ev a 0) (ev a (0 + 1)) := by unfold crossP cross ev xr subP sumP; simp only; grind
  omega

/-- The merge, as a list. -/
def merged (a b : List Pt) (L : Nat) : List Pt := (List.range L).map (mpt a b)
theorem merged_hull {a b K : List Pt} {a0 b0 : Pt} (ca : Conv a a0) (cb : Conv b b0) (h : Hull (sums a b) K (sumP a0 b0)) : merged a b K.length = K := by
  refine List.ext_getElem (by simp [merged]) fun i h1 h2 => ?_
  simp only [merged, List.getElem_map, List.getElem_range]
  rw [merge_hull ca cb h, vtx_lt h2, gt_of (List.getElem?_eq_getElem h2)]

/-- A convex polygon in normal form, as the reference finds it, is one here. -/
theorem sums_assoc (a b c : List Pt) (p : Pt) : p ∈ sums (sums a b) c ↔ p ∈ sums a (sums b c) := by
  simp only [mem_sums]
  constructor
  · rintro ⟨x, ⟨u, hu, v, hv, rfl⟩, y, hy, rfl⟩
    refine ⟨u, hu, sumP v y, ⟨v, hv, y, hy, rfl⟩, ?_⟩
    unfold sumP; simp only [Prod.mk.injEq]; omega
  · rintro ⟨x, hx, y, ⟨u, hu, v, hv, rfl⟩, rfl⟩
    refine ⟨sumP x u, ⟨x, hx, u, hu, rfl⟩, v, hv, ?_⟩
    unfold sumP; simp only [Prod.mk.injEq]; omega

end Go.Proofs.Ytffjonpajjioaaa

/- Shape: a polygon added to itself; negatives. -/
namespace Go.Proofs.Ytffjonpajjioaaa

theorem xr_self (u : Pt) : xr u u = 0 := by unfold xr; grind
theorem mst_self (a : List Pt) : ∀ k, mst a a k = (k, k)
  | 0 => rfl
  | k + 1 => by
    show mstep a a (mst a a k) = _
    rw [mst_self a k]
    unfold mstep
    simp only [xr_self]
    rfl
def dbl (p : Pt) : Pt := sumP p p
theorem sum_self {a K : List Pt} {a0 : Pt} (ca : Conv a a0) (h : Hull (sums a a) K (sumP a0 a0)) (cK : Conv K (sumP a0 a0)) : K = a.map dbl := by
  have e := (merge_end ca ca h cK).1
  rw [mst_self] at e
  have hl : K.length = a.length := (Prod.mk.inj e).1
  rw [← merged_hull ca ca h, hl]
  refine List.ext_getElem (by simp [merged]) fun i h1 h2 => ?_
  have hi : i < a.length := by simpa using h2
  simp only [merged, List.getElem_map, List.getElem_range]
  unfold mpt
  rw [mst_self]
  simp only
  rw [vtx_lt hi, gt_of (List.getElem?_eq_getElem hi)]
  rfl

theorem getD_dbl (l : List Pt) (i : Nat) : (l.map dbl).getD i (0, 0) = dbl (l.getD i (0, 0)) := by
  rw [List.getD_eq_getElem?_getD, List.getD_eq_getElem?_getD, List.getElem?_map]
  cases l[i]? <;> rfl
theorem area2_dbl (l : List Pt) : area2 (l.map dbl) = 4 * area2 l := by
  have key : ∀ k, area2To (l.map dbl) k = 4 * area2To l k := by
    intro k
    induction k with
    | zero => rfl
    | succ k ih =>
      unfold area2To nx
      rw [ih, List.length_map, getD_dbl, getD_dbl]
      generalize l.getD k (0, 0) = p
      generalize l.getD ((k + 1) % l.length) (0, 0) = q
      unfold dbl sumP
      simp only
      grind
  unfold area2
  rw [List.length_map]
  exact key _

/-- The hull of the negatives of a convex polygon's negatives is the polygon. -/
theorem Hedge.neg {P : List Pt} {a b : Pt} (h : Hedge P a b) : Hedge (P.map negP) (negP a) (negP b) :=
  ⟨fun e => h.ne (negP_inj e), fun p hp => by
    obtain ⟨q, hq, rfl⟩ := List.mem_map.1 hp
    exact LeftOn_neg.2 (h.ok q hq), List.mem_map.2 ⟨_, h.fst, rfl⟩, List.mem_map.2 ⟨_, h.snd, rfl⟩⟩
theorem neg_neg_mem (P : List Pt) (p : Pt) : p ∈ (P.map negP).map negP ↔ p ∈ P := by
  rw [List.map_map]
  simp only [List.mem_map, Function.comp]
  constructor
  · rintro ⟨q, hq, rfl⟩; rwa [negP_negP]
  · intro h; exact ⟨p, h, negP_negP p⟩
/-- The corners of a hull of negatives: all negatives of the corners. -/
theorem hull_neg_mem {P K : List Pt} {a0 k0 : Pt} (ca : Conv P a0) (h : Hull (P.map negP) K k0) (p : Pt) : p ∈ K ↔ p ∈ P.map negP := by
  have two := h.two
  constructor
  · exact hull_sub h
  · intro hp
    -- from k0 on, the corners of K run through the negatives in their order
    have hk : k0 ∈ P.map negP := by
      have := (h.edge 0 (by omega)).fst
      rwa [h.first] at this
    obtain ⟨q0, hq0, e0⟩ := List.mem_map.1 hk
    obtain ⟨t, ht, et⟩ := List.getElem_of_mem hq0
    have step : ∀ k, vtx K k = negP (vtx P (t + k)) := by
      intro k
      induction k with
      | zero => rw [h.vtx0, Nat.add_zero, vtx_lt ht, gt_of (List.getElem?_eq_getElem ht), et, e0]
      | succ k ih =>
        have e1 := h.edgeV k
        have e2 := (ca.hull.edgeV (t + k)).neg
        rw [ih] at e1
        exact hedge_next e1 e2
    obtain ⟨q, hq, rfl⟩ := List.mem_map.1 hp
    obtain ⟨i, hi, rfl⟩ := List.getElem_of_mem hq
    have s := step (i + (P.length - t))
    rw [show t + (i + (P.length - t)) = i + P.length by omega, vtx_add, vtx_lt hi, gt_of (List.getElem?_eq_getElem hi)] at s
    rw [← s]
    exact vtx_mem (by omega) _

end Go.Proofs.Ytffjonpajjioaaa

/- Shape: what Sum and Negative find, as plain lists: bounds, the order of three, negatives. -/
namespace Go.Proofs.Ytffjonpajjioaaa

theorem conv_of {P K : List Pt} {k0 : Pt} (h : Hull P K k0) (hlow : ∀ p ∈ P, leP k0 p) (h3 : 3 ≤ K.length) : Conv K k0 :=
  ⟨hull_self h, h3, fun p hp => hlow p (hull_sub h hp)⟩

theorem mst_len (a b : List Pt) : ∀ k, k ≤ (mst a b k).1 + (mst a b k).2
  | 0 => Nat.zero_le _
  | k + 1 => by
    have ih := mst_len a b k
    show k + 1 ≤ (mstep a b (mst a b k)).1 + (mstep a b (mst a b k)).2
    unfold mstep
    split
    · simp only; omega
    · split <;> simp only <;> omega
theorem sum_len {a b K : List Pt} {a0 b0 : Pt} (ca : Conv a a0) (cb : Conv b b0) (h : Hull (sums a b) K (sumP a0 b0)) (cK : Conv K (sumP a0 b0)) : K.length ≤ a.length + b.length := by
  have h1 := mst_len a b K.length
  rw [(merge_end ca cb h cK).1] at h1
  exact h1

/-- The least of a list. -/
theorem min_of (f : Pt → Int) : ∀ (l : List Pt), l ≠ [] → ∃ q ∈ l, ∀ p ∈ l, f q ≤ f p
  | [], h => absurd rfl h
  | [x], _ => ⟨x, by simp, by simp⟩
  | x :: y :: l, _ => by
    obtain ⟨q, hq, hm⟩ := min_of f (y :: l) (by simp)
    by_cases g : f x ≤ f q
    · refine ⟨x, by simp, fun p hp => ?_⟩
      rcases List.mem_cons.1 hp with rfl | hp
      · exact Int.le_refl _
      · exact Int.le_trans g (hm p hp)
    · refine ⟨q, by simp only [List.mem_cons] at hq ⊢; exact .inr hq, fun p hp => ?_⟩
      rcases List.mem_cons.1 hp with rfl | hp
      · omega
      · exact hm p hp

/-- In every direction a corner of the hull is the farthest of all points. -/
theorem Conv.support {P K : List Pt} {k0 : Pt} (h : Hull P K k0) (c : Conv K k0) (d : Pt) : ∃ q ∈ K, ∀ p ∈ P, 0 ≤ xr d (subP p q) := by
  have three := c.three
  obtain ⟨q, hq, hm⟩ := min_of (fun p => xr d p) K (by intro e; rw [e] at three; simp at three)
  refine ⟨q, hq, fun p hp => ?_⟩
  obtain ⟨i, hi, rfl⟩ := List.getElem_of_mem hq
  have e : vtx K i = K[i] := by rw [vtx_lt hi, gt_of (List.getElem?_eq_getElem hi)]
  have e2 : vtx K (i + (K.length - 1) + 1) = K[i] := by rw [show i + (K.length - 1) + 1 = i + K.length by omega, vtx_add, e]
  have t := c.turn (i + (K.length - 1))
  have a1 := ((h.edgeV (i + (K.length - 1))).ok p hp).nonneg
  have a2 := ((h.edgeV i).ok p hp).nonneg
  rw [crossP_xr2] at a1
  rw [crossP_xr] at a2
  have b1 := hm _ (c.vmem (i + (K.length - 1)))
  have b2 := hm _ (c.vmem (i + 1))
  have e3 : vtx K (i + (K.length - 1) + 1 + 1) = vtx K (i + 1) := by rw [show i + (K.length - 1) + 1 + 1 = i + 1 + K.length by omega, vtx_add]
  unfold ev at t
  rw [e3, e2] at t
  rw [e2] at a1
  rw [e] at a2
  generalize vtx K (i + (K.length - 1)) = r at *
  generalize vtx K (i + 1) = s at *
  generalize K[i] = q at *
  have b1' : xr d q ≤ xr d r := b1
  have b2' : xr d q ≤ xr d s := b2
  have id : xr (subP q r) (subP s q) * xr d (subP p q) = xr d (subP s q) * xr (subP q r) (subP p q) + (- xr d (subP q r)) * xr (subP s q) (subP p q) := by unfold xr subP; grind
  have c1 : 0 ≤ xr d (subP s q) := by rw [subP_add]; omega
  have c2 : 0 ≤ - xr d (subP q r) := by rw [subP_add]; omega
  refine nonneg_of_mul t id ?_
  have := Int.mul_nonneg c1 a1
  have := Int.mul_nonneg c2 a2
  omega

/-- The corners of a sum's hull are sums of corners. -/
theorem corner_sum {P K c Y : List Pt} {k0 y0 : Pt} (h : Hull P K k0) (cK : Conv K k0) (hY : Hull (sums P c) Y y0) (cY : Conv Y y0) (i : Nat) : vtx Y i ∈ sums K c := by
  have three := cY.three
  have E1 := hY.edgeV (i + (Y.length - 1))
  have E2 := hY.edgeV i
  have t := cY.turn (i + (Y.length - 1))
  have e2 : vtx Y (i + (Y.length - 1) + 1) = vtx Y i := by rw [show i + (Y.length - 1) + 1 = i + Y.length by omega, vtx_add]
  have e3 : vtx Y (i + (Y.length - 1) + 1 + 1) = vtx Y (i + 1) := by rw [show i + (Y.length - 1) + 1 + 1 = i + 1 + Y.length by omega, vtx_add]
  unfold ev at t
  rw [e3, e2] at t
  rw [e2] at E1
  generalize vtx Y (i + (Y.length - 1)) = r at *
  generalize vtx Y (i + 1) = s at *
  obtain ⟨p, hp, z, hz, e⟩ := mem_sums.1 E2.fst
  generalize vtx Y i = u at *
  obtain ⟨q, hq, hs⟩ := Conv.support h cK (sumP (subP u r) (subP s u))
  have k := hs p hp
  have m : sumP q z ∈ sums P c := mem_sums.2 ⟨q, hull_sub h hq, z, hz, rfl⟩
  have a1 := (E1.ok _ m).nonneg
  have a2 := (E2.ok _ m).nonneg
  rw [crossP_xr2] at a1
  rw [crossP_xr] at a2
  have f : subP (sumP q z) u = subP q p := by rw [e]; unfold subP sumP; simp only [Prod.mk.injEq]; omega
  rw [f] at a1 a2
  have g : xr (sumP (subP u r) (subP s u)) (subP p q) = - xr (subP u r) (subP q p) - xr (subP s u) (subP q p) := by unfold xr sumP subP; grind
  have zero := zero_vec t (v := subP q p) (by omega) (by omega)
  have : q = p := by
    unfold subP at zero
    simp only [Prod.mk.injEq] at zero
    refine Prod.ext ?_ ?_ <;> omega
  rw [e, ← this]
  exact mem_sums.2 ⟨q, hq, z, hz, rfl⟩

theorem hull_corners {P K c Y : List Pt} {k0 y0 : Pt} (h : Hull P K k0) (cK : Conv K k0) (hY : Hull (sums P c) Y y0) (cY : Conv Y y0) : Hull (sums K c) Y y0 := by
  have three := cY.three
  refine ⟨hY.first, hY.two, fun i hi => ?_, hY.once⟩
  have E := hY.edge i hi
  refine ⟨E.ne, fun p hp => E.ok p ?_, ?_, ?_⟩
  · obtain ⟨x, hx, z, hz, rfl⟩ := mem_sums.1 hp
    exact mem_sums.2 ⟨x, hull_sub h hx, z, hz, rfl⟩
  · have := corner_sum h cK hY cY i
    rwa [vtx_lt hi] at this
  · exact corner_sum h cK hY cY (i + 1)

theorem leP_sum {a b x y : Pt} (h1 : leP a x) (h2 : leP b y) : leP (sumP a b) (sumP x y) := by
  rcases h1 with rfl | h1
  · rcases h2 with rfl | h2
    · exact .inl rfl
    · right; unfold ltP sumP at *; simp only at *; omega
  · rcases h2 with rfl | h2
    · right; unfold ltP sumP at *; simp only at *; omega
    · right; unfold ltP sumP at *; simp only at *; omega

/-- The order of three sums plays no part. -/
theorem sum_assoc {a b c K M X W : List Pt} {a0 b0 c0 : Pt} (ca : Conv a a0) (cb : Conv b b0) (cc : Conv c c0)
    (hK : Hull (sums a b) K (sumP a0 b0)) (cK : Conv K (sumP a0 b0)) (hM : Hull (sums b c) M (sumP b0 c0)) (cM : Conv M (sumP b0 c0))
    (hX : Hull (sums K c) X (sumP (sumP a0 b0) c0)) (hW : Hull (sums a M) W (sumP a0 (sumP b0 c0))) : X = W := by
  have e0 : sumP (sumP a0 b0) c0 = sumP a0 (sumP b0 c0) := by unfold sumP; simp only [Prod.mk.injEq]; omega
  have a00 : a0 ∈ a := by have := ca.vmem 0; rwa [ca.hull.vtx0] at this
  have b00 : b0 ∈ b := by have := cb.vmem 0; rwa [cb.hull.vtx0] at this
  have c00 : c0 ∈ c := by have := cc.vmem 0; rwa [cc.hull.vtx0] at this
  have mem3 : ∀ x ∈ a, sumP (sumP x b0) c0 ∈ sums (sums a b) c := fun x hx => mem_sums.2 ⟨_, mem_sums.2 ⟨x, hx, b0, b00, rfl⟩, c0, c00, rfl⟩
  obtain ⟨Y, hY, cY⟩ : ∃ Y, Hull (sums (sums a b) c) Y (sumP (sumP a0 b0) c0) ∧ Conv Y (sumP (sumP a0 b0) c0) := by
    refine hull_exists (fun p hp => ?_) (mem3 a0 a00) (mem3 _ (ca.vmem 0)) (mem3 _ (ca.vmem 1)) (mem3 _ (ca.vmem 2)) ?_
    · obtain ⟨x, hx, z, hz, rfl⟩ := mem_sums.1 hp
      obtain ⟨u, hu, v, hv, rfl⟩ := mem_sums.1 hx
      exact leP_sum (leP_sum (ca.low u hu) (cb.low v hv)) (cc.low z hz)
    · have t := ca.turn 0
      have e : crossP (sumP (sumP (vtx a 0) b0) c0) (sumP (sumP (vtx a 1) b0) c0) (sumP (sumP (vtx a 2) b0) c0) = xr (ev a 0) (ev a (0 + 1)) := by unfold crossP cross ev xr subP sumP; simp only; grind
      omega
  have h1 := hull_unique hX (hull_corners hK cK hY cY)
  have hY2 : Hull (sums (sums b c) a) Y (sumP (sumP a0 b0) c0) := hY.mem fun p => by
    rw [sums_comm (sums b c) a]
    exact (sums_assoc a b c p).symm
  have h2 := hull_corners hM cM hY2 cY
  rw [e0] at h2
  have h3 : Hull (sums a M) Y (sumP a0 (sumP b0 c0)) := h2.mem fun p => sums_comm a M p
  rw [h1, hull_unique hW h3]

/-- The hull of the negatives, and that of their negatives. -/
theorem neg_conv {a s : List Pt} {a0 : Pt} (ca : Conv a a0) (hp : s.Perm (a.map negP)) (hs : s.Pairwise leP) :
    ∃ k0, Hull (a.map negP) (hullL s) k0 ∧ Conv (hullL s) k0 ∧ (hullL s).length ≤ a.length := by
  have three := ca.three
  have hl : 0 < (a.map negP).length := by rw [List.length_map]; omega
  obtain ⟨h1, h2⟩ := hull_both hl hp hs
  have mem : ∀ i, negP (vtx a i) ∈ a.map negP := fun i => List.mem_map.2 ⟨_, ca.vmem i, rfl⟩
  have hf : flatTo (a.map negP) (a.map negP).length = false := by
    cases e : flatTo (a.map negP) (a.map negP).length
    · rfl
    · exfalso
      have k := ((flatTo_iff hl).1 e).all (mem 0) (mem 1) (mem 2)
      rw [crossP_neg] at k
      have t := ca.turn 0
      have e : crossP (vtx a 0) (vtx a 1) (vtx a 2) = xr (ev a 0) (ev a (0 + 1)) := by unfold crossP cross ev xr subP; simp only; grind
      omega
  have h := h2 hf
  have h3 : 3 ≤ (hullL s).length := by
    rcases Nat.lt_or_ge (hullL s).length 3 with g | g
    · rw [h1.2 g] at hf; cases hf
    · exact g
  refine ⟨_, h, conv_of h (fun p hp => low_le hp) h3, ?_⟩
  have := hull_length h
  rwa [List.length_map] at this

theorem neg_back {a K t : List Pt} {a0 k0 : Pt} (ca : Conv a a0) (hK : Hull (a.map negP) K k0) (hp : t.Perm (K.map negP)) (hs : t.Pairwise leP) : hullL t = a := by
  refine hull_other ca.hull ca.low ca.three (Q := K.map negP) (fun p => ?_) hp hs
  rw [← neg_neg_mem a p]
  simp only [List.mem_map]
  constructor
  · rintro ⟨q, hq, rfl⟩
    obtain ⟨r, hr, rfl⟩ := List.mem_map.1 (hull_sub hK hq)
    exact ⟨_, ⟨r, hr, rfl⟩, rfl⟩
  · rintro ⟨q, ⟨r, hr, rfl⟩, rfl⟩
    exact ⟨negP r, (hull_neg_mem ca hK _).2 (List.mem_map.2 ⟨r, hr, rfl⟩), rfl⟩

end Go.Proofs.Ytffjonpajjioaaa

/- Shape: a point is in the interior of a convex polygon exactly if it is to the left of all edges. -/
namespace Go.Proofs.Ytffjonpajjioaaa

/-- To the left of all edges. -/
def Inner (K : List Pt) (p : Pt) : Prop := ∀ x, 0 < crossP (vtx K x) (vtx K (x + 1)) p

theorem vtx_mod (K : List Pt) (x : Nat) : vtx K (x % K.length) = vtx K x := by unfold vtx; rw [Nat.mod_mod]
theorem vtx_mod1 (K : List Pt) (x : Nat) : vtx K (x % K.length + 1) = vtx K (x + 1) := by unfold vtx; rw [Nat.mod_add_mod]

theorem first_down (f : Nat → Int) (y : Int) (a : Nat) (ha : y < f a) : ∀ n, f (a + n) ≤ y → ∃ m, a ≤ m ∧ m < a + n ∧ y < f m ∧ f (m + 1) ≤ y
  | 0, h => by rw [Nat.add_zero] at h; omega
  | n + 1, h => by
    rcases Int.lt_or_le y (f (a + n)) with g | g
    · exact ⟨a + n, by omega, by omega, g, h⟩
    · obtain ⟨m, m1, m2, m3⟩ := first_down f y a ha n g
      exact ⟨m, m1, by omega, m3⟩
theorem first_up (f : Nat → Int) (y : Int) (a : Nat) (ha : f a ≤ y) : ∀ n, y < f (a + n) → ∃ m, a ≤ m ∧ m < a + n ∧ f m ≤ y ∧ y < f (m + 1)
  | 0, h => by rw [Nat.add_zero] at h; omega
  | n + 1, h => by
    rcases Int.lt_or_le y (f (a + n)) with g | g
    · obtain ⟨m, m1, m2, m3⟩ := first_up f y a ha n g
      exact ⟨m, m1, by omega, m3⟩
    · exact ⟨a + n, by omega, by omega, g, h⟩

theorem left2_iff (K : List Pt) (p : Pt) (i : Nat) : left2At K p i = true ↔
    ((gt K i).2 ≤ p.2 ∧ p.2 < (nx K i).2 ∧ 0 < crossP (gt K i) (nx K i) p) ∨ ((nx K i).2 ≤ p.2 ∧ p.2 < (gt K i).2 ∧ crossP (gt K i) (nx K i) p ≤ 0) := by
  unfold left2At leftB
  rw [show cross (gt K i).1 (gt K i).2 (nx K i).1 (nx K i).2 p.1 p.2 = crossP (gt K i) (nx K i) p from rfl]
  generalize crossP (gt K i) (nx K i) p = c
  generalize (gt K i).2 = u
  generalize (nx K i).2 = v
  by_cases g1 : p.2 < u <;> by_cases g2 : p.2 < v <;> by_cases g3 : u < v <;> by_cases g4 : 0 < c <;> simp [g1, g2, g3, g4] <;> omega

theorem two_down {a b c d : Pt} {y : Int} (h1 : b.2 ≤ y) (h2 : y < a.2) (h3 : d.2 ≤ y) (h4 : y < c.2) (k1 : 0 ≤ crossP a b c) (k2 : 0 ≤ crossP a b d) (k3 : 0 ≤ crossP c d a) (k4 : 0 ≤ crossP c d b) : crossP a b d = 0 := by
  have n1 : 0 ≤ (y - d.2) * crossP a b c := Int.mul_nonneg (by omega) k1
  have n2 : 0 ≤ (c.2 - y) * crossP a b d := Int.mul_nonneg (by omega) k2
  have n3 : 0 ≤ (y - b.2) * crossP c d a := Int.mul_nonneg (by omega) k3
  have n4 : 0 ≤ (a.2 - y) * crossP c d b := Int.mul_nonneg (by omega) k4
  have id : (y - d.2) * crossP a b c + (c.2 - y) * crossP a b d + ((y - b.2) * crossP c d a + (a.2 - y) * crossP c d b) = 0 := by unfold crossP cross; grind
  have z : (c.2 - y) * crossP a b d = 0 := by omega
  exact (Int.mul_eq_zero.1 z).resolve_left (by omega)

/-- Only one edge goes up across a height, and only one goes down. -/
theorem Conv.one_up {K : List Pt} {k0 : Pt} (c : Conv K k0) {y : Int} {i j : Nat} (hi : i < K.length) (hj : j < K.length) (a1 : (gt K i).2 ≤ y) (a2 : y < (nx K i).2) (b1 : (gt K j).2 ≤ y) (b2 : y < (nx K j).2) : i = j := by
  have Ei := c.hull.edge i hi
  have Ej := c.hull.edge j hj
  have z := two_up a1 a2 b1 b2 (Ei.ok _ Ej.fst).nonneg (Ei.ok _ Ej.snd).nonneg (Ej.ok _ Ei.fst).nonneg (Ej.ok _ Ei.snd).nonneg
  have on : onP (gt K i) (nx K i) (gt K j) = true := (Ei.ok _ Ej.fst).resolve_left (by omega)
  rcases hedge_between Ei Ej on with q | q
  · exact (hull_inj c.hull hj hi q).symm
  · rw [q] at b1; omega
theorem Conv.one_down {K : List Pt} {k0 : Pt} (c : Conv K k0) {y : Int} {i j : Nat} (hi : i < K.length) (hj : j < K.length) (a1 : (nx K i).2 ≤ y) (a2 : y < (gt K i).2) (b1 : (nx K j).2 ≤ y) (b2 : y < (gt K j).2) : i = j := by
  have Ei := c.hull.edge i hi
  have Ej := c.hull.edge j hj
  have z := two_down a1 a2 b1 b2 (Ei.ok _ Ej.fst).nonneg (Ei.ok _ Ej.snd).nonneg (Ej.ok _ Ei.fst).nonneg (Ej.ok _ Ei.snd).nonneg
  have on : onP (gt K i) (nx K i) (nx K j) = true := (Ei.ok _ Ej.snd).resolve_left (by omega)
  have E3 : Hedge K (nx K j) (vtx K (j + 1 + 1)) := c.hull.edgeV (j + 1)
  rcases hedge_between Ei E3 on with q | q
  · rw [q] at b1; omega
  · have three := c.three
    have e := hull_inj c.hull (Nat.mod_lt _ (by omega)) (Nat.mod_lt _ (by omega)) (show gt K ((j + 1) % K.length) = gt K ((i + 1) % K.length) from q)
    by_cases g1 : i + 1 = K.length
    · by_cases g2 : j + 1 = K.length
      · omega
      · rw [g1, Nat.mod_self, Nat.mod_eq_of_lt (by omega)] at e; omega
    · by_cases g2 : j + 1 = K.length
      · rw [g2, Nat.mod_self, Nat.mod_eq_of_lt (by omega)] at e; omega
      · rw [Nat.mod_eq_of_lt (by omega), Nat.mod_eq_of_lt (by omega)] at e; omega

theorem inner_off {K : List Pt} {p : Pt} (h : Inner K p) (j : Nat) (hj : j < K.length) : on2At K p j = false := by
  cases e : on2At K p j
  · rfl
  · unfold on2At at e
    have z := onP_cross e
    have k := h j
    rw [vtx_lt hj, ← vtx_nx] at k
    omega

/-- A POINT TO THE LEFT OF ALL EDGES IS IN THE INTERIOR. -/
theorem inner_where {K : List Pt} {k0 p : Pt} (c : Conv K k0) (h : Inner K p) : whereD K p = 1 := by
  have three := c.three
  have pos : ∀ i, i < K.length → 0 < crossP (gt K i) (nx K i) p := fun i hi => by
    have := h i
    rwa [vtx_lt hi, ← vtx_nx] at this
  rw [whereD_off (inner_off h)]
  have up : ∀ i, i < K.length → (left2At K p i = true ↔ (gt K i).2 ≤ p.2 ∧ p.2 < (nx K i).2) := fun i hi => by
    rw [left2_iff]
    have := pos i hi
    omega
  have some_up : ∃ m, m < K.length ∧ left2At K p m = true := by
    obtain ⟨k, hk, htop⟩ := top_of (vtx K) K.length (by omega)
    have topV : ∀ x, leP (vtx K x) (vtx K k) := fun x => by
      have := htop (x % K.length) (Nat.mod_lt _ (by omega))
      rwa [vtx_mod] at this
    have le2 : ∀ {a b : Pt}, leP a b → a.2 ≤ b.2 := fun {a b} h => by
      rcases h with rfl | h
      · exact Int.le_refl _
      · unfold ltP at h; omega
    have corner : ∀ x, 0 < xr (subP (vtx K (x + 1)) (vtx K x)) (subP p (vtx K (x + 1))) ∧ 0 < xr (subP (vtx K (x + 1 + 1)) (vtx K (x + 1))) (subP p (vtx K (x + 1))) ∧ 0 < xr (subP (vtx K (x + 1)) (vtx K x)) (subP (vtx K (x + 1 + 1)) (vtx K (x + 1))) := fun x => by
      refine ⟨?_, ?_, c.turn x⟩
      · have := h x; rwa [crossP_xr2] at this
      · have := h (x + 1); rwa [crossP_xr] at this
    have hhi : p.2 < (vtx K k).2 := by
      apply Classical.byContradiction
      intro hno
      have e1 : vtx K (k + K.length - 1 + 1) = vtx K k := by rw [show k + K.length - 1 + 1 = k + K.length by omega]; exact vtx_add K k
      have e2 : vtx K (k + K.length - 1 + 1 + 1) = vtx K (k + 1) := by rw [show k + K.length - 1 + 1 + 1 = k + 1 + K.length by omega]; exact vtx_add K (k + 1)
      obtain ⟨c1, c2, c3⟩ := corner (k + K.length - 1)
      rw [e1] at c1 c2 c3
      rw [e2] at c2 c3
      have f1 := le2 (topV (k + K.length - 1))
      have f2 := le2 (topV (k + 1))
      unfold xr subP at c1 c2 c3
      simp only at c1 c2 c3
      exact no_top (a2 := (vtx K k).2 - (vtx K (k + K.length - 1)).2) (b2 := (vtx K (k + 1)).2 - (vtx K k).2) (q2 := p.2 - (vtx K k).2) (by omega) (by omega) (by omega) c1 c2 c3
    have h0 : (vtx K 0).2 ≤ p.2 := by
      apply Classical.byContradiction
      intro hno
      have e1 : vtx K (K.length - 1 + 1) = vtx K 0 := by
        have := vtx_add K 0
        rwa [Nat.zero_add, show K.length = K.length - 1 + 1 by omega] at this
      have e2 : vtx K (K.length - 1 + 1 + 1) = vtx K 1 := by
        have := vtx_add K 1
        rwa [show 1 + K.length = K.length - 1 + 1 + 1 by omega] at this
      obtain ⟨c1, c2, c3⟩ := corner (K.length - 1)
      rw [e1] at c1 c2 c3
      rw [e2] at c2 c3
      have v0 : vtx K 0 = k0 := c.hull.vtx0
      have f1 := le2 (c.low _ (c.vmem (K.length - 1)))
      have f2 := le2 (c.low _ (c.vmem 1))
      rw [← v0] at f1 f2
      generalize vtx K (K.length - 1) = r at *
      generalize vtx K 1 = s at *
      generalize vtx K 0 = o at *
      unfold xr subP at c1 c2 c3
      simp only at c1 c2 c3
      refine no_top (a1 := r.1 - o.1) (a2 := r.2 - o.2) (b1 := o.1 - s.1) (b2 := o.2 - s.2) (q1 := o.1 - p.1) (q2 := o.2 - p.2) (by omega) (by omega) (by omega) ?_ ?_ ?_
      · grind
      · grind
      · grind
    obtain ⟨m, m1, m2, m3, m4⟩ := first_up (fun x => (vtx K x).2) p.2 0 h0 k (by simpa using hhi)
    have hm : m < K.length := by omega
    exact ⟨m, hm, (up m hm).2 ⟨by rw [← vtx_lt hm]; exact m3, m4⟩⟩
  obtain ⟨m, hm, em⟩ := some_up
  have all : ∀ i, i < K.length → left2At K p i = decide (i = m) := fun i hi => by
    by_cases e : i = m
    · rw [e, em, decide_eq_true rfl]
    · rw [decide_eq_false e]
      cases q : left2At K p i
      · rfl
      · exact absurd (c.one_up hi hm ((up i hi).1 q).1 ((up i hi).1 q).2 ((up m hm).1 em).1 ((up m hm).1 em).2) e
  rw [side_one all K.length (Nat.le_refl _), if_pos hm]

theorem side_none {l : List Pt} {p : Pt} (h : ∀ i, i < l.length → left2At l p i = false) : ∀ k, k ≤ l.length → sideTo l p k = -1
  | 0, _ => rfl
  | k + 1, hk => by
    unfold sideTo
    rw [h k (by omega), if_neg (by simp), side_none h k (by omega)]
theorem side_two {l : List Pt} {p : Pt} {m n : Nat} (hmn : m ≠ n) (h : ∀ i, i < l.length → left2At l p i = (decide (i = m) || decide (i = n))) : ∀ k, k ≤ l.length → sideTo l p k = if m < k then (if n < k then -1 else 1) else (if n < k then 1 else -1)
  | 0, _ => by rw [if_neg (by omega), if_neg (by omega)]; rfl
  | k + 1, hk => by
    have ih := side_two hmn h k (by omega)
    unfold sideTo
    rw [h k (by omega), ih]
    by_cases e : k = m
    · have e2 : ¬ k = n := by omega
      by_cases g : n < k
      · simp [e, hmn, show ¬ m < m by omega, show n < m by omega, show n < m + 1 by omega]
      · simp [e, hmn, show ¬ m < m by omega, show ¬ n < m by omega, show ¬ n < m + 1 by omega]
    · by_cases e2 : k = n
      · by_cases g : m < k
        · simp [e2, show ¬ n = m by omega, show m < n by omega, show m < n + 1 by omega]
        · simp [e2, show ¬ n = m by omega, show ¬ m < n by omega, show ¬ m < n + 1 by omega]
      · have a1 : (m < k + 1) ↔ m < k := by omega
        have a2 : (n < k + 1) ↔ n < k := by omega
        simp [e, e2, a1, a2]

/-- Between the edge that goes up at its height and the one that goes down: to the left of all, or on one. -/
theorem between_inner {K : List Pt} {k0 p : Pt} (c : Conv K k0) (off : ∀ j, j < K.length → on2At K p j = false) {u d : Nat} (hu : u < K.length) (hd : d < K.length)
    (u1 : (gt K u).2 ≤ p.2) (u2 : p.2 < (nx K u).2) (d1 : (nx K d).2 ≤ p.2) (d2 : p.2 < (gt K d).2) (cu : 0 < crossP (gt K u) (nx K u) p) (cd : 0 < crossP (gt K d) (nx K d) p) : Inner K p := fun x => by
  have three := c.three
  have E := c.hull.edgeV x
  have Eu := c.hull.edge u hu
  have Ed := c.hull.edge d hd
  have offx := off (x % K.length) (Nat.mod_lt _ (by omega))
  unfold on2At at offx
  rw [vtx_nx, ← vtx_lt (Nat.mod_lt _ (by omega)), vtx_mod, vtx_mod1] at offx
  have fa := E.ok _ Eu.fst
  have fb := E.ok _ Eu.snd
  have fc := E.ok _ Ed.fst
  have fd := E.ok _ Ed.snd
  have ne := E.ne
  generalize vtx K x = s at *
  generalize vtx K (x + 1) = t at *
  generalize gt K u = a at *
  generalize nx K u = b at *
  generalize gt K d = e at *
  generalize nx K d = f at *
  have idu : (b.2 - a.2) * crossP s t p = (b.2 - p.2) * crossP s t a + (p.2 - a.2) * crossP s t b + (t.2 - s.2) * crossP a b p := by unfold crossP cross; grind
  have idd : (e.2 - f.2) * crossP s t p = (p.2 - f.2) * crossP s t e + (e.2 - p.2) * crossP s t f + (s.2 - t.2) * crossP e f p := by unfold crossP cross; grind
  have n1 := Int.mul_nonneg (show 0 ≤ b.2 - p.2 by omega) fa.nonneg
  have n2 := Int.mul_nonneg (show 0 ≤ p.2 - a.2 by omega) fb.nonneg
  have n3 := Int.mul_nonneg (show 0 ≤ p.2 - f.2 by omega) fc.nonneg
  have n4 := Int.mul_nonneg (show 0 ≤ e.2 - p.2 by omega) fd.nonneg
  rcases Int.lt_trichotomy s.2 t.2 with g | g | g
  · have := Int.mul_pos (show 0 < t.2 - s.2 by omega) cu
    exact pos_of_mul (show 0 < b.2 - a.2 by omega) idu (by omega)
  · rw [show t.2 - s.2 = 0 by omega, Int.zero_mul] at idu
    rw [show s.2 - t.2 = 0 by omega, Int.zero_mul] at idd
    have ge : 0 ≤ crossP s t p := nonneg_of_mul (show 0 < b.2 - a.2 by omega) idu (by omega)
    rcases Int.lt_or_eq_of_le ge with q | q
    · exact q
    · exfalso
      rw [← q, Int.mul_zero] at idu idd
      have za : crossP s t a = 0 := (Int.mul_eq_zero.1 (show (b.2 - p.2) * crossP s t a = 0 by omega)).resolve_left (by omega)
      have zf : crossP s t f = 0 := (Int.mul_eq_zero.1 (show (e.2 - p.2) * crossP s t f = 0 by omega)).resolve_left (by omega)
      have oa : onP s t a = true := fa.resolve_left (by omega)
      have of' : onP s t f = true := fd.resolve_left (by omega)
      have flat : ∀ z : Pt, crossP s t z = (t.1 - s.1) * (z.2 - s.2) := fun z => by
        unfold crossP cross
        rw [show t.2 - s.2 = 0 by omega, Int.mul_zero, Int.sub_zero]
      have hts : t.1 - s.1 ≠ 0 := fun h => ne (Prod.ext (by omega) g)
      have ya : a.2 = s.2 := by rw [flat] at za; have := (Int.mul_eq_zero.1 za).resolve_left hts; omega
      have yf : f.2 = s.2 := by rw [flat] at zf; have := (Int.mul_eq_zero.1 zf).resolve_left hts; omega
      have yp : p.2 = s.2 := by rw [flat] at q; have := (Int.mul_eq_zero.1 q.symm).resolve_left hts; omega
      have xa : p.1 < a.1 := by
        have e1 : crossP a b p = (a.1 - p.1) * (b.2 - a.2) := by
          unfold crossP cross
          rw [show p.2 - a.2 = 0 by omega, Int.mul_zero]; grind
        rw [e1] at cu
        rcases Int.lt_or_le p.1 a.1 with h | h
        · exact h
        · have := Int.mul_nonpos_of_nonpos_of_nonneg (show a.1 - p.1 ≤ 0 by omega) (show 0 ≤ b.2 - a.2 by omega)
          omega
      have xf : f.1 < p.1 := by
        have e1 : crossP e f p = (p.1 - f.1) * (e.2 - f.2) := by
          have : p.2 = f.2 := by omega
          unfold crossP cross
          rw [this]; grind
        rw [e1] at cd
        rcases Int.lt_or_le f.1 p.1 with h | h
        · exact h
        · have := Int.mul_nonpos_of_nonpos_of_nonneg (show p.1 - f.1 ≤ 0 by omega) (show 0 ≤ e.2 - f.2 by omega)
          omega
      rw [onP_iff] at oa of'
      have hon : onP s t p = true := by
        rw [onP_iff]
        obtain ⟨-, o1, -⟩ := oa
        obtain ⟨-, o2, -⟩ := of'
        refine ⟨?_, ?_, ?_⟩
        · unfold al
          rw [show p.2 - s.2 = 0 by omega, show t.2 - s.2 = 0 by omega]; simp
        · unfold btw at *; omega
        · unfold btw; omega
      rw [hon] at offx; cases offx
  · have := Int.mul_pos (show 0 < s.2 - t.2 by omega) cd
    exact pos_of_mul (show 0 < e.2 - f.2 by omega) idd (by omega)

/-- A POINT IN THE INTERIOR IS TO THE LEFT OF ALL EDGES. -/
theorem where_inner {K : List Pt} {k0 p : Pt} (c : Conv K k0) (h : whereD K p = 1) : Inner K p := by
  have three := c.three
  have off : ∀ j, j < K.length → on2At K p j = false := fun j hj => by
    cases e : on2At K p j
    · rfl
    · rw [whereD_on hj e] at h; cases h
  rw [whereD_off off] at h
  by_cases hU : ∃ u, u < K.length ∧ (gt K u).2 ≤ p.2 ∧ p.2 < (nx K u).2
  · obtain ⟨u, hu, u1, u2⟩ := hU
    obtain ⟨d, hd, d1, d2⟩ : ∃ d, d < K.length ∧ (nx K d).2 ≤ p.2 ∧ p.2 < (gt K d).2 := by
      obtain ⟨m, -, -, m3, m4⟩ := first_down (fun x => (vtx K x).2) p.2 (u + 1) u2 (K.length - 1) (by
        show (vtx K (u + 1 + (K.length - 1))).2 ≤ p.2
        rw [show u + 1 + (K.length - 1) = u + K.length by omega, vtx_add, vtx_lt hu]; exact u1)
      refine ⟨m % K.length, Nat.mod_lt _ (by omega), ?_, ?_⟩
      · rw [vtx_nx, vtx_mod1]; exact m4
      · rw [← vtx_lt (Nat.mod_lt _ (by omega)), vtx_mod]; exact m3
    have hud : u ≠ d := by intro e; subst e; omega
    have only : ∀ i, i < K.length → left2At K p i = true → i = u ∨ i = d := fun i hi e => by
      rcases (left2_iff K p i).1 e with ⟨a, b, _⟩ | ⟨a, b, _⟩
      · exact .inl (c.one_up hi hu a b u1 u2)
      · exact .inr (c.one_down hi hd a b d1 d2)
    by_cases cu : 0 < crossP (gt K u) (nx K u) p
    · by_cases cd : 0 < crossP (gt K d) (nx K d) p
      · exact between_inner c off hu hd u1 u2 d1 d2 cu cd
      · exfalso
        have all : ∀ i, i < K.length → left2At K p i = (decide (i = u) || decide (i = d)) := fun i hi => by
          by_cases e1 : i = u
          · subst e1; rw [(left2_iff K p i).2 (.inl ⟨u1, u2, cu⟩)]; simp
          · by_cases e2 : i = d
            · subst e2; rw [(left2_iff K p i).2 (.inr ⟨d1, d2, by omega⟩)]; simp
            · cases e : left2At K p i
              · simp [e1, e2]
              · rcases only i hi e with q | q
                · exact absurd q e1
                · exact absurd q e2
        rw [side_two hud all K.length (Nat.le_refl _), if_pos hu, if_pos hd] at h
        cases h
    · by_cases cd : 0 < crossP (gt K d) (nx K d) p
      · exfalso
        have all : ∀ i, i < K.length → left2At K p i = false := fun i hi => by
          cases e : left2At K p i
          · rfl
          · rcases only i hi e with q | q
            · subst q
              rcases (left2_iff K p i).1 e with ⟨_, _, x⟩ | ⟨x, y, _⟩
              · exact absurd x cu
              · omega
            · subst q
              rcases (left2_iff K p i).1 e with ⟨x, y, _⟩ | ⟨_, _, x⟩
              · omega
              · omega
        rw [side_none all K.length (Nat.le_refl _)] at h
        cases h
      · exfalso
        -- to the right of the edge that goes up, to the left of the one that goes down: on the first
        have Eu := c.hull.edge u hu
        have Ed := c.hull.edge d hd
        have k1 := (Eu.ok _ Ed.fst).nonneg
        have k2 := (Eu.ok _ Ed.snd).nonneg
        have o := off u hu
        unfold on2At at o
        generalize gt K u = a at *
        generalize nx K u = b at *
        generalize gt K d = e at *
        generalize nx K d = f at *
        have id : (e.2 - f.2) * crossP a b p = (p.2 - f.2) * crossP a b e + (e.2 - p.2) * crossP a b f + (b.2 - a.2) * (- crossP e f p) := by unfold crossP cross; grind
        have n1 := Int.mul_nonneg (show 0 ≤ p.2 - f.2 by omega) k1
        have n2 := Int.mul_nonneg (show 0 ≤ e.2 - p.2 by omega) k2
        have n3 := Int.mul_nonneg (show 0 ≤ b.2 - a.2 by omega) (show 0 ≤ - crossP e f p by omega)
        have ge : 0 ≤ crossP a b p := nonneg_of_mul (show 0 < e.2 - f.2 by omega) id (by omega)
        have z : crossP a b p = 0 := by omega
        have hon : onP a b p = true := by
          rcases Int.lt_or_eq_of_le u1 with g | g
          · exact on_of_between z (.inr (.inl g)) (.inr (.inl u2))
          · have e1 : crossP a b p = (a.1 - p.1) * (b.2 - a.2) := by
              unfold crossP cross
              rw [show p.2 - a.2 = 0 by omega, Int.mul_zero]; grind
            rw [z] at e1
            have := (Int.mul_eq_zero.1 e1.symm).resolve_right (by omega)
            exact on_of_between z (.inl (Prod.ext (by omega) g)) (.inr (.inl u2))
        rw [hon] at o; cases o
  · exfalso
    have noU : ∀ i, i < K.length → ¬ ((gt K i).2 ≤ p.2 ∧ p.2 < (nx K i).2) := fun i hi q => hU ⟨i, hi, q⟩
    have all : ∀ i, i < K.length → left2At K p i = false := fun i hi => by
      cases e : left2At K p i
      · rfl
      · exfalso
        rcases (left2_iff K p i).1 e with ⟨a, b, _⟩ | ⟨a, b, _⟩
        · exact noU i hi ⟨a, b⟩
        · -- what goes down goes up again
          obtain ⟨m, -, -, m3, m4⟩ := first_up (fun x => (vtx K x).2) p.2 (i + 1) a (K.length - 1) (by
            show p.2 < (vtx K (i + 1 + (K.length - 1))).2
            rw [show i + 1 + (K.length - 1) = i + K.length by omega, vtx_add, vtx_lt hi]; exact b)
          refine noU (m % K.length) (Nat.mod_lt _ (by omega)) ⟨?_, ?_⟩
          · rw [← vtx_lt (Nat.mod_lt _ (by omega)), vtx_mod]; exact m3
          · rw [vtx_nx, vtx_mod1]; exact m4
    rw [side_none all K.length (Nat.le_refl _)] at h
    cases h

end Go.Proofs.Ytffjonpajjioaaa

/- Shape: convex polygons overlap exactly if the vector is in the interior of the sum of the one and the other's negative. -/
namespace Go.Proofs.Ytffjonpajjioaaa

theorem Dir.pos {u v w : Pt} (h : Dir u v) : 0 < Go.Proofs.Ytffjonpajjioaaa.xr u w ↔ 0 < Go.Proofs.Ytffjonpajjioaaa.xr v w := by
  obtain ⟨p, q, hp, hq, e⟩ := h.xr
  have e := e w
  constructor
  · intro k; exact pos_of_mul hq e.symm (Int.mul_pos hp k)
  · intro k; exact pos_of_mul hp e (Int.mul_pos hq k)

theorem mpt_cross {a b : List Pt} (k : Nat) (v : Pt) (K : List Pt) {a0 b0 : Pt} (ca : Conv a a0) (cb : Conv b b0) (h : Hull (sums a b) K (sumP a0 b0)) :
    crossP (vtx K k) (vtx K (k + 1)) v = xr (ev K k) (subP v (sumP (vtx a (mst a b k).1) (vtx b (mst a b k).2))) := by
  rw [crossP_xr, ← merge_hull ca cb h k]
  unfold ev
  rw [← merge_hull ca cb h k]
  rfl

/-- The corners of the negatives' hull, one after the other. -/
theorem neg_steps {P K : List Pt} {a0 k0 : Pt} (ca : Conv P a0) (h : Hull (P.map negP) K k0) : ∃ t, ∀ k, vtx K k = negP (vtx P (t + k)) := by
  have two := h.two
  have hk : k0 ∈ P.map negP := by
    have := (h.edge 0 (by omega)).fst
    rwa [h.first] at this
  obtain ⟨q0, hq0, e0⟩ := List.mem_map.1 hk
  obtain ⟨t, ht, et⟩ := List.getElem_of_mem hq0
  refine ⟨t, fun k => ?_⟩
  induction k with
  | zero => rw [h.vtx0, Nat.add_zero, vtx_lt ht, gt_of (List.getElem?_eq_getElem ht), et, e0]
  | succ k ih =>
    have e1 := h.edgeV k
    have e2 := (ca.hull.edgeV (t + k)).neg
    rw [ih] at e1
    exact hedge_next e1 e2

/-- Does one polygon lie beyond an edge of the other? -/
theorem beyond_iff {a r : List Pt} (h : 0 < a.length) : beyondB a r = true ↔ ∃ i, ∀ z ∈ r, crossP (vtx a i) (vtx a (i + 1)) z ≤ 0 := by
  unfold beyondB
  rw [List.any_eq_true]
  constructor
  · rintro ⟨i, hi, e⟩
    have hi := List.mem_range.1 hi
    refine ⟨i, fun z hz => ?_⟩
    unfold beyondAt anyLeft at e
    rw [Bool.not_eq_true', List.any_eq_false] at e
    have := e z hz
    unfold leftQ at this
    rw [vtx_lt hi, ← vtx_nx]
    simpa using this
  · rintro ⟨i, e⟩
    refine ⟨i % a.length, List.mem_range.2 (Nat.mod_lt _ h), ?_⟩
    unfold beyondAt anyLeft
    rw [Bool.not_eq_true', List.any_eq_false]
    intro z hz
    have := e z hz
    rw [← vtx_mod, ← vtx_mod1, vtx_lt (Nat.mod_lt _ h), ← vtx_nx] at this
    unfold leftQ
    simpa using this
theorem beyond_not {a r : List Pt} (h : 0 < a.length) : beyondB a r = false ↔ ∀ i, ∃ z ∈ r, 0 < crossP (vtx a i) (vtx a (i + 1)) z := by
  constructor
  · intro e i
    apply Classical.byContradiction
    intro g
    have : beyondB a r = true := (beyond_iff h).2 ⟨i, fun z hz => by
      rcases Int.lt_or_le 0 (crossP (vtx a i) (vtx a (i + 1)) z) with q | q
      · exact absurd ⟨z, hz, q⟩ g
      · exact q⟩
    rw [e] at this; cases this
  · intro e
    cases q : beyondB a r
    · rfl
    · obtain ⟨i, hi⟩ := (beyond_iff h).1 q
      obtain ⟨z, hz, g⟩ := e i
      have := hi z hz
      omega

theorem vtx_movedL (b : List Pt) (v : Pt) (i : Nat) (h : 0 < b.length) : vtx (movedL b v) i = addP (vtx b i) v := by
  have hm : i % b.length < b.length := Nat.mod_lt _ h
  unfold vtx
  rw [movedL_length]
  unfold gt movedL
  rw [List.getD_eq_getElem?_getD, List.getD_eq_getElem?_getD, List.getElem?_map, List.getElem?_eq_getElem hm]
  rfl

theorem ev_neg (P K : List Pt) (t k m : Nat) (h : ∀ k, vtx K k = negP (vtx P (t + k))) (e : t + k = m) : ev K k = negP (ev P m) := by
  subst e
  unfold ev
  rw [h k, h (k + 1)]
  unfold negP subP
  rw [show t + k + 1 = t + (k + 1) by omega]
  simp only [Prod.mk.injEq]; omega

/-- OVERLAP AND INTERIOR. -/
theorem overlap_inner {a b n K : List Pt} {a0 b0 n0 v : Pt} (ca : Conv a a0) (cb : Conv b b0) (hn : Hull (b.map negP) n n0) (cn : Conv n n0) (h : Hull (sums a n) K (sumP a0 n0)) (cK : Conv K (sumP a0 n0)) :
    apartB a (movedL b v) = false ↔ Inner K v := by
  have la : 0 < a.length := by have := ca.three; omega
  have lb : 0 < b.length := by have := cb.three; omega
  have ln : 0 < n.length := by have := cn.three; omega
  have lm : 0 < (movedL b v).length := by rw [movedL_length]; exact lb
  obtain ⟨t, ht⟩ := neg_steps cb hn
  unfold apartB
  rw [Bool.or_eq_false_iff, beyond_not la, beyond_not lm]
  constructor
  · rintro ⟨h1, h2⟩ k
    rw [mpt_cross k v K ca cn h]
    obtain ⟨d, sw⟩ := sweep_at ca cn k
    by_cases g : goesA a n k
    · rw [(dir_A ca cn h g).pos]
      unfold goesA at g
      generalize (mst a n k).1 = i at *
      generalize (mst a n k).2 = j at *
      obtain ⟨z, hz, q⟩ := h1 i
      obtain ⟨y, hy, rfl⟩ := List.mem_map.1 hz
      have s := sw.side ca cn g ((hull_neg_mem cb hn (negP y)).2 (List.mem_map.2 ⟨y, hy, rfl⟩))
      rw [crossP_xr] at q
      have id : xr (ev a i) (subP v (sumP (vtx a i) (vtx n j))) = xr (subP (vtx a (i + 1)) (vtx a i)) (subP (addP y v) (vtx a i)) + xr (ev a i) (subP (negP y) (vtx n j)) := by unfold ev xr subP sumP addP negP; grind
      omega
    · have g' : goesA n a k := by
        unfold goesA at g ⊢
        rw [mst_swap k]
        simp only
        rw [xr_swap]; omega
      have D := dir_A cn ca (hull_swap h) g'
      rw [mst_swap k] at D
      simp only at D
      rw [D.pos]
      have sw' := sw.swap
      unfold goesA at g
      generalize (mst a n k).1 = i at *
      generalize (mst a n k).2 = j at *
      obtain ⟨x, hx, q⟩ := h2 (t + j)
      rw [vtx_movedL b v _ lb, vtx_movedL b v _ lb, crossP_xr] at q
      have s := sw'.side cn ca (by rw [xr_swap]; omega) hx
      have e1 := ev_neg b n t j (t + j) ht rfl
      have e2 := ht j
      have id : xr (ev n j) (subP v (sumP (vtx a i) (vtx n j))) = xr (subP (addP (vtx b (t + j + 1)) v) (addP (vtx b (t + j)) v)) (subP x (addP (vtx b (t + j)) v)) + xr (ev n j) (subP x (vtx a i)) := by
        rw [e1, e2]
        unfold ev xr subP sumP addP negP; grind
      omega
  · intro hin
    have end' := merge_end ca cn h cK
    refine ⟨fun i => ?_, fun m => ?_⟩
    · obtain ⟨k, -, e, g⟩ := passed (a := a) (b := n) (i % a.length) K.length (by rw [end'.1]; exact Nat.mod_lt _ la)
      have p := hin k
      rw [mpt_cross k v K ca cn h, (dir_A ca cn h g).pos, e] at p
      generalize (mst a n k).2 = j at *
      refine ⟨addP (vtx b (t + j)) v, List.mem_map.2 ⟨_, cb.vmem _, rfl⟩, ?_⟩
      rw [← vtx_mod, ← vtx_mod1, crossP_xr]
      unfold ev at p
      rw [ht j] at p
      generalize vtx a (i % a.length) = x at *
      generalize vtx a (i % a.length + 1) = x' at *
      have id : subP v (sumP x (negP (vtx b (t + j)))) = subP (addP (vtx b (t + j)) v) x := by unfold subP sumP addP negP; simp only [Prod.mk.injEq]; omega
      rwa [id] at p
    · -- the edge of the negatives that this one is
      obtain ⟨j, hj⟩ : ∃ j, ∃ c, t + j = m + b.length * c := by
        refine ⟨m + b.length * t - t, t, ?_⟩
        have : t ≤ b.length * t := Nat.le_mul_of_pos_left t lb
        omega
      obtain ⟨c, hc⟩ := hj
      have vm : ∀ x, vtx b (x + b.length * c) = vtx b x := fun x => by unfold vtx; rw [Nat.add_mul_mod_self_left]
      obtain ⟨k, -, e, g⟩ := passed (a := n) (b := a) (j % n.length) K.length (by
        rw [mst_swap, end'.1]; exact Nat.mod_lt _ ln)
      have p := hin k
      have D := dir_A cn ca (hull_swap h) g
      rw [mpt_cross k v K ca cn h, D.pos, e] at p
      rw [mst_swap] at e
      simp only at e
      rw [e] at p
      generalize (mst a n k).1 = i at *
      refine ⟨vtx a i, ca.vmem i, ?_⟩
      rw [vtx_movedL b v _ lb, vtx_movedL b v _ lb, crossP_xr]
      have q1 : vtx n (j % n.length) = negP (vtx b m) := by rw [vtx_mod, ht j, hc, vm]
      have q2 : vtx n (j % n.length + 1) = negP (vtx b (m + 1)) := by rw [vtx_mod1, ht (j + 1), show t + (j + 1) = m + 1 + b.length * c by omega, vm]
      unfold ev at p
      rw [q1, q2] at p
      generalize vtx b m = y at *
      generalize vtx b (m + 1) = y' at *
      generalize vtx a i = x at *
      have id : xr (subP (addP y' v) (addP y v)) (subP x (addP y v)) = xr (subP (negP y') (negP y)) (subP v (sumP x (negP y))) := by unfold xr subP sumP addP negP; grind
      omega

/-- The other way round, moved back. -/
theorem apart_back {a b : List Pt} {a0 b0 v : Pt} (ca : Conv a a0) (cb : Conv b b0) : apartB b (movedL a (negP v)) = apartB a (movedL b v) := by
  have la : 0 < a.length := by have := ca.three; omega
  have lb : 0 < b.length := by have := cb.three; omega
  have key : ∀ {x y : List Pt} {w : Pt}, 0 < x.length → 0 < y.length → beyondB x (movedL y w) = beyondB (movedL x (negP w)) y := fun {x y w} lx ly => by
    rw [Bool.eq_iff_iff, beyond_iff lx, beyond_iff (by rw [movedL_length]; exact lx)]
    have id : ∀ i z, crossP (vtx (movedL x (negP w)) i) (vtx (movedL x (negP w)) (i + 1)) z = crossP (vtx x i) (vtx x (i + 1)) (addP z w) := fun i z => by
      rw [vtx_movedL x _ _ lx, vtx_movedL x _ _ lx]
      unfold crossP cross addP negP; grind
    constructor
    · rintro ⟨i, hi⟩
      exact ⟨i, fun z hz => by rw [id]; exact hi _ (List.mem_map.2 ⟨z, hz, rfl⟩)⟩
    · rintro ⟨i, hi⟩
      refine ⟨i, fun z hz => ?_⟩
      obtain ⟨u, hu, rfl⟩ := List.mem_map.1 hz
      rw [← id]; exact hi u hu
  unfold apartB
  rw [key la lb, Bool.or_comm]
  congr 1
  have := key (x := b) (y := a) (w := negP v) lb la
  rw [this, negP_negP]

end Go.Proofs.Ytffjonpajjioaaa

/- Boxes about points. -/
namespace Go.Proofs.Ytffjonpajjioaaa

/-- The box of the first k points. -/
def boxTo (l : List Pt) : Nat → Pt × Pt
  | 0 => (gt l 0, gt l 0)
  | k + 1 => ((mn (boxTo l k).1.1 (gt l k).1, mn (boxTo l k).1.2 (gt l k).2), (mx (boxTo l k).2.1 (gt l k).1, mx (boxTo l k).2.2 (gt l k).2))
def lowL (l : List Pt) : Pt := (boxTo l l.length).1
def highL (l : List Pt) : Pt := (boxTo l l.length).2

theorem boxTo_in (l : List Pt) : ∀ k i, i < k → ((boxTo l k).1.1 ≤ (gt l i).1 ∧ (gt l i).1 ≤ (boxTo l k).2.1) ∧ ((boxTo l k).1.2 ≤ (gt l i).2 ∧ (gt l i).2 ≤ (boxTo l k).2.2)
  | 0, i, h => absurd h (Nat.not_lt_zero _)
  | k + 1, i, h => by
    simp only [boxTo, mn, mx]
    rcases Nat.lt_or_eq_of_le (Nat.le_of_lt_succ h) with h' | rfl
    · have := boxTo_in l k i h'
      constructor <;> constructor <;> split <;> omega
    · constructor <;> constructor <;> split <;> omega
theorem boxTo_bd {L : Int} {l : List Pt} (hl : ∀ i, (-L ≤ (gt l i).1 ∧ (gt l i).1 ≤ L) ∧ (-L ≤ (gt l i).2 ∧ (gt l i).2 ≤ L)) : ∀ k, ((-L ≤ (boxTo l k).1.1 ∧ (boxTo l k).1.1 ≤ L) ∧ (-L ≤ (boxTo l k).1.2 ∧ (boxTo l k).1.2 ≤ L)) ∧
    ((-L ≤ (boxTo l k).2.1 ∧ (boxTo l k).2.1 ≤ L) ∧ (-L ≤ (boxTo l k).2.2 ∧ (boxTo l k).2.2 ≤ L))
  | 0 => ⟨hl 0, hl 0⟩
  | k + 1 => by
    have h1 := boxTo_bd hl k
    have h2 := hl k
    simp only [boxTo, mn, mx]
    refine ⟨⟨?_, ?_⟩, ?_, ?_⟩ <;> constructor <;> split <;> omega
theorem box_in {l : List Pt} {p : Pt} (h : p ∈ l) : ((lowL l).1 ≤ p.1 ∧ p.1 ≤ (highL l).1) ∧ ((lowL l).2 ≤ p.2 ∧ p.2 ≤ (highL l).2) := by
  obtain ⟨i, hi⟩ := List.getElem?_of_mem h
  have := boxTo_in l l.length i (List.getElem?_eq_some_iff.1 hi).1
  have e : gt l i = p := by unfold gt; rw [List.getD_eq_getElem?_getD, hi]; rfl
  rwa [e] at this

end Go.Proofs.Ytffjonpajjioaaa

/- Nesting: boxes, the first free vector, polygons that are moved. -/
namespace Go.Proofs.Ytffjonpajjioaaa

/-- r is the first free vector of the room: the lowest one, and of several the one farthest to the left. -/
def IsFirst (rx ry : Int) (free : Pt → Bool) : Option Pt → Prop
  | some v => (0 ≤ v.1 ∧ v.1 ≤ rx) ∧ (0 ≤ v.2 ∧ v.2 ≤ ry) ∧ free v = true ∧ ∀ u : Pt, 0 ≤ u.1 → u.1 ≤ rx → 0 ≤ u.2 → u.2 ≤ ry → (u.2 < v.2 ∨ (u.2 = v.2 ∧ u.1 < v.1)) → free u = false
  | none => ∀ u : Pt, 0 ≤ u.1 → u.1 ≤ rx → 0 ≤ u.2 → u.2 ≤ ry → free u = false

theorem IsFirst.unique {rx ry : Int} {free : Pt → Bool} : ∀ {r s : Option Pt}, IsFirst rx ry free r → IsFirst rx ry free s → r = s
  | none, none, _, _ => rfl
  | none, some v, h, ⟨⟨a, b⟩, ⟨c, d⟩, e, _⟩ => by rw [h v a b c d] at e; cases e
  | some v, none, ⟨⟨a, b⟩, ⟨c, d⟩, e, _⟩, h => by rw [h v a b c d] at e; cases e
  | some v, some u, ⟨⟨a, b⟩, ⟨c, d⟩, e, f⟩, ⟨⟨a', b'⟩, ⟨c', d'⟩, e', f'⟩ => by
    have h1 := fun h => f u a' b' c' d' h
    have h2 := fun h => f' v a b c d h
    rw [e'] at h1
    rw [e] at h2
    have h3 : ¬ (u.2 < v.2 ∨ (u.2 = v.2 ∧ u.1 < v.1)) := fun h => by cases h1 h
    have h4 : ¬ (v.2 < u.2 ∨ (v.2 = u.2 ∧ v.1 < u.1)) := fun h => by cases h2 h
    have h5 : v.1 = u.1 ∧ v.2 = u.2 := by omega
    rw [show v = u from Prod.ext h5.1 h5.2]

open Classical in
noncomputable def firstOf (rx ry : Int) (free : Pt → Bool) : Option Pt := if h : ∃ r, IsFirst rx ry free r then h.choose else none
theorem firstOf_eq {rx ry : Int} {free : Pt → Bool} {r : Option Pt} (h : IsFirst rx ry free r) : firstOf rx ry free = r := by
  have hx : ∃ r, IsFirst rx ry free r := ⟨r, h⟩
  unfold firstOf
  rw [dif_pos hx]
  exact hx.choose_spec.unique h

theorem gt_movedL {l : List Pt} {v : Pt} {i : Nat} (h : i < l.length) : gt (movedL l v) i = addP (gt l i) v := by
  unfold gt movedL
  rw [List.getD_eq_getElem?_getD, List.getD_eq_getElem?_getD, List.getElem?_map, List.getElem?_eq_getElem h]
  rfl
theorem crossP_mv (a b c v : Pt) : crossP (addP a v) (addP b v) (addP c v) = crossP a b c := by unfold crossP cross addP; grind
theorem inB_mv (p a b v : Int) : inB (p + v) (mn (a + v) (b + v)) (mx (a + v) (b + v)) = inB p (mn a b) (mx a b) := by
  unfold inB mn mx
  rw [Bool.eq_iff_iff]
  simp only [Bool.and_eq_true, decide_eq_true_eq]
  split <;> split <;> split <;> split <;> omega
theorem onP_mv (a b p v : Pt) : onP (addP a v) (addP b v) (addP p v) = onP a b p := by
  have h := crossP_mv a b p v
  unfold crossP at h
  unfold onP onB
  rw [h]
  simp only [addP, inB_mv]
theorem addP_inj {a b v : Pt} (h : addP a v = addP b v) : a = b := by
  unfold addP at h
  simp only [Prod.mk.injEq] at h
  exact Prod.ext (by omega) (by omega)
theorem Hedge.moved {P : List Pt} {a b : Pt} (h : Hedge P a b) (v : Pt) : Hedge (movedL P v) (addP a v) (addP b v) where
  ne := fun e => h.ne (addP_inj e)
  ok := fun p hp => by
    obtain ⟨q, hq, rfl⟩ := List.mem_map.1 hp
    have := h.ok q hq
    unfold LeftOn at *
    rwa [crossP_mv, onP_mv]
  fst := List.mem_map.2 ⟨a, h.fst, rfl⟩
  snd := List.mem_map.2 ⟨b, h.snd, rfl⟩
theorem Conv.moved {a : List Pt} {a0 : Pt} (h : Conv a a0) (v : Pt) : Conv (movedL a v) (addP a0 v) where
  hull :=
    { first := by rw [gt_movedL (by have := h.three; omega), h.hull.first]
      two := by rw [movedL_length]; exact h.hull.two
      edge := fun i hi => by
        rw [movedL_length] at hi
        have e : nx (movedL a v) i = addP (nx a i) v := by
          rw [nx_gt, nx_gt, movedL_length]
          exact gt_movedL (Nat.mod_lt _ (by omega))
        rw [gt_movedL hi, e]
        exact (h.hull.edge i hi).moved v
      once := fun i h0 hi e => by
        rw [movedL_length] at hi
        rw [gt_movedL hi] at e
        exact h.hull.once i h0 hi (addP_inj e) }
  three := by rw [movedL_length]; exact h.three
  low := fun p hp => by
    obtain ⟨q, hq, rfl⟩ := List.mem_map.1 hp
    have := h.low q hq
    unfold leP ltP at *
    rcases this with rfl | h1
    · exact .inl rfl
    · exact .inr (by unfold addP; simp only; omega)

/-- A shape, moved so that its box begins at the origin. -/
def atZero (l : List Pt) : List Pt := movedL l (negP (lowL l))
theorem atZero_bd {l : List Pt} {p : Pt} (h : p ∈ atZero l) : (0 ≤ p.1 ∧ p.1 ≤ (highL l).1 - (lowL l).1) ∧ (0 ≤ p.2 ∧ p.2 ≤ (highL l).2 - (lowL l).2) := by
  obtain ⟨q, hq, rfl⟩ := List.mem_map.1 h
  have := box_in hq
  unfold addP negP
  simp only
  omega

/-- May it lie there, beside what is laid? -/
def freeB (laid : List (List Pt)) (s : List Pt) (v : Pt) : Bool := laid.all fun p => apartB p (movedL s v)

structure NestSt where
  out : List (Nat × Pt)
  laid : List (List Pt)

def nestPut (st : NestSt) (i : Nat) (l : List Pt) : Option Pt → NestSt
  | none => st
  | some v => ⟨st.out ++ [(i, v)], st.laid ++ [movedL (atZero l) v]⟩
noncomputable def nestV (w h : Int) (laid : List (List Pt)) (l : List Pt) : Option Pt := firstOf (w - ((highL l).1 - (lowL l).1)) (h - ((highL l).2 - (lowL l).2)) (freeB laid (atZero l))
noncomputable def nestTo (w h : Int) (L : List (List Pt)) : Nat → NestSt
  | 0 => ⟨[], []⟩
  | k + 1 => nestPut (nestTo w h L k) k (L.getD k []) (nestV w h (nestTo w h L k).laid (L.getD k []))

/-- What is laid lies in the sheet, and is convex. -/
structure LaidOk (w h : Int) (m : Nat) (p : List Pt) : Prop where
  conv : ∃ p0, Conv p p0
  len : p.length ≤ m
  bd : ∀ x ∈ p, (0 ≤ x.1 ∧ x.1 ≤ w) ∧ (0 ≤ x.2 ∧ x.2 ≤ h)

theorem firstOf_in {rx ry : Int} {free : Pt → Bool} {v : Pt} (h : firstOf rx ry free = some v) : IsFirst rx ry free (some v) := by
  unfold firstOf at h
  split at h
  · rename_i hx
    have := hx.choose_spec
    rw [h] at this
    exact this
  · cases h
theorem nestTo_laid {w h : Int} {m : Nat} {L : List (List Pt)} (hL : ∀ l ∈ L, (∃ l0, Conv l l0) ∧ l.length ≤ m) : ∀ k, k ≤ L.length → (∀ p ∈ (nestTo w h L k).laid, LaidOk w h m p) ∧ (nestTo w h L k).laid.length ≤ k ∧ (nestTo w h L k).out.length = (nestTo w h L k).laid.length ∧ ∀ x ∈ (nestTo w h L k).out, x.1 < k
  | 0, _ => ⟨fun p hp => (by cases hp), Nat.le_refl _, rfl, fun x hx => (by cases hx)⟩
  | k + 1, hk => by
    obtain ⟨h1, h2, h3, h4⟩ := nestTo_laid hL k (by omega)
    have hm : L.getD k [] ∈ L := by
      rw [List.getD_eq_getElem?_getD, List.getElem?_eq_getElem (by omega)]
      exact List.getElem_mem _
    obtain ⟨⟨l0, hc⟩, hlen⟩ := hL _ hm
    unfold nestTo
    generalize nestTo w h L k = st at *
    generalize L.getD k [] = l at *
    cases e : nestV w h st.laid l with
    | none => exact ⟨h1, by show st.laid.length ≤ k + 1; omega, h3, fun x hx => Nat.lt_succ_of_lt (h4 x hx)⟩
    | some v =>
      obtain ⟨a, b, -, -⟩ := firstOf_in e
      refine ⟨fun p hp => ?_, by show (st.laid ++ [movedL (atZero l) v]).length ≤ k + 1; rw [List.length_append]; simp; omega, by show (st.out ++ [(k, v)]).length = (st.laid ++ [movedL (atZero l) v]).length; rw [List.length_append, List.length_append, h3]; rfl, fun x hx => ?_⟩
      · unfold nestPut at hp
        rcases List.mem_append.1 hp with hp | hp
        · exact h1 p hp
        · obtain rfl := List.mem_singleton.1 hp
          refine ⟨⟨_, (hc.moved _).moved v⟩, by unfold atZero; rw [movedL_length, movedL_length]; exact hlen, fun x hx => ?_⟩
          obtain ⟨q, hq, rfl⟩ := List.mem_map.1 hx
          have := atZero_bd hq
          unfold addP
          simp only
          omega
      · unfold nestPut at hx
        rcases List.mem_append.1 hx with hx | hx
        · exact Nat.lt_succ_of_lt (h4 x hx)
        · obtain rfl := List.mem_singleton.1 hx
          exact Nat.lt_succ_self _
end Go.Proofs.Ytffjonpajjioaaa
