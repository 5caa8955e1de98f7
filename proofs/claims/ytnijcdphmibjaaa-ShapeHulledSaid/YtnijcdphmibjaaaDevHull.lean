/- Package shape's hull. -/
import Derived.Test.YtnijcdphmibjaaaDevSort
namespace Go.Proofs.Ytnijcdphmibjaaa
open Go.RowKit Go.Sort
attribute [local go_sem ↓] run_min_mn run_max_mx Go.wp_at_zero Go.wp_at_succ

/-- What slices.SortFunc does by package shape's compare. -/
def SortsPts : Prop := ∀ (blk off cap : Nat) (d : Array Pt) (w : World), HoldsK encP 2 w blk off d → blk < w.heap.size → d.size < 4611686018427387904 →
  Calls Try.prog 100 #[.slice (some ⟨blk, off, none⟩) d.size cap, .func (.func 93) #[] #[]] w fun e w' =>
    e = .returned (.tuple #[]) ∧ ∃ d' n os, PermIn 0 d.size d d' ∧ SortedIn (fun x y => decide (cmpQ x y < 0)) 0 d.size d' ∧ w' = sortWorldK encP 2 w blk off n d' os
/-- What slices.Reverse does. -/
def ReversesPts : Prop := ∀ (blk off cap : Nat) (d : Array Pt) (w : World), HoldsK encP 2 w blk off d → d.size < 4611686018427387904 → 0 < d.size →
  Calls Try.prog 102 #[.slice (some ⟨blk, off, none⟩) d.size cap] w fun e w' =>
    e = .returned (.tuple #[]) ∧ ∃ n, w' = putRowK encP 2 (Go.Sort.ahead w n) blk off d.reverse

def SortedTo (g n c : Nat) (l : List Pt) (base : Nat) (w : World) (e : Ending) (w' : World) : Prop :=
  e = .returned (.tuple #[]) ∧ ∃ l', l'.Perm l ∧ l'.Pairwise leP ∧ PtsOwn w' base (.slice (some ⟨g, 0, none⟩) n c) l' ∧ w.grownBy w' (some g)

theorem sort_own (hS : SortsPts) {w : World} {base g n c : Nat} {l : List Pt} (h : PtsOwn w base (.slice (some ⟨g, 0, none⟩) n c) l) (hn : l.length = n) (hb : n ≤ 1000) (hg : g < w.heap.size) :
    Calls Try.prog 100 #[.slice (some ⟨g, 0, none⟩) n c, .func (.func 93) #[] #[]] w (SortedTo g n c l base w) := by
  have k := hS g 0 c l.toArray w (holds_own h hn) hg (by simp; omega)
  simp only [List.size_toArray, hn] at k
  refine k.mono ?_
  rintro e w' ⟨rfl, d', m, os, hp, hs, rfl⟩
  obtain ⟨d', rfl⟩ : ∃ l' : List Pt, d' = l'.toArray := ⟨d'.toList, by simp⟩
  have hsz : d'.length = n := by have := hp.1; simpa [hn] using this
  have hperm : d'.Perm l := by
    have := hp.2.2
    simpa [← hn, List.take_of_length_le (show d'.length ≤ l.length by omega)] using this
  obtain ⟨o1, o2⟩ := own_laid (m := m) (os := os) h hn hsz
  refine ⟨rfl, d', hperm, sorted_of (by simpa [hsz] using hs), o1, o2⟩

theorem reverse_own (hR : ReversesPts) {w : World} {base g n c : Nat} {l : List Pt} (h : PtsOwn w base (.slice (some ⟨g, 0, none⟩) n c) l) (hn : l.length = n) (hb : n ≤ 1000) (h0 : 0 < n) :
    Calls Try.prog 102 #[.slice (some ⟨g, 0, none⟩) n c] w fun e w' => e = .returned (.tuple #[]) ∧ PtsOwn w' base (.slice (some ⟨g, 0, none⟩) n c) l.reverse ∧ w.grownBy w' (some g) := by
  have k := hR g 0 c l.toArray w (holds_own h hn) (by simp; omega) (by simp; omega)
  simp only [List.size_toArray, hn] at k
  refine k.mono ?_
  rintro e w' ⟨rfl, m, rfl⟩
  have o := own_laid (m := m) (os := #[]) (l' := l.reverse) h hn (by simpa using hn)
  rw [show l.toArray.reverse = l.reverse.toArray by simp]
  unfold sortWorldK at o
  rw [grow_empty] at o
  exact ⟨rfl, o.1, o.2⟩

/-- What hull leaves: the chains of the points in their order. -/
def HullTo (l : List Pt) (w : World) (e : Ending) (w' : World) : Prop :=
  ∃ s v, s.Perm l ∧ s.Pairwise leP ∧ e = .returned v ∧ PtsOwn w' w.heap.size v (hullL s) ∧ Below w.heap.size w w'

theorem chain_len {l : List Pt} (h : l ≠ []) : 1 ≤ (chainW l).length := by
  have key : ∀ (l st : List Pt), l ≠ [] ∨ st ≠ [] → l.foldl pushW st ≠ [] := by
    intro l
    induction l with
    | nil => intro st h; rcases h with h | h; exact absurd rfl h; exact h
    | cons x l ih => intro st _; exact ih (pushW st x) (.inr (by simp [pushW]))
  have := key l [] (.inl h)
  unfold chainW
  exact List.length_pos_iff.2 this

set_option maxRecDepth 100000 in
set_option maxHeartbeats 4000000 in
theorem hull_any (hS : SortsPts) (hR : ReversesPts) (b off n c : Nat) (l : List Pt) (w : World) (hl : l.length = n) (hn : 0 < n) (hn' : n ≤ 100) (h : PtsIn w b off l) (hb : b < w.heap.size) (hbd : ∀ x ∈ l, Bd x) :
    Calls Try.prog 72 #[.slice (some ⟨b, off, none⟩) n c] w (HullTo l w) := by
  have K1 := Lib.hid (clone_any b off n c l w hl hn' h hb)
  have HBD := Lib.hid hbd
  have HL := Lib.hid hl
  clear h hbd
  go_enter Try.func72, Try.ntmps72
  go_wp2_with fail
  refine (K1.out).mono ?_
  rintro e w1 ⟨v, rfl, ho, hb1⟩
  obtain ⟨g, c1, rfl, hc1, hgb, hg, -⟩ := ho.row hl hn
  have K2 := Lib.hid (sort_own hS ho hl (by omega) hg)
  have HB1 := Lib.hid hb1
  clear K1 ho hb1
  go_wp2_with fail
  refine (K2.out).mono ?_
  rintro e w2 ⟨rfl, s, hperm, hsort, ho2, hg2⟩
  have hsl : s.length = n := by rw [hperm.length_eq]; exact hl
  have HB2 := Lib.hid (HB1.out.grown hg2 HB1.out.size (fun k hk => by obtain rfl := Option.some.inj hk; exact hgb))
  have hgl2 : g < w2.heap.size := Nat.lt_of_lt_of_le hg hg2.size
  obtain ⟨g', c', e', _, _, _, hin2⟩ := ho2.row hsl hn
  simp only [Value.slice.injEq, Option.some.injEq, Addr.mk.injEq] at e'
  obtain ⟨⟨rfl, -, -⟩, -, -⟩ := e'
  have hsbd : ∀ x ∈ s, Bd x := fun x hx => HBD.out x (hperm.mem_iff.1 hx)
  have K3 := Lib.hid (chain_any g 0 n c1 s w2 hsl hn' hin2 hgl2 hsbd)
  have HO2 := Lib.hid ho2
  have HPERM := Lib.hid hperm
  have HSORT := Lib.hid hsort
  have HSB := Lib.hid hsbd
  have hsz2 := HB2.out.size
  clear K2 ho2 hg2 hin2 hperm hsort hsbd
  go_wp2_with fail
  refine (K3.out).mono ?_
  rintro e w3 ⟨v3, rfl, ho3, hb3⟩
  have hl3 := chain_len (l := s) (by intro e; subst e; simp at hsl; omega)
  obtain ⟨u, hu⟩ : ∃ u, (chainW s).length = u + 1 := ⟨(chainW s).length - 1, by omega⟩
  obtain ⟨g3, c3, rfl, hc3, hb3g, hg3, -⟩ := ho3.row (n := u + 1) (by rw [List.length_reverse]; exact hu) (by omega)
  have HO3 := Lib.hid (HO2.out.belows hb3 (Nat.le_refl _))
  have K4 := Lib.hid (reverse_own hR HO3.out hsl (by omega) hn)
  have HU3 := Lib.hid ho3
  have HB3 := Lib.hid (HB2.out.trans (hb3.mono hsz2))
  clear K3 ho3 hb3 hl3 HO2
  go_wp2_with fail
  refine (K4.out).mono ?_
  rintro e w4 ⟨rfl, ho4, hg4⟩
  have HU4 := Lib.hid (HU3.out.other hg4 (by simp [Value.ownBlock]; omega))
  have HB4 := Lib.hid (HB3.out.grown hg4 HB3.out.size (fun k hk => by obtain rfl := Option.some.inj hk; exact hgb))
  have hrl : s.reverse.length = n := by rw [List.length_reverse]; exact hsl
  obtain ⟨g', c', e', _, _, hgl4, hin4⟩ := ho4.row hrl hn
  simp only [Value.slice.injEq, Option.some.injEq, Addr.mk.injEq] at e'
  obtain ⟨⟨rfl, -, -⟩, -, -⟩ := e'
  have K5 := Lib.hid (chain_any g 0 n c1 s.reverse w4 hrl hn' hin4 hgl4 (fun x hx => HSB.out x (List.mem_reverse.1 hx)))
  have hg34 : g3 < w4.heap.size := Nat.lt_of_lt_of_le hg3 hg4.size
  have hsz4 := HB4.out.size
  clear K4 ho4 hg4 hin4 HU3
  go_wp2_with fail
  refine (K5.out).mono ?_
  rintro e w5 ⟨v5, rfl, ho5, hb5⟩
  have hl5 := chain_len (l := s.reverse) (by intro e; have := congrArg List.length e; simp at this; rw [this] at hsl; simp at hsl; omega)
  obtain ⟨d, hd⟩ : ∃ d, (chainW s.reverse).length = d + 1 := ⟨(chainW s.reverse).length - 1, by omega⟩
  have hu8 : u + 1 ≤ n := by
    have := chainW_len s []
    unfold chainW at hu; simp only [List.length_nil] at this; omega
  have hd8 : d + 1 ≤ n := by
    have := chainW_len s.reverse []
    unfold chainW at hd; simp only [List.length_nil, List.length_reverse] at this; omega
  obtain ⟨g5, c5, rfl, hc5, hb5g, hg5, hin5⟩ := ho5.row (n := d + 1) (by rw [List.length_reverse]; exact hd) (by omega)
  have HU5 : Hid (PtsOwn w5 w2.heap.size (.slice (some ⟨g3, 0, none⟩) u c3) ((chainW s).reverse.dropLast)) := Lib.hid (by
    have h := (HU4.out.belows hb5 (Nat.le_refl _)).shrink (n := u + 1) (k := u) (by rw [List.length_reverse]; exact hu) (by omega)
    rw [List.dropLast_eq_take, List.length_reverse, hu, Nat.add_sub_cancel]
    exact h)
  have HD5 : Hid (PtsAt w5 (some ⟨g5, 0, none⟩) ((chainW s.reverse).reverse.dropLast)) := Lib.hid fun _ => ⟨g5, 0, rfl, hg5, fun i p hp => hin5 i p (by
    rw [List.getElem?_dropLast] at hp
    split at hp
    · exact hp
    · cases hp)⟩
  have hlu : ((chainW s).reverse.dropLast).length = u := by rw [List.length_dropLast, List.length_reverse, hu]; omega
  have hld : ((chainW s.reverse).reverse.dropLast).length = d := by rw [List.length_dropLast, List.length_reverse, hd]; omega
  have HB5 := Lib.hid (HB4.out.trans (hb5.mono hsz4))
  have hlen : ((chainW s).reverse.dropLast).length + ((chainW s.reverse).reverse.dropLast).length ≤ 100000 := by rw [hlu, hld]; omega
  have hw25 : w2.heap.size ≤ w5.heap.size := by
    have h1 := hb5.size
    omega
  clear K5 ho5 hb5 hl5 hin5 HU4 HB4
  have i1 : (0 : Int) ≤ (u : Int) := Int.natCast_nonneg _
  have i2 : (u : Int) ≤ (c3 : Int) := by omega
  have i3 : (0 : Int) ≤ (d : Int) := Int.natCast_nonneg _
  have i4 : (d : Int) ≤ (c5 : Int) := by omega
  have j1 : IntKind.i64.wrap (((u + 1 : Nat) : Int) - 1) = (u : Int) := by rw [IntKind.wrap_i64]; omega
  have j2 : IntKind.i64.wrap ((u : Int) + 1 - 1) = (u : Int) := by rw [IntKind.wrap_i64]; omega
  have j3 : IntKind.i64.wrap (((d + 1 : Nat) : Int) - 1) = (d : Int) := by rw [IntKind.wrap_i64]; omega
  have j4 : IntKind.i64.wrap ((d : Int) + 1 - 1) = (d : Int) := by rw [IntKind.wrap_i64]; omega
  have j5 : IntKind.i64.wrap (u : Int) = (u : Int) := by rw [IntKind.wrap_i64]; omega
  have j6 : IntKind.i64.wrap (d : Int) = (d : Int) := by rw [IntKind.wrap_i64]; omega
  have i5 : u ≤ c3 := by omega
  have i6 : d ≤ c5 := by omega
  go_wp2_with fail
  go_region_held3 (fun _ => True) (exact trivial)
    ((refine step_papp (by rfl) _ _ (by rfl) w2.heap.size (.slice (some ⟨g3, 0, none⟩) u c3) _ _ (some ⟨g5, 0, none⟩) d c5 (by rfl) (by rfl) HU5.out.drew hld HD5.out hlen (by simpa using hw25) ?_; intro v6 w6 ho6 hg6 hat))
  go_wp2_with fail
  go_ret
  exact ⟨s, v6, HPERM.out, HSORT.out, rfl, ho6.low hsz2, HB5.out.drew.grown hg6 (by simpa using HB5.out.size) (fun k hk => Nat.le_trans hsz2 (HU5.out.base k hk).1)⟩
end Go.Proofs.Ytnijcdphmibjaaa
