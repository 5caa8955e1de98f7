/- Parts of the proof, one after the other: EngAt, Words, Leaf, Cmp, Over, Small, Small2, Signs, Small3, Mul, Small4, Ratio1, SymAt, SymRatio, SymMake, DigMath, DigKit, DigNat. -/
import Derived.Test.YteicddmekhdjeaaGreatDoorEngD
import Derived.Test.YteicddmekhdjeaaGreatDoorChecked
import Derived.KernelRfl
import Derived.Lib.LaidTab
import Derived.Below
import Derived.Calls
import Derived.WalkKit
import Derived.Lib.Hide
import Derived.Test.YteicddmekhdjeaaGreatDoorProg
import Derived.WalkSpells
import Derived.WalkLawsBesides
import Derived.Handy
import Derived.Lib.QuietBelow
import Derived.BigQuiet
import Derived.Lib.SliceRun
import Derived.RegionTactic
import Derived.Deep.CutBlock
import Derived.Shelf.Bits.Mul64
import Derived.Ground.Names2Prog
import Derived.StillTailTactics
import Derived.Deep.RegionHeld3
import Derived.Maps.AppendAt
import Derived.Deep.AppendLies
import Derived.OwnWalk
import Derived.Laws.Rows
import Derived.Laws.MakeOwn
import Derived.Deep.Draws
import Derived.Deep.DeepCutAuto
/- What the evaluator asks of the program: its tables, its functions without a text. -/
namespace Go.Proofs.YteicddmekhdjeaaGreatDoor
open Go.RowKit (Below)

def pow10 : List Nat := [1, 10, 100, 1000, 10000, 100000, 1000000, 10000000, 100000000, 1000000000, 10000000000, 100000000000, 1000000000000, 10000000000000, 100000000000000, 1000000000000000, 10000000000000000, 100000000000000000, 1000000000000000000, 10000000000000000000]
def tabs : List (Nat × IntKind × List Nat) := [(0, .u64, pow10)]

theorem eng_names : Eng.namesB Tryz.prog = true := by kernel_rfl
theorem eng_index : Eng.Entry Tryz.prog 166 Extern.BytealgIndexByte.indexByte := ⟨fun fn h => by
  obtain rfl := Option.some.inj (Tryz.func166.symm.trans h)
  exact ⟨by kernel_rfl, by kernel_rfl, by kernel_rfl, by kernel_rfl⟩⟩
theorem eng_add : Eng.Entry Tryz.prog 106 add64Entry := ⟨fun fn h => by
  obtain rfl := Option.some.inj (Tryz.func106.symm.trans h)
  exact ⟨by kernel_rfl, by kernel_rfl, by kernel_rfl, by kernel_rfl⟩⟩
theorem eng_sub : Eng.Entry Tryz.prog 134 Eng.subEntry := ⟨fun fn h => by
  obtain rfl := Option.some.inj (Tryz.func134.symm.trans h)
  exact ⟨by kernel_rfl, by kernel_rfl, by kernel_rfl, by kernel_rfl⟩⟩
noncomputable def eng_prims : Eng.Base := Eng.bareOf 166 106 134
theorem eng_ok {ro : Eng.Lo} : Eng.ProgOk Tryz.prog ro (Eng.bareOf 166 106 134) := Eng.progOk Tryz.checked.mixed eng_names eng_index eng_add eng_sub

/-- The evaluator reads the variables below this number. -/
def eng_ro : Nat := 0 + 1
theorem tabs_lt : ∀ p ∈ tabs, p.1 < eng_ro := fun p hp => by
  simp only [tabs, List.mem_singleton] at hp
  subst hp
  exact of_decide_eq_true (by kernel_rfl)
theorem tabs_size {w : World} (h : Eng.Tabs tabs w) : eng_ro ≤ w.heap.size := by
  have := h _ (List.mem_singleton.2 rfl) 0 1 rfl
  exact World.block_lt_of_cell? w _ this
theorem tabs_below {w w' : World} (h : Eng.Tabs tabs w) (hb : Below w.heap.size w w') : Eng.Tabs tabs w' := fun p hp i n hn =>
  (hb.cell (World.block_lt_of_cell? w _ (h p hp i n hn))).trans (h p hp i n hn)
/-- What the row's condition on the listed variable gives. -/
theorem tabs_of {w : World} (h : Lib.TabIs Tryz.prog w "internal/strconv.uint64pow10" .u64 (pow10.map Int.ofNat)) : Eng.Tabs tabs w := fun p hp i n hn => by
  simp only [tabs, List.mem_singleton] at hp
  subst hp
  have hi : i < (pow10.map Int.ofNat).length := by
    rw [List.length_map]
    exact (List.getElem?_eq_some_iff.1 hn).1
  have := h.cell (g := 0) (by kernel_rfl) i hi
  rw [this]
  congr 2
  have hn' : pow10[i]? = some n := hn
  simp [List.getD, List.getElem?_map, hn']
end Go.Proofs.YteicddmekhdjeaaGreatDoor

/- Naturals as lists of words of 64 bits, the least significant first: plain facts, and how they lie in memory. -/
namespace Go.Proofs.YteicddmekhdjeaaGreatDoor
open Go.RowKit

def B64 : Nat := 18446744073709551616
theorem B64_pos : 0 < B64 := by unfold B64; omega
/-- A word. -/
def Word (x : Int) : Prop := 0 ≤ x ∧ x < 18446744073709551616
theorem Word.toNat_lt {x : Int} (h : Word x) : x.toNat < B64 := by unfold Word at h; unfold B64; omega
/-- The number that words denote. -/
def val : List Int → Nat
  | [] => 0
  | x :: xs => x.toNat + B64 * val xs
/-- Words without a leading zero. -/
def Canon (xs : List Int) : Prop := (∀ x ∈ xs, Word x) ∧ xs.getLast? ≠ some 0

theorem val_append (xs ys : List Int) : val (xs ++ ys) = val xs + B64 ^ xs.length * val ys := by
  induction xs with
  | nil => simp [val]
  | cons x xs ih =>
    simp only [List.cons_append, val, ih, List.length_cons, Nat.pow_succ, Nat.mul_add, Nat.add_assoc]
    rw [Nat.mul_comm (B64 ^ xs.length) B64, Nat.mul_assoc]
theorem val_lt {xs : List Int} (h : ∀ x ∈ xs, Word x) : val xs < B64 ^ xs.length := by
  induction xs with
  | nil => simp [val]
  | cons x xs ih =>
    have hx := (h x (by simp)).toNat_lt
    have hi := ih fun y hy => h y (by simp [hy])
    have h2 : B64 * val xs + B64 ≤ B64 * B64 ^ xs.length := by
      rw [← Nat.mul_succ]; exact Nat.mul_le_mul_left _ hi
    simp only [val, List.length_cons, Nat.pow_succ, Nat.mul_comm _ B64]
    omega
theorem Canon.nil : Canon [] := ⟨by simp, by simp⟩
theorem Canon.one {x : Int} (h : Word x) (h0 : x ≠ 0) : Canon [x] := ⟨by simpa using h, by simpa using h0⟩
theorem Canon.pos {xs : List Int} (h : Canon xs) (hne : xs ≠ []) : 0 < val xs := by
  obtain ⟨hw, hl⟩ := h
  rcases List.eq_nil_or_concat xs with rfl | ⟨ys, y, rfl⟩
  · exact absurd rfl hne
  · rw [List.concat_eq_append] at *
    have hy : Word y := hw y (by simp)
    have h0 : y ≠ 0 := by simpa using hl
    have : 0 < y.toNat := by unfold Word at hy; omega
    rw [val_append]
    have h3 : 0 < B64 ^ ys.length * val [y] := Nat.mul_pos (Nat.pow_pos B64_pos) (by simp [val]; omega)
    omega
theorem Canon.zero {xs : List Int} (h : Canon xs) : val xs = 0 ↔ xs = [] :=
  ⟨fun e => by
    rcases xs with _ | ⟨x, xs⟩
    · rfl
    · have := h.pos (by simp); omega, fun e => by subst e; rfl⟩
theorem Canon.tail {x : Int} {xs : List Int} (h : Canon (x :: xs)) : Canon xs := by
  refine ⟨fun y hy => h.1 y (by simp [hy]), ?_⟩
  rcases xs with _ | ⟨y, ys⟩
  · simp
  · have := h.2; simpa [List.getLast?_cons_cons] using this
theorem Canon.small {xs : List Int} (h : Canon xs) (hs : val xs < B64) : xs = [] ∨ xs = [(val xs : Int)] := by
  rcases xs with _ | ⟨x, xs⟩
  · exact .inl rfl
  · right
    have h0 : val xs = 0 := by
      rcases Nat.eq_zero_or_pos (val xs) with h0 | h0
      · exact h0
      · have : B64 ≤ B64 * val xs := Nat.le_mul_of_pos_right _ h0
        simp only [val] at hs; omega
    have := h.tail.zero.1 h0
    subst this
    have hx := h.1 x (by simp)
    unfold Word at hx
    simp only [val, Nat.mul_zero, Nat.add_zero]
    rw [Int.toNat_of_nonneg hx.1]

/-- A slice value's parts. -/
structure Sl where
  A : Option Addr
  n : Nat
  c : Nat

/-- The length fits the capacity, which is modest. -/
def CapOk (s : Sl) : Prop := s.n ≤ s.c ∧ s.c ≤ 1000000000

/-- The words lie in memory. -/
def Cells (w : World) (A : Option Addr) (xs : List Int) : Prop :=
  xs ≠ [] → ∃ b off, A = some ⟨b, off, none⟩ ∧ ∀ i x, xs[i]? = some x → w.cell? ⟨b, off + i, none⟩ = some (.int .u64 x)
def NatAt (w : World) (s : Sl) (m : Nat) : Prop := ∃ xs : List Int, Canon xs ∧ val xs = m ∧ s.n = xs.length ∧ CapOk s ∧ Cells w s.A xs
def IntAt (w : World) (neg : Bool) (s : Sl) (z : Int) : Prop := ∃ m : Nat, NatAt w s m ∧ z = (if neg then -(m : Int) else (m : Int)) ∧ (neg = true → m ≠ 0)

theorem Cells.keep {w w' : World} {A : Option Addr} {xs : List Int} (h : Cells w A xs) (hk : ∀ b o v, w.cell? ⟨b, o, none⟩ = some v → w'.cell? ⟨b, o, none⟩ = some v) : Cells w' A xs :=
  fun hne => let ⟨b, off, e, hc⟩ := h hne; ⟨b, off, e, fun i x hx => hk _ _ _ (hc i x hx)⟩
theorem NatAt.keep {w w' : World} {s : Sl} {m : Nat} (h : NatAt w s m) (hk : ∀ b o v, w.cell? ⟨b, o, none⟩ = some v → w'.cell? ⟨b, o, none⟩ = some v) : NatAt w' s m :=
  let ⟨xs, h1, h2, h3, h4, h5⟩ := h; ⟨xs, h1, h2, h3, h4, h5.keep hk⟩
theorem below_keep {w w' : World} (hb : Below w.heap.size w w') : ∀ b o v, w.cell? ⟨b, o, none⟩ = some v → w'.cell? ⟨b, o, none⟩ = some v :=
  fun b o _ h => (hb.cell (p := ⟨b, o, none⟩) (block_lt_of_cell h)).trans h
theorem NatAt.below {w w' : World} {s : Sl} {m : Nat} (h : NatAt w s m) (hb : Below w.heap.size w w') : NatAt w' s m := h.keep (below_keep hb)
theorem IntAt.below {w w' : World} {neg : Bool} {s : Sl} {z : Int} (h : IntAt w neg s z) (hb : Below w.heap.size w w') : IntAt w' neg s z :=
  let ⟨m, h1, h2⟩ := h; ⟨m, h1.below hb, h2⟩
theorem NatAt.len0 {w : World} {s : Sl} {m : Nat} (h : NatAt w s m) : s.n = 0 ↔ m = 0 := by
  obtain ⟨xs, h1, rfl, h3, _⟩ := h
  rw [h3, h1.zero]; exact List.length_eq_zero_iff
theorem NatAt.nil (w : World) (A : Option Addr) (c : Nat) (hc : c ≤ 1000000000) : NatAt w ⟨A, 0, c⟩ 0 := ⟨[], Canon.nil, rfl, rfl, ⟨Nat.zero_le _, hc⟩, fun h => absurd rfl h⟩
theorem NatAt.one {w : World} {b off c : Nat} {x : Int} (hx : Word x) (h0 : x ≠ 0) (hc : 1 ≤ c ∧ c ≤ 1000000000) (h : w.cell? ⟨b, off, none⟩ = some (.int .u64 x)) : NatAt w ⟨some ⟨b, off, none⟩, 1, c⟩ x.toNat :=
  ⟨[x], Canon.one hx h0, by simp [val], rfl, hc, fun _ => ⟨b, off, rfl, fun i y hy => by
    match i, hy with
    | 0, hy => simp at hy; subst hy; exact h⟩⟩

/-- Words in memory, leading zeros or not. -/
def RawAt (w : World) (s : Sl) (m : Nat) : Prop := ∃ xs : List Int, (∀ x ∈ xs, Word x) ∧ val xs = m ∧ s.n = xs.length ∧ CapOk s ∧ Cells w s.A xs
theorem NatAt.raw {w : World} {s : Sl} {m : Nat} (h : NatAt w s m) : RawAt w s m := let ⟨xs, h1, h2⟩ := h; ⟨xs, h1.1, h2⟩
theorem Cells.at_ {w : World} {A : Option Addr} {xs : List Int} (h : Cells w A xs) {i : Nat} (hi : i < xs.length) :
    ∃ b off, A = some ⟨b, off, none⟩ ∧ w.cell? ⟨b, off + i, none⟩ = some (.int .u64 (xs[i])) := by
  obtain ⟨b, off, e, hc⟩ := h (by intro e; subst e; simp at hi)
  exact ⟨b, off, e, hc i _ (List.getElem?_eq_getElem hi)⟩
theorem Cells.take {w : World} {A : Option Addr} {xs : List Int} (h : Cells w A xs) (k : Nat) : Cells w A (xs.take k) := fun hne => by
  obtain ⟨b, off, e, hc⟩ := h (by intro e; subst e; simp at hne)
  exact ⟨b, off, e, fun i x hx => hc i x (by
    rw [List.getElem?_take] at hx; split at hx
    · exact hx
    · cases hx)⟩
theorem val_one {xs : List Int} (h : Canon xs) : (val xs == 1) = (xs == [1]) := by
  rw [Bool.eq_iff_iff, beq_iff_eq, beq_iff_eq]
  constructor
  · intro e
    rcases h.small (by rw [e]; unfold B64; omega) with h0 | h0
    · subst h0; simp [val] at e
    · rw [h0, e]; rfl
  · intro e; subst e; simp [val]
theorem val_take_zero {xs : List Int} (k : Nat) (h : ∀ i x, k ≤ i → xs[i]? = some x → x = 0) : val xs = val (xs.take k) := by
  induction xs generalizing k with
  | nil => simp
  | cons x xs ih =>
    cases k with
    | zero =>
      have h0 : x = 0 := h 0 x (Nat.zero_le _) rfl
      have := ih 0 (fun i y _ hy => h (i + 1) y (Nat.zero_le _) (by simpa using hy))
      simp [val, h0, this]
    | succ k =>
      have := ih k (fun i y hi hy => h (i + 1) y (by omega) (by simpa using hy))
      simp [val, this]

theorem val_split (xs : List Int) (i : Nat) (h : i ≤ xs.length) : val xs = val (xs.take i) + B64 ^ i * val (xs.drop i) := by
  have := val_append (xs.take i) (xs.drop i)
  rw [List.take_append_drop, List.length_take, Nat.min_eq_left h] at this
  exact this
theorem val_lt_at {xs ys : List Int} {i : Nat} (hx : ∀ x ∈ xs, Word x) (hy : ∀ y ∈ ys, Word y) (h1 : i < xs.length) (h2 : i < ys.length) (htop : xs.drop (i + 1) = ys.drop (i + 1)) (hlt : xs[i] < ys[i]) : val xs < val ys := by
  rw [val_split xs i (by omega), val_split ys i (by omega), List.drop_eq_getElem_cons h1, List.drop_eq_getElem_cons h2, htop]
  have a := val_lt (xs := xs.take i) fun x hxx => hx x (List.mem_of_mem_take hxx)
  rw [List.length_take, Nat.min_eq_left (by omega)] at a
  have w1 := hx _ (List.getElem_mem h1)
  have w2 := hy _ (List.getElem_mem h2)
  unfold Word at w1 w2
  have h3 : (xs[i]).toNat + 1 ≤ (ys[i]).toNat := by omega
  simp only [val]
  have h4 : B64 ^ i * ((xs[i]).toNat + B64 * val (ys.drop (i + 1))) + B64 ^ i ≤ B64 ^ i * ((ys[i]).toNat + B64 * val (ys.drop (i + 1))) := by
    rw [← Nat.mul_succ]; exact Nat.mul_le_mul_left _ (by omega)
  omega
theorem Canon.ge {xs : List Int} (h : Canon xs) (hne : xs ≠ []) : B64 ^ (xs.length - 1) ≤ val xs := by
  have hl : 0 < xs.length := List.length_pos_iff.2 hne
  rw [val_split xs (xs.length - 1) (by omega), List.drop_eq_getElem_cons (by omega)]
  have h0 : xs[xs.length - 1] ≠ 0 := by
    have := h.2; rw [List.getLast?_eq_getElem?, List.getElem?_eq_getElem (by omega)] at this; simpa using this
  have hw := h.1 _ (List.getElem_mem (show xs.length - 1 < xs.length by omega))
  unfold Word at hw
  have h1 : 1 ≤ (xs[xs.length - 1]).toNat := by omega
  have : B64 ^ (xs.length - 1) * 1 ≤ B64 ^ (xs.length - 1) * val (xs[xs.length - 1] :: xs.drop (xs.length - 1 + 1)) := Nat.mul_le_mul_left _ (by simp only [val]; omega)
  omega
theorem val_lt_len {xs ys : List Int} (hx : Canon xs) (hy : Canon ys) (h : xs.length < ys.length) : val xs < val ys := by
  have a := val_lt hx.1
  have b := hy.ge (by intro e; subst e; simp at h)
  have c : B64 ^ xs.length ≤ B64 ^ (ys.length - 1) := Nat.pow_le_pow_right B64_pos (by omega)
  omega
/-- Compare two numbers. -/
def cmpN (m k : Nat) : Int := if m < k then -1 else if m = k then 0 else 1
theorem cmpN_lt {m k : Nat} (h : m < k) : cmpN m k = -1 := by simp [cmpN, h]
theorem cmpN_gt {m k : Nat} (h : k < m) : cmpN m k = 1 := by rw [cmpN, if_neg (by omega), if_neg (by omega)]
theorem cmpN_eq (m : Nat) : cmpN m m = 0 := by simp [cmpN]

/-- What a call that makes a natural leaves. -/
def RetNat (m : Nat) (w : World) (e : Ending) (w' : World) : Prop := ∃ s : Sl, e = .returned (.slice s.A s.n s.c) ∧ NatAt w' s m ∧ Below w.heap.size w w'
def RetInt (z : Int) (w : World) (e : Ending) (w' : World) : Prop := ∃ (neg : Bool) (s : Sl), e = .returned (.agg #[.bool neg, .slice s.A s.n s.c]) ∧ IntAt w' neg s z ∧ Below w.heap.size w w'

/-- A number out of a sign and a size. -/
def sg (neg : Bool) (m : Nat) : Int := if neg then -(m : Int) else (m : Int)
theorem sg_tdiv (a b : Bool) (m k : Nat) : sg (a != b) (m / k) = (sg a m).tdiv (sg b k) := by
  cases a <;> cases b <;> simp [sg, Int.neg_tdiv, Int.tdiv_neg]
theorem sg_mul (a b : Bool) (m k : Nat) : sg (a != b) (m * k) = sg a m * sg b k := by
  cases a <;> cases b <;> simp [sg, Int.neg_mul, Int.mul_neg]

/-- Two naturals handed back. -/
def RetNat2 (m k : Nat) (w : World) (e : Ending) (w' : World) : Prop :=
  ∃ s t : Sl, e = .returned (.tuple #[.slice s.A s.n s.c, .slice t.A t.n t.c]) ∧ NatAt w' s m ∧ NatAt w' t k ∧ Below w.heap.size w w'
theorem NatAt.cap {w : World} {s : Sl} {m : Nat} (h : NatAt w s m) : s.n ≤ s.c ∧ s.c ≤ 1000000000 := let ⟨_, _, _, _, h4, _⟩ := h; h4
/-- A natural of at most one word. -/
theorem NatAt.cases_small {w : World} {s : Sl} {m : Nat} (h : NatAt w s m) (hs : m < B64) :
    (m = 0 ∧ s.n = 0) ∨ (m ≠ 0 ∧ s.n = 1 ∧ ∃ b off, s.A = some ⟨b, off, none⟩ ∧ w.cell? ⟨b, off, none⟩ = some (.int .u64 (m : Int))) := by
  obtain ⟨xs, h1, rfl, h3, h4, h5⟩ := h
  rcases h1.small hs with h0 | h0
  · left; subst h0; exact ⟨rfl, h3⟩
  · right
    have hne : xs ≠ [] := by rw [h0]; simp
    have hp := h1.pos hne
    have hl : xs.length = 1 := by rw [h0]; rfl
    obtain ⟨b, off, e, hc⟩ := h5 hne
    refine ⟨by omega, by omega, b, off, e, ?_⟩
    have := hc 0 (val xs : Int) (by rw [h0]; simp [val])
    simpa using this

section
variable {wr W w' : World} {b1 b2 o1 o2 : Nat} {v1 v2 : Value}
/-- Two cells of old blocks stay. -/
theorem keep2_call (p : Below wr.heap.size wr W ∧ W.cell? ⟨b1, o1, none⟩ = some v1 ∧ W.cell? ⟨b2, o2, none⟩ = some v2) (hb : Below W.heap.size W w') :
    Below wr.heap.size wr w' ∧ w'.cell? ⟨b1, o1, none⟩ = some v1 ∧ w'.cell? ⟨b2, o2, none⟩ = some v2 :=
  ⟨p.1.trans (hb.mono p.1.size), below_keep hb _ _ _ p.2.1, below_keep hb _ _ _ p.2.2⟩
theorem keep2_alloc (p : Below wr.heap.size wr W ∧ W.cell? ⟨b1, o1, none⟩ = some v1 ∧ W.cell? ⟨b2, o2, none⟩ = some v2) (o : Obj) :
    Below wr.heap.size wr (W.alloc o) ∧ (W.alloc o).cell? ⟨b1, o1, none⟩ = some v1 ∧ (W.alloc o).cell? ⟨b2, o2, none⟩ = some v2 :=
  keep2_call p ((Below.refl _ _).alloc (Nat.le_refl _) o)
theorem keep2_drew (p : Below wr.heap.size wr W ∧ W.cell? ⟨b1, o1, none⟩ = some v1 ∧ W.cell? ⟨b2, o2, none⟩ = some v2) :
    Below wr.heap.size wr W.drew ∧ W.drew.cell? ⟨b1, o1, none⟩ = some v1 ∧ W.drew.cell? ⟨b2, o2, none⟩ = some v2 :=
  ⟨p.1.drew, p.2.1, p.2.2⟩
theorem keep2_set (p : Below wr.heap.size wr W ∧ W.cell? ⟨b1, o1, none⟩ = some v1 ∧ W.cell? ⟨b2, o2, none⟩ = some v2) (h1 : b1 < wr.heap.size) (h2 : b2 < wr.heap.size) (q : Addr) (hq : wr.heap.size ≤ q.block) (u : Value) :
    Below wr.heap.size wr (W.setCell q u) ∧ (W.setCell q u).cell? ⟨b1, o1, none⟩ = some v1 ∧ (W.setCell q u).cell? ⟨b2, o2, none⟩ = some v2 :=
  ⟨p.1.setCell hq u, (World.cell?_setCell_other W q _ u (fun e => by subst e; simp at hq; omega)).trans p.2.1, (World.cell?_setCell_other W q _ u (fun e => by subst e; simp at hq; omega)).trans p.2.2⟩
end

end Go.Proofs.YteicddmekhdjeaaGreatDoor

/- Contracts of the smallest functions of package number. -/
namespace Go.Proofs.YteicddmekhdjeaaGreatDoor
open Go.RowKit

theorem ret_bool {a b : Bool} (h : a = b) : Ending.returned (.bool a) = .returned (.bool b) := by rw [h]
theorem ret_int {k : IntKind} {a b : Int} (h : a = b) : Ending.returned (.int k a) = .returned (.int k b) := by rw [h]

theorem word_any (x : Int) (hx : Word x) (w : World) : Calls Tryz.prog 21 #[.int .u64 x] w (RetNat x.toNat w) := by
  cases h : x == 0
  · have h0 : x ≠ 0 := by simpa using h
    go_enter Tryz.func21, Tryz.ntmps21
    go_wp2
    go_ret
    refine ⟨_, rfl, NatAt.one (b := w.heap.size) (off := 0) (c := 1) hx h0 (by omega) ?_, ?_⟩
    · go_simp
    · go_grown
  · have h0 : x = 0 := by simpa using h
    subst h0
    go_enter Tryz.func21, Tryz.ntmps21
    go_wp2
    go_ret
    exact ⟨⟨none, 0, 0⟩, rfl, NatAt.nil _ _ _ (by omega), Below.refl _ _⟩

/-- trimmed: the leading zeros go. -/
def Trimmed (s : Sl) (m : Nat) (w : World) (e : Ending) (w' : World) : Prop := ∃ k, k ≤ s.n ∧ e = .returned (.slice s.A k s.c) ∧ NatAt w ⟨s.A, k, s.c⟩ m ∧ w = w'
set_option maxHeartbeats 400000 in
theorem trimmed_any (s : Sl) (m : Nat) (w : World) (h : RawAt w s m) : Calls Tryz.prog 81 #[.slice s.A s.n s.c] w (Trimmed s m w) := by
  obtain ⟨A, n, c⟩ := s
  obtain ⟨xs, hw, rfl, hn, hc, hcell⟩ := h
  obtain ⟨hc, hlen⟩ := hc
  simp only at hn hc hcell hlen ⊢
  have HN := Lib.hid hn
  have HW := Lib.hid hw
  have HC := Lib.hid hcell
  clear hn hw hcell
  go_enter Tryz.func81, Tryz.ntmps81
  go_wp2
  go_loop [3] (fun i => ∃ k : Nat, k ≤ n ∧ i = .int .i64 k ∧ (∀ i x, k ≤ i → xs[i]? = some x → x = 0)) (fun i => (intOf i).toNat)
  case atStart => exact ⟨n, Nat.le_refl _, rfl, fun i x hi hx => by have := HN.out; rw [List.getElem?_eq_none (by omega)] at hx; cases hx⟩
  case round =>
    obtain ⟨k, hk, rfl, hz⟩ := hrel
    have HZ := Lib.hid hz
    clear hz
    have done := Lib.hid (show (k = 0 ∨ (0 < k ∧ ∃ x, xs[k - 1]? = some x ∧ x ≠ 0)) → Trimmed ⟨A, n, c⟩ (val xs) w (.returned (.slice A k c)) w from fun hd => by
      have hn := HN.out
      refine ⟨k, hk, rfl, ⟨xs.take k, ⟨fun x hx => HW.out x (List.mem_of_mem_take hx), ?_⟩, (val_take_zero k HZ.out).symm, by simp; omega, ⟨by simp; omega, hlen⟩, HC.out.take k⟩, rfl⟩
      rcases hd with rfl | ⟨hk0, x, hx, hx0⟩
      · simp
      · have hkl : k - 1 < xs.length := (List.getElem?_eq_some_iff.1 hx).1
        rw [List.getLast?_eq_getElem?, List.length_take, List.getElem?_take, Nat.min_eq_left (by omega), if_pos (by omega), hx]
        simpa using hx0)
    rcases Nat.eq_zero_or_pos k with hk0 | hk0
    · subst hk0
      go_wp2
      go_ret
      exact done.out (by simp)
    · have hkl : k - 1 < xs.length := by have := HN.out; omega
      obtain ⟨b, off, rfl, hx⟩ := HC.out.at_ hkl
      have hgx : xs[k - 1]? = some xs[k - 1] := List.getElem?_eq_getElem hkl
      generalize xs[k - 1] = x at *
      have HG := Lib.hid hgx
      clear hgx hkl
      cases hx0 : x == 0
      · go_wp2
        go_ret
        exact done.out (.inr ⟨hk0, x, HG.out, by simpa using hx0⟩)
      · go_wp2
        go_round
        case rel => exact ⟨k - 1, by omega, by go_num, fun i y hi hy => by
          rcases Nat.lt_or_eq_of_le hi with h' | h'
          · exact HZ.out i y (by omega) hy
          · rw [← h', HG.out] at hy
            have : x = 0 := by simpa using hx0
            rw [← this]; exact (Option.some.inj hy).symm⟩
        case measure => simp [intOf]; omega
end Go.Proofs.YteicddmekhdjeaaGreatDoor

/- compare: two naturals. -/
namespace Go.Proofs.YteicddmekhdjeaaGreatDoor
open Go.RowKit Go.Sort

set_option maxHeartbeats 400000 in
theorem compare_any (s t : Sl) (m k : Nat) (w : World) (h1 : NatAt w s m) (h2 : NatAt w t k) :
    Calls Tryz.prog 84 #[.slice s.A s.n s.c, .slice t.A t.n t.c] w fun e w' => e = .returned (.int .i64 (cmpN m k)) ∧ Below w.heap.size w w' := by
  obtain ⟨A, n, c⟩ := s
  obtain ⟨A', n', c'⟩ := t
  obtain ⟨xs, hw, rfl, hn, hc, hcell⟩ := h1
  obtain ⟨ys, hw', rfl, hn', hc', hcell'⟩ := h2
  obtain ⟨hc, hl1⟩ := hc
  obtain ⟨hc', hl2⟩ := hc'
  simp only at hn hc hcell hl1 hn' hc' hcell' hl2 ⊢
  have HN := Lib.hid hn
  have HN' := Lib.hid hn'
  have HW := Lib.hid hw
  have HW' := Lib.hid hw'
  have HC := Lib.hid hcell
  have HC' := Lib.hid hcell'
  clear hn hn' hw hw' hcell hcell'
  cases hne : ((n : Int) != (n' : Int))
  · have hnn : n = n' := Int.ofNat.inj (by simpa using hne)
    subst hnn
    clear hne
    go_enter Tryz.func84, Tryz.ntmps84
    go_wp2
    go_loopw [5] (fun i wr => ∃ q : Nat, q ≤ n ∧ i = .int .i64 ((q : Int) - 1) ∧ xs.drop q = ys.drop q ∧ Below w.heap.size w wr) (fun i _ => (intOf i + 1).toNat)
    case atStart =>
      refine ⟨n, Nat.le_refl _, rfl, ?_, Below.refl _ _⟩
      rw [List.drop_eq_nil_of_le (by have := HN.out; omega), List.drop_eq_nil_of_le (by have := HN'.out; omega)]
    case round =>
      obtain ⟨q, hq, rfl, hd, hbw⟩ := hrel
      have HD := Lib.hid hd
      clear hd
      rcases Nat.eq_zero_or_pos q with hq0 | hq0
      · have hv : cmpN (val xs) (val ys) = 0 := by
          have := HD.out; rw [hq0, List.drop_zero, List.drop_zero] at this; rw [this]; exact cmpN_eq _
        have HV := Lib.hid hv
        clear hv
        subst hq0
        go_wp2
        go_ret
        exact ⟨ret_int HV.out.symm, hbw⟩
      · have l1 : q - 1 < xs.length := by have := HN.out; omega
        have l2 : q - 1 < ys.length := by have := HN'.out; omega
        obtain ⟨b, off, rfl, hx⟩ := HC.out.at_ l1
        obtain ⟨b', off', rfl, hy⟩ := HC'.out.at_ l2
        have x1 := below_keep (hbw) _ _ _ hx
        have y1 := below_keep (hbw) _ _ _ hy
        have LT := fun h => Lib.hid (val_lt_at HW.out.1 HW'.out.1 l1 l2 (by rw [show q - 1 + 1 = q by omega]; exact HD.out) h)
        have GT := fun h => Lib.hid (val_lt_at HW'.out.1 HW.out.1 l2 l1 (by rw [show q - 1 + 1 = q by omega]; exact HD.out.symm) h)
        have EQ : xs[q - 1] = ys[q - 1] → xs.drop (q - 1) = ys.drop (q - 1) := fun e => by
          rw [List.drop_eq_getElem_cons l1, List.drop_eq_getElem_cons l2, e, show q - 1 + 1 = q by omega, HD.out]
        have HE := Lib.hid EQ
        clear EQ hx hy
        generalize xs[q - 1] = x at *
        generalize ys[q - 1] = y at *
        clear l1 l2
        have i0 : (0 : Int) ≤ (q : Int) - 1 := by omega
        have i1 : (q : Int) - 1 < (n : Int) := by omega
        have t1 := cell_regrown x1
        have t2 := cell_regrown y1
        cases hxy : (x != y)
        · have hxy' : x = y := by simpa using hxy
          have HXY := Lib.hid hxy'
          clear hxy'
          go_wp2_with fail
          refine wp_region_quiet_below (by kernel_rfl) (by kernel_rfl) ?_
          repeat (go_big_quiet_step (fail))
          refine wpQuiet_nil ?_
          intro _ hw'
          obtain ⟨⟨dq, osq⟩, hw''⟩ := hw'
          subst hw''
          go_wp2_with fail
          go_roundw
          case rel => exact ⟨q - 1, by omega, by go_num, HE.out HXY.out, hbw.trans ((below_regrown wr dq osq).mono hbw.size)⟩
          case measure => simp [intOf]; omega
        · have hxy' : x ≠ y := by simpa using hxy
          go_wp2_with fail
          refine wp_region_quiet_below (by kernel_rfl) (by kernel_rfl) ?_
          repeat (go_big_quiet_step (fail))
          refine wpQuiet_nil ?_
          intro _ hw'
          obtain ⟨⟨dq, osq⟩, hw''⟩ := hw'
          subst hw''
          have hbw2 := hbw.trans ((below_regrown wr dq osq).mono hbw.size)
          have y2 := t1 dq osq
          have y3 := t2 dq osq
          generalize grow (redrawn wr dq) osq = w2 at *
          clear t1 t2 x1 y1 hbw
          have t1 := cell_regrown y2
          have t2 := cell_regrown y3
          rcases Int.lt_or_gt_of_ne hxy' with hlt | hgt
          · have hv := Lib.hid (cmpN_lt (LT hlt).out)
            clear LT GT hxy'
            have hd : decide (x < y) = true := by simpa using hlt
            go_wp2_with fail
            refine wp_region_quiet_below (by kernel_rfl) (by kernel_rfl) ?_
            repeat (go_big_quiet_step (fail))
            refine wpQuiet_nil ?_
            intro _ hw'
            obtain ⟨⟨dq2, osq2⟩, hw''⟩ := hw'
            subst hw''
            go_wp2_with fail
            go_ret
            exact ⟨ret_int hv.out.symm, hbw2.trans ((below_regrown w2 dq2 osq2).mono hbw2.size)⟩
          · have hv := Lib.hid (cmpN_gt (GT hgt).out)
            clear LT GT hxy'
            have hd : decide (x < y) = false := by simp; omega
            go_wp2_with fail
            refine wp_region_quiet_below (by kernel_rfl) (by kernel_rfl) ?_
            repeat (go_big_quiet_step (fail))
            refine wpQuiet_nil ?_
            intro _ hw'
            obtain ⟨⟨dq2, osq2⟩, hw''⟩ := hw'
            subst hw''
            go_wp2_with fail
            go_ret
            exact ⟨ret_int hv.out.symm, hbw2.trans ((below_regrown w2 dq2 osq2).mono hbw2.size)⟩
  · rcases Nat.lt_or_ge n n' with hlt | hge
    · have hv := cmpN_lt (val_lt_len HW.out HW'.out (by rw [← HN.out, ← HN'.out]; exact hlt))
      have HV := Lib.hid hv
      clear hv
      go_enter Tryz.func84, Tryz.ntmps84
      go_wp2
      go_ret
      exact ⟨ret_int HV.out.symm, Below.refl _ _⟩
    · have hgt : n' < n := by
        have : ¬ (n : Int) = n' := by simpa using hne
        omega
      have hv := cmpN_gt (val_lt_len HW'.out HW.out (by rw [← HN.out, ← HN'.out]; exact hgt))
      have HV := Lib.hid hv
      clear hv
      go_enter Tryz.func84, Tryz.ntmps84
      go_wp2
      go_ret
      exact ⟨ret_int HV.out.symm, Below.refl _ _⟩
end Go.Proofs.YteicddmekhdjeaaGreatDoor

/- Quotients of small naturals. -/
namespace Go.Proofs.YteicddmekhdjeaaGreatDoor
open Go.RowKit Go.Sort

theorem div64_zero (x y : Int) (hx : Word x) (hy : Word y) (h0 : 0 < y) (w : World) :
    Calls Tryz.prog 123 #[.int .u64 0, .int .u64 x, .int .u64 y] w fun e w' => e = .returned (.tuple #[.int .u64 (x / y), .int .u64 (x % y)]) ∧ Below w.heap.size w w' := by
  obtain ⟨x0, x1⟩ := hx
  obtain ⟨y0, y1⟩ := hy
  have y2 : (y == 0) = false := by rw [beq_eq_false_iff_ne]; omega
  go_enter Tryz.func123, Tryz.ntmps123
  go_wp2_with fail
  refine wp_region_quiet_below (by kernel_rfl) (by kernel_rfl) ?_
  repeat (go_big_quiet_step (fail))
  refine wpQuiet_nil ?_
  intro _ hw'
  obtain ⟨⟨dq, osq⟩, hw''⟩ := hw'
  subst hw''
  go_wp2_with fail
  go_ret2
  exact ⟨rfl, below_regrown w dq osq⟩

/-- divideBy at one word: the quotient lies where the word lay. -/
def Div1 (b off : Nat) (x y : Int) (w : World) (e : Ending) (w' : World) : Prop :=
  e = .returned (.int .u64 (x % y)) ∧ ∃ w1, Below w.heap.size w w1 ∧ w' = w1.setCell ⟨b, off, none⟩ (.int .u64 (x / y))
set_option maxHeartbeats 400000 in
theorem divideBy_one (b off c : Nat) (x y : Int) (hx : Word x) (hy : Word y) (h0 : 0 < y) (w : World) (hc : w.cell? ⟨b, off, none⟩ = some (.int .u64 x)) (hf : w.frozen? ⟨b, off, none⟩ = false) :
    Calls Tryz.prog 95 #[.slice (some ⟨b, off, none⟩) 1 c, .int .u64 y] w (Div1 b off x y w) := by
  have D := fun W => Lib.hid (div64_zero x y hx hy h0 W)
  go_enter Tryz.func95, Tryz.ntmps95
  go_wp2_with fail
  refine wp_loop_rounds 2 ?_
  rw [rounds_succ]
  go_wp2_with fail
  refine ((D _).out).mono ?_
  rintro e w1 ⟨rfl, hb⟩
  have c1 := below_keep hb _ _ _ hc
  have f1 : w1.frozen? ⟨b, off, none⟩ = false := (hb.frozen (p := ⟨b, off, none⟩) (block_lt_of_cell hc)).trans hf
  go_wp2_with fail
  rw [rounds_succ]
  go_wp2_with fail
  go_ret
  exact ⟨rfl, w1, hb, rfl⟩
/-- The result of compare, known ahead. -/
theorem compare_lt (s t : Sl) (m k : Nat) (w : World) (h1 : NatAt w s m) (h2 : NatAt w t k) (h : m < k) :
    Calls Tryz.prog 84 #[.slice s.A s.n s.c, .slice t.A t.n t.c] w fun e w' => e = .returned (.int .i64 (-1)) ∧ Below w.heap.size w w' :=
  (compare_any s t m k w h1 h2).mono fun _ _ ⟨he, hb⟩ => ⟨by rw [he, cmpN_lt h], hb⟩
theorem compare_ge (s t : Sl) (m k : Nat) (w : World) (h1 : NatAt w s m) (h2 : NatAt w t k) (h : k ≤ m) :
    Calls Tryz.prog 84 #[.slice s.A s.n s.c, .slice t.A t.n t.c] w fun e w' => ∃ v : Int, 0 ≤ v ∧ e = .returned (.int .i64 v) ∧ Below w.heap.size w w' :=
  (compare_any s t m k w h1 h2).mono fun _ _ ⟨he, hb⟩ => ⟨cmpN m k, by unfold cmpN; rw [if_neg (by omega)]; split <;> omega, he, hb⟩

/-- The built-in copy of one word into a new block. -/
theorem copy_one (b off c : Nat) (x : Int) (w : World) (h : w.cell? ⟨b, off, none⟩ = some (.int .u64 x)) :
    (Builtin.copy_ #[37, 37] 3 #[.slice (some ⟨w.heap.size, 0, none⟩) 1 1, .slice (some ⟨b, off, none⟩) 1 c]).run Tryz.prog (w.alloc (.cells #[.int .u64 0] 59)) =
      .ok (.int .i64 1) (w.alloc (.cells #[.int .u64 x] 59)) := by
  refine (run_copy_cells (P := Tryz.prog) (w.alloc (.cells #[.int .u64 0] 59)) _ _ _ 59 w.heap.size 0 1 1 ⟨b, off, none⟩ 1 c [.int .u64 x] Tryz.underlying37 (by kernel_rfl) (by rfl) ?_ ?_ ?_ ?_).trans ?_
  · intro j v hj
    match j, hj with
    | 0, hj =>
      simp at hj; subst hj
      exact (World.cell?_alloc_lt w _ ⟨b, off, none⟩ (block_lt_of_cell h)).trans h
  · intro j hj
    have : j = 0 := by simpa using hj
    subst this; simp [World.cell?_alloc_new]
  · intro j hj
    have : j = 0 := by simpa using hj
    subst this; go_simp
  · simp [Value.oneCell']
  · simp only [World.setCells]
    go_simp

set_option maxRecDepth 100000 in
set_option maxHeartbeats 800000 in
theorem over_small (s t : Sl) (m k : Nat) (w : World) (h1 : NatAt w s m) (h2 : NatAt w t k) (hm : m < B64) (hk : 0 < k) :
    Calls Tryz.prog 77 #[.slice s.A s.n s.c, .slice t.A t.n t.c] w (RetNat2 (m / k) (m % k) w) := by
  rcases Nat.lt_or_ge m k with hlt | hge
  · have C := Lib.hid (compare_lt s t m k w h1 h2 hlt)
    have e1 : m / k = 0 := Nat.div_eq_of_lt hlt
    have e2 : m % k = m := Nat.mod_eq_of_lt hlt
    rw [e1, e2]
    have H := Lib.hid h1
    obtain ⟨A, n, c⟩ := s
    obtain ⟨A', n', c'⟩ := t
    clear e1 e2 h1 h2 hm
    simp only
    go_enter Tryz.func77, Tryz.ntmps77
    go_wp2_with fail
    refine (C.out).mono ?_
    rintro e w1 ⟨rfl, hb⟩
    go_wp2_with fail
    go_ret2
    exact ⟨⟨none, 0, 0⟩, ⟨A, n, c⟩, rfl, NatAt.nil _ _ _ (by omega), H.out.below hb, hb⟩
  · have C := Lib.hid (compare_ge s t m k w h1 h2 hge)
    rcases h1.cases_small hm with ⟨h0, _⟩ | ⟨h0, hn, b, off, hA, hc⟩
    · omega
    · rcases h2.cases_small (by omega) with ⟨k0, _⟩ | ⟨k0, hn', b', off', hA', hc'⟩
      · omega
      · obtain ⟨hle, hl1⟩ := h1.cap
        have hl2 := h2.cap.2
        obtain ⟨A, n, c⟩ := s
        obtain ⟨A', n', c'⟩ := t
        simp only at hA hn hA' hn' hl1 hl2 hle ⊢
        subst hA hn hA' hn'
        have HM := Lib.hid hm
        clear h1 h2 h0 k0 hm
        go_enter Tryz.func77, Tryz.ntmps77
        go_wp2_with fail
        refine (C.out).mono ?_
        rintro e w1 ⟨v, hv, rfl, hb⟩
        have c1 := below_keep hb _ _ _ hc
        have c2 := below_keep hb _ _ _ hc'
        have hmk : ∀ W : World, (Instr.makeSlice 37 (.int .i64 1) (.int .i64 1)).run Tryz.prog W = .ok (.slice (some ⟨W.heap.size, 0, none⟩) 1 1) (W.alloc (.cells #[.int .u64 0] 59)) := fun _ => by kernel_rfl
        have cp := copy_one b off c (m : Int) w1 c1
        have q1 : b < w1.heap.size := block_lt_of_cell c1
        have q2 : b' < w1.heap.size := block_lt_of_cell c2
        have DV := divideBy_one w1.heap.size 0 1 (m : Int) (k : Int) (by unfold Word; have := HM.out; unfold B64 at this; omega) (by unfold Word; have := HM.out; unfold B64 at this; omega) (by omega) (w1.alloc (.cells #[.int .u64 (m : Int)] 59)) (by go_simp) (by go_simp)
        have HDV := Lib.hid DV
        clear DV
        go_wp2_with fail
        refine (HDV.out).mono ?_
        rintro e w2 ⟨rfl, w3, hb3, rfl⟩
        have hb4 : Below w1.heap.size w1 (w3.setCell ⟨w1.heap.size, 0, none⟩ (.int .u64 ((m : Int) / (k : Int)))) :=
          (((Below.refl _ _).alloc (Nat.le_refl _) _).trans (hb3.mono (by simp))).setCell (Nat.le_refl _) _
        have hc4 : (w3.setCell ⟨w1.heap.size, 0, none⟩ (.int .u64 ((m : Int) / (k : Int)))).cell? ⟨w1.heap.size, 0, none⟩ = some (.int .u64 ((m : Int) / (k : Int))) := by
          refine World.cell?_setCell_same' _ _ _ ?_
          rw [hb3.cell (p := ⟨w1.heap.size, 0, none⟩) (by simp)]
          simp [World.cell?_alloc_new]
        generalize w3.setCell ⟨w1.heap.size, 0, none⟩ (.int .u64 ((m : Int) / (k : Int))) = w4 at *
        have q0 : (0 : Int) ≤ (m : Int) / (k : Int) := Int.ediv_nonneg (by omega) (by omega)
        have q3 : (m : Int) / (k : Int) ≤ (m : Int) := Int.ediv_le_self _ (by omega)
        have q4 : (0 : Int) ≤ (m : Int) % (k : Int) := Int.emod_nonneg _ (by omega)
        have q5 : (m : Int) % (k : Int) < (k : Int) := Int.emod_lt_of_pos _ (by omega)
        have HT := Lib.hid (trimmed_any ⟨some ⟨w1.heap.size, 0, none⟩, 1, 1⟩ (m / k) w4 ⟨[(m : Int) / (k : Int)], by
          intro x hx
          have : x = (m : Int) / (k : Int) := by simpa using hx
          subst this; unfold Word; have := HM.out; unfold B64 at this; omega, by
          simp only [val, Nat.mul_zero, Nat.add_zero]; rw [← Int.natCast_ediv, Int.toNat_natCast], rfl, ⟨Nat.le_refl _, by simp⟩, fun _ => ⟨w1.heap.size, 0, rfl, fun i x hx => by
            match i, hx with
            | 0, hx => simp at hx; subst hx; exact hc4⟩⟩)
        have HWD := fun W => Lib.hid (word_any ((m : Int) % (k : Int)) (by unfold Word; have := HM.out; unfold B64 at this; omega) W)
        clear q0 q3 q4 q5 hb3 hmk cp HDV hc4 hc hc' c1 c2 q1 q2
        go_wp2_with fail
        refine (HT.out).mono ?_
        rintro e w5 ⟨k', hk', rfl, hN, rfl⟩
        go_wp2_with fail
        refine ((HWD _).out).mono ?_
        rintro e w6 ⟨s2, rfl, hN2, hb6⟩
        go_wp2_with fail
        go_ret2
        refine ⟨⟨_, k', 1⟩, s2, rfl, hN.below hb6, ?_, (hb.trans (hb4.mono hb.size)).trans (hb6.mono (Nat.le_trans hb.size hb4.size))⟩
        rwa [← Int.natCast_emod, Int.toNat_natCast] at hN2
end Go.Proofs.YteicddmekhdjeaaGreatDoor

/- Small integers of package number: their leaves. -/
namespace Go.Proofs.YteicddmekhdjeaaGreatDoor
open Go.RowKit Go.Sort

theorem wordDivisor_any (x0 y0 : Int) (hx : Word x0) (hy : Word y0) (w : World) :
    Calls Tryz.prog 75 #[.int .u64 x0, .int .u64 y0] w fun e w' => e = .returned (.int .u64 (Nat.gcd x0.toNat y0.toNat)) ∧ Below w.heap.size w w' := by
  unfold Word at hx hy
  go_enter Tryz.func75, Tryz.ntmps75
  go_wp2
  go_loopw [0, 1] (fun u v wr => ∃ x y : Nat, u = .int .u64 x ∧ v = .int .u64 y ∧ x < 18446744073709551616 ∧ y < 18446744073709551616 ∧ Nat.gcd x y = Nat.gcd x0.toNat y0.toNat ∧ Below w.heap.size w wr) (fun _ v _ => (intOf v).toNat)
  case atStart =>
    refine ⟨x0.toNat, y0.toNat, ?_, ?_, by omega, by omega, rfl, by go_grown⟩
    · rw [Int.toNat_of_nonneg hx.1]
    · rw [Int.toNat_of_nonneg hy.1]
  case round =>
    obtain ⟨x, y, rfl, rfl, hx, hy, hg, hb⟩ := hrel
    rcases Nat.eq_zero_or_pos y with h0 | h0
    · subst h0
      rw [Nat.gcd_zero_right] at hg
      subst hg
      go_wp2_with fail
      go_ret
      exact ⟨rfl, hb⟩
    · have yb : ((y : Int) == 0) = false := by rw [beq_eq_false_iff_ne]; omega
      have yn : ((y : Int) != 0) = true := by rw [bne, yb]; rfl
      have y2 : ¬ (y : Int) = 0 := by omega
      have r1 : x % y < y := Nat.mod_lt _ h0
      go_wp2_with fail
      refine wp_region_quiet_below (by kernel_rfl) (by kernel_rfl) ?_
      repeat (go_big_quiet_step (fail))
      refine wpQuiet_nil ?_
      intro _ hw'
      obtain ⟨⟨dq, osq⟩, hw''⟩ := hw'
      subst hw''
      go_wp2_with fail
      go_round
      case rel => exact ⟨y, x % y, rfl, by simp, hy, by omega, by rw [← hg, Nat.gcd_comm x y, Nat.gcd_rec y x, Nat.gcd_comm], hb.trans ((below_regrown wr dq osq).mono hb.size)⟩
      case measure => simp [intOf]; omega


/-- A small integer's value. -/
def SI (z : Int) : Value := .agg #[.int .i64 z, .slice none 0 0]
def Small (z : Int) : Prop := -9223372036854775808 < z ∧ z < 9223372036854775808

theorem isSmall_any (z : Int) (w : World) : Calls Tryz.prog 44 #[SI z] w fun e w' => e = .returned (.bool true) ∧ Below w.heap.size w w' := by
  unfold SI
  have hnil : ∀ W, (binOp .eql 37 (.slice none 0 0) (.slice none 0 0)).run Tryz.prog W = .ok (.bool true) W := fun W => Lib.run_eql_slice_nil W _ _ none 0 0 0 0 Tryz.underlying37
  go_enter Tryz.func44, Tryz.ntmps44
  go_wp2
  go_ret
  exact ⟨rfl, by go_grown⟩

theorem isZero_any (z : Int) (w : World) : Calls Tryz.prog 43 #[SI z] w fun e w' => e = .returned (.bool (z == 0)) ∧ Below w.heap.size w w' := by
  unfold SI
  go_enter Tryz.func43, Tryz.ntmps43
  go_wp2
  go_ret
  exact ⟨rfl, by go_grown⟩

theorem negated_any (z : Int) (hz : Small z) (w : World) : Calls Tryz.prog 39 #[SI z] w fun e w' => e = .returned (SI (-z)) ∧ Below w.heap.size w w' := by
  unfold SI
  unfold Small at hz
  have e1 : IntKind.i64.wrap (-z) = -z := IntWalk.i64_in _ (by omega)
  go_enter Tryz.func39, Tryz.ntmps39
  go_wp2
  go_returns
  exact ⟨rfl, by go_grown⟩

theorem smallSize_any (z : Int) (hz : Small z) (w : World) : Calls Tryz.prog 46 #[SI z] w fun e w' => e = .returned (.int .u64 z.natAbs) ∧ Below w.heap.size w w' := by
  unfold SI
  unfold Small at hz
  by_cases h : z < 0
  · have e1 : (z.natAbs : Int) = -z := by omega
    have hb : decide (z < 0) = true := by simpa using h
    rw [e1]
    go_enter Tryz.func46, Tryz.ntmps46
    go_wp2
    go_ret
    exact ⟨rfl, by go_grown⟩
  · have e1 : (z.natAbs : Int) = z := by omega
    have hb : decide (z < 0) = false := by simpa using h
    rw [e1]
    go_enter Tryz.func46, Tryz.ntmps46
    go_wp2
    go_ret
    exact ⟨rfl, by go_grown⟩

end Go.Proofs.YteicddmekhdjeaaGreatDoor

/- Small integers of package number: made of ints and of words. -/
namespace Go.Proofs.YteicddmekhdjeaaGreatDoor
open Go.RowKit Go.Sort

theorem of_small (z : Int) (hz : Small z) (w : World) : Calls Tryz.prog 10 #[.int .i64 z] w fun e w' => e = .returned (SI z) ∧ Below w.heap.size w w' := by
  unfold SI
  unfold Small at hz
  have e1 : (z == -9223372036854775808) = false := by rw [beq_eq_false_iff_ne]; omega
  go_enter Tryz.func10, Tryz.ntmps10
  go_wp2
  go_returns
  exact ⟨rfl, by go_grown⟩

theorem isOne_any (z : Int) (w : World) : Calls Tryz.prog 41 #[SI z] w fun e w' => e = .returned (.bool (z == 1)) ∧ Below w.heap.size w w' := by
  have hS : ∀ W : World, Calls Tryz.prog 44 #[.agg #[.int .i64 z, .slice none 0 0]] W fun e w' => e = .returned (.bool true) ∧ Below W.heap.size W w' := fun W => isSmall_any z W
  unfold SI
  cases h : z == 1
  · go_enter Tryz.func41, Tryz.ntmps41
    go_wp2
    go_ret
    exact ⟨rfl, by go_grown⟩
  · go_enter Tryz.func41, Tryz.ntmps41
    go_wp2_with fail
    refine (hS _).mono ?_
    rintro e w' ⟨rfl, hb⟩
    go_wp2_with fail
    go_ret
    exact ⟨rfl, ((Below.refl _ w).alloc (Nat.le_refl _) _).trans (hb.mono (by simp))⟩

theorem newWords_small (neg : Bool) (m : Nat) (hm : m < 9223372036854775808) (w : World) : Calls Tryz.prog 47 #[.bool neg, .int .u64 0, .int .u64 m] w fun e w' => e = .returned (SI (if neg then -(m : Int) else m)) ∧ Below w.heap.size w w' := by
  unfold SI
  have e1 : decide ((9223372036854775807 : Int) < (m : Int)) = false := by simp; omega
  have e2 : IntKind.i64.wrap (m : Int) = m := IntWalk.i64_in _ (by omega)
  have e3 : IntKind.i64.wrap (-(m : Int)) = -(m : Int) := IntWalk.i64_in _ (by omega)
  cases neg
  · go_enter Tryz.func47, Tryz.ntmps47
    go_wp2
    go_returns
    exact ⟨by simp, by go_grown⟩
  · go_enter Tryz.func47, Tryz.ntmps47
    go_wp2
    go_returns
    exact ⟨by simp, by go_grown⟩

end Go.Proofs.YteicddmekhdjeaaGreatDoor

/- Signs of int64 by their bits: whether a sum runs over. -/
namespace Go.Proofs.YteicddmekhdjeaaGreatDoor
open Go.RowKit Go.Sort

theorem neg_iff (v : BitVec 64) : (IntKind.i64.wrap (v.toNat : Int) < 0) ↔ v.msb = true := by
  rw [BitVec.msb_eq_decide, IntKind.wrap_i64]
  have := v.isLt
  simp only [decide_eq_true_eq]
  omega
theorem ofInt_wrap (v : BitVec 64) : BitVec.ofInt 64 (IntKind.i64.wrap (v.toNat : Int)) = v := by
  apply BitVec.eq_of_toNat_eq
  rw [BitVec.toNat_ofInt, IntKind.wrap_i64]
  have := v.isLt
  omega
theorem msb_ofInt (a : Int) (h1 : -9223372036854775808 ≤ a) (h2 : a < 9223372036854775808) : (BitVec.ofInt 64 a).msb = decide (a < 0) := by
  rw [BitVec.msb_eq_decide, BitVec.toNat_ofInt]
  rw [decide_eq_decide]
  omega
/-- The bits that tell whether a sum of int64 runs over: it does not. -/
theorem over_bits (a b : Int) (ha : Small a) (hb : Small b) (hs : Small (a + b)) : decide (bits .and .i64 (bits .xor .i64 a (a + b)) (bits .xor .i64 b (a + b)) < 0) = false := by
  unfold Small at *
  rw [decide_eq_false_iff_not]
  show ¬ IntKind.i64.wrap ((BitVec.ofInt 64 (IntKind.i64.wrap ((BitVec.ofInt 64 a ^^^ BitVec.ofInt 64 (a + b)).toNat : Int)) &&& BitVec.ofInt 64 (IntKind.i64.wrap ((BitVec.ofInt 64 b ^^^ BitVec.ofInt 64 (a + b)).toNat : Int))).toNat : Int) < 0
  rw [neg_iff, ofInt_wrap, ofInt_wrap, BitVec.msb_and, BitVec.msb_xor, BitVec.msb_xor, msb_ofInt a (by omega) (by omega), msb_ofInt b (by omega) (by omega), msb_ofInt (a + b) (by omega) (by omega)]
  by_cases h1 : a < 0 <;> by_cases h2 : b < 0 <;> by_cases h3 : a + b < 0 <;> simp [h1, h2, h3] <;> omega
end Go.Proofs.YteicddmekhdjeaaGreatDoor

/- Small integers of package number: signs, comparisons, sums. -/
namespace Go.Proofs.YteicddmekhdjeaaGreatDoor
open Go.RowKit Go.Sort

/-- A boxed small integer. -/
def BoxI (w : World) (g : Nat) (z : Int) : Prop := w.heap[g]? = some (.cells #[.int .i64 z, .slice none 0 0] 39 (0, 0))
theorem BoxI.lt {w : World} {g : Nat} {z : Int} (h : BoxI w g z) : g < w.heap.size := (Array.getElem?_eq_some_iff.1 h).1
theorem BoxI.new (w : World) (z : Int) : BoxI (w.alloc (.cells #[.int .i64 z, .slice none 0 0] 39)) w.heap.size z := heap_alloc_new _ _
theorem BoxI.alloc {w : World} {g : Nat} {z : Int} (h : BoxI w g z) (o : Obj) : BoxI (w.alloc o) g z := (Below.heap_alloc w o g h.lt).trans h
theorem BoxI.below {w w' : World} {g : Nat} {z : Int} (h : BoxI w g z) {B : Nat} (hb : Below B w w') (hg : g < B) : BoxI w' g z := (hb.block g hg).trans h
theorem BoxI.cells {w : World} {g : Nat} {z : Int} (h : BoxI w g z) : w.cell? ⟨g, 0, none⟩ = some (.int .i64 z) ∧ w.cell? ⟨g, 1, none⟩ = some (.slice none 0 0) := by
  constructor
  · rw [cell_of_row w g 0 _ _ (0, 0) h]; rfl
  · rw [cell_of_row w g 1 _ _ (0, 0) h]; rfl
theorem BoxI.frozen {w : World} {g : Nat} {z : Int} (h : BoxI w g z) (i : Nat) : w.frozen? ⟨g, i, none⟩ = false := by simp [World.frozen?, show w.heap[g]? = _ from h]

def cmpI (a b : Int) : Int := if a < b then -1 else if b < a then 1 else 0
theorem isNaN_any (a : Int) (w : World) : Calls Tryz.prog 99 #[.int .i64 a] w fun e w' => e = .returned (.bool false) ∧ Below w.heap.size w w' := by
  have h1 : (a != a) = false := by simp
  go_enter Tryz.func99, Tryz.ntmps99
  go_wp2
  go_ret
  exact ⟨rfl, by go_grown⟩
theorem cmp_any (a b : Int) (w : World) : Calls Tryz.prog 74 #[.int .i64 a, .int .i64 b] w fun e w' => e = .returned (.int .i64 (cmpI a b)) ∧ Below w.heap.size w w' := by
  have HA := fun W => Lib.hid (isNaN_any a W)
  have HB := fun W => Lib.hid (isNaN_any b W)
  unfold cmpI
  by_cases h1 : a < b
  · rw [if_pos h1]
    go_enter Tryz.func74, Tryz.ntmps74
    go_wp2_with fail
    refine ((HA _).out).mono ?_
    rintro e w1 ⟨rfl, hb1⟩
    go_wp2_with fail
    refine ((HB _).out).mono ?_
    rintro e w2 ⟨rfl, hb2⟩
    go_wp2_with fail
    go_ret
    exact ⟨rfl, hb1.trans (hb2.mono hb1.size)⟩
  · rw [if_neg h1]
    by_cases h2 : b < a
    · rw [if_pos h2]
      go_enter Tryz.func74, Tryz.ntmps74
      go_wp2_with fail
      refine ((HA _).out).mono ?_
      rintro e w1 ⟨rfl, hb1⟩
      go_wp2_with fail
      refine ((HB _).out).mono ?_
      rintro e w2 ⟨rfl, hb2⟩
      go_wp2_with fail
      go_ret
      exact ⟨rfl, hb1.trans (hb2.mono hb1.size)⟩
    · rw [if_neg h2]
      go_enter Tryz.func74, Tryz.ntmps74
      go_wp2_with fail
      refine ((HA _).out).mono ?_
      rintro e w1 ⟨rfl, hb1⟩
      go_wp2_with fail
      refine ((HB _).out).mono ?_
      rintro e w2 ⟨rfl, hb2⟩
      go_wp2_with fail
      go_ret
      exact ⟨rfl, hb1.trans (hb2.mono hb1.size)⟩

theorem sign_any (z : Int) (w : World) : Calls Tryz.prog 38 #[SI z] w fun e w' => e = .returned (.int .i64 (cmpI z 0)) ∧ Below w.heap.size w w' := by
  have HC := fun W => Lib.hid (cmp_any z 0 W)
  unfold SI
  go_enter Tryz.func38, Tryz.ntmps38
  go_wp2_with fail
  refine ((HC _).out).mono ?_
  rintro e w1 ⟨rfl, hb1⟩
  go_wp2_with fail
  go_ret
  exact ⟨rfl, ((Below.refl _ w).alloc (Nat.le_refl _) _).trans (hb1.mono (by simp))⟩

end Go.Proofs.YteicddmekhdjeaaGreatDoor

/- The library's Mul64 at this program: a product that fits a word. -/
namespace Go.Proofs
open Go.Shelf
def Tryz.lays264_ren : Go.Shelf.Ren := ⟨fun | 264 => 45 | n => n, fun | 53 => 59 | 46 => 122 | n => n, fun | n => n⟩
theorem Tryz.lays264 : Go.Proofs.Lays.n264 Tryz.prog Tryz.lays264_ren := {
  mixed := by kernel_rfl
  f264 := Tryz.func45.trans (congrArg some (by kernel_rfl))
  t46 := Tryz.underlying122
  a46 := Tryz.isAgg122
  z46 := Tryz.sizeOf122
  v46 := Tryz.zeroValue122
  t53 := Tryz.underlying59
  a53 := Tryz.isAgg59
  z53 := Tryz.sizeOf59
  v53 := Tryz.zeroValue59 }
namespace YteicddmekhdjeaaGreatDoor
open Go.RowKit Go.Shelf
/-- A product that fits a word: its upper half is 0. -/
theorem mul64_fits (x y : Nat) (hx : x < 18446744073709551616) (hy : y < 18446744073709551616) (h : x * y < 18446744073709551616) (w : World) :
    Calls Tryz.prog 45 #[.int .u64 x, .int .u64 y] w fun e w' => e = .returned (.tuple #[.int .u64 0, .int .u64 ((x * y : Nat) : Int)]) ∧ Below w.heap.size w w' := by
  refine (Any.bits_Mul64 Tryz.lays264 x y hx hy w).mono fun e w' ⟨he, hw⟩ => ⟨?_, by rw [hw]; exact Below.refl _ _⟩
  rw [he, Nat.div_eq_of_lt h, Nat.mod_eq_of_lt h]
  rfl
end YteicddmekhdjeaaGreatDoor
end Go.Proofs

/- Small integers of package number: sums, products, quotients, divisors. -/
namespace Go.Proofs.YteicddmekhdjeaaGreatDoor
open Go.RowKit Go.Sort

theorem BoxI.put {w : World} {g : Nat} {z : Int} (h : BoxI w g z) (y : Int) : BoxI ((w.setCell ⟨g, 0, none⟩ (.int .i64 y)).setCell ⟨g, 1, none⟩ (.slice none 0 0)) g y := by
  have e : w.heap[g]? = _ := h
  unfold BoxI
  simp [World.setCell, Array.getElem?_modify, e]
/-- Two integers in boxes and a result that is 0. -/
structure Open2 (w w' : World) (n : Nat) (a b : Int) : Prop where
  A : BoxI w' n a
  B : BoxI w' (n + 1) b
  R : ∃ r, BoxI w' (n + 1 + 1) r
  bel : Below n w w'
theorem Open2.new (w : World) (a b : Int) : Open2 w (((w.alloc (.cells #[.int .i64 a, .slice none 0 0] 39)).alloc (.cells #[.int .i64 b, .slice none 0 0] 39)).alloc (.cells #[.int .i64 0, .slice none 0 0] 39)) w.heap.size a b := by
  refine ⟨((BoxI.new w a).alloc _).alloc _, ?_, ⟨0, ?_⟩, (((Below.refl _ _).alloc (Nat.le_refl _) _).alloc (by simp) _).alloc (by simp; omega) _⟩
  · have h := (BoxI.new (w.alloc (.cells #[.int .i64 a, .slice none 0 0] 39)) b).alloc (.cells #[.int .i64 0, .slice none 0 0] 39)
    rw [World.size_alloc] at h
    exact h
  · have h := BoxI.new ((w.alloc (.cells #[.int .i64 a, .slice none 0 0] 39)).alloc (.cells #[.int .i64 b, .slice none 0 0] 39)) 0
    rw [World.size_alloc, World.size_alloc] at h
    exact h
theorem Open2.below {w w1 w2 : World} {n : Nat} {a b : Int} (h : Open2 w w1 n a b) (hb : Below w1.heap.size w1 w2) : Open2 w w2 n a b := by
  obtain ⟨r, hr⟩ := h.R
  have := hr.lt
  exact ⟨h.A.below hb (by omega), h.B.below hb (by omega), ⟨r, hr.below hb (by omega)⟩, h.bel.trans (hb.mono (by omega))⟩
/-- The cells that are read. -/
theorem Open2.cells {w w' : World} {n : Nat} {a b : Int} (h : Open2 w w' n a b) :
    w'.cell? ⟨n, 0, none⟩ = some (.int .i64 a) ∧ w'.cell? ⟨n, 1, none⟩ = some (.slice none 0 0) ∧ w'.cell? ⟨n + 1, 0, none⟩ = some (.int .i64 b) ∧ w'.cell? ⟨n + 1, 1, none⟩ = some (.slice none 0 0) :=
  ⟨h.A.cells.1, h.A.cells.2, h.B.cells.1, h.B.cells.2⟩
theorem Open2.res {w w' : World} {n : Nat} {a b : Int} (h : Open2 w w' n a b) :
    ∃ r, w'.cell? ⟨n + 1 + 1, 0, none⟩ = some (.int .i64 r) ∧ w'.cell? ⟨n + 1 + 1, 1, none⟩ = some (.slice none 0 0) ∧ w'.frozen? ⟨n + 1 + 1, 0, none⟩ = false ∧ w'.frozen? ⟨n + 1 + 1, 1, none⟩ = false :=
  let ⟨r, hr⟩ := h.R; ⟨r, hr.cells.1, hr.cells.2, hr.frozen 0, hr.frozen 1⟩
theorem BoxI.far {w : World} {g : Nat} {z : Int} (h : BoxI w g z) {p : Addr} (hp : g ≠ p.block) (u : Value) : BoxI (w.setCell p u) g z := (Below.heap_setCell w p u g hp).trans h
theorem Open2.stored {w w' : World} {n : Nat} {a b : Int} (h : Open2 w w' n a b) (y : Int) : Open2 w ((w'.setCell ⟨n + 1 + 1, 0, none⟩ (.int .i64 y)).setCell ⟨n + 1 + 1, 1, none⟩ (.slice none 0 0)) n a b := by
  obtain ⟨r, hr⟩ := h.R
  exact ⟨(h.A.far (by show n ≠ n + 1 + 1; omega) _).far (by show n ≠ n + 1 + 1; omega) _, (h.B.far (by show n + 1 ≠ n + 1 + 1; omega) _).far (by show n + 1 ≠ n + 1 + 1; omega) _, ⟨y, hr.put y⟩, (h.bel.setCell (by show n ≤ n + 1 + 1; omega) _).setCell (by show n ≤ n + 1 + 1; omega) _⟩
/-- The result is stored. -/
theorem Open2.put {w w' : World} {n : Nat} {a b : Int} (h : Open2 w w' n a b) (y : Int) :
    (((w'.setCell ⟨n + 1 + 1, 0, none⟩ (.int .i64 y)).setCell ⟨n + 1 + 1, 1, none⟩ (.slice none 0 0)).cell? ⟨n + 1 + 1, 0, none⟩ = some (.int .i64 y)) ∧
    (((w'.setCell ⟨n + 1 + 1, 0, none⟩ (.int .i64 y)).setCell ⟨n + 1 + 1, 1, none⟩ (.slice none 0 0)).cell? ⟨n + 1 + 1, 1, none⟩ = some (.slice none 0 0)) ∧
    Below n w ((w'.setCell ⟨n + 1 + 1, 0, none⟩ (.int .i64 y)).setCell ⟨n + 1 + 1, 1, none⟩ (.slice none 0 0)) :=
  let ⟨_, hr⟩ := h.R; ⟨(hr.put y).cells.1, (hr.put y).cells.2, (h.bel.setCell (by show n ≤ n + 1 + 1; omega) _).setCell (by show n ≤ n + 1 + 1; omega) _⟩

abbrev IsSm (z : Int) : Prop := ∀ W : World, Calls Tryz.prog 44 #[.agg #[.int .i64 z, .slice none 0 0]] W fun e w' => e = .returned (.bool true) ∧ Below W.heap.size W w'
theorem isSm (z : Int) : IsSm z := fun W => isSmall_any z W

set_option maxHeartbeats 800000 in
theorem plus_small (a b : Int) (ha : Small a) (hb : Small b) (hs : Small (a + b)) (w : World) : Calls Tryz.prog 52 #[SI a, SI b] w fun e w' => e = .returned (SI (a + b)) ∧ Below w.heap.size w w' := by
  have HA := fun W => Lib.hid (isSm a W)
  have HB := fun W => Lib.hid (isSm b W)
  have e1 : IntKind.i64.wrap (a + b) = a + b := by unfold Small at hs; exact IntWalk.i64_in _ (by omega)
  have e2 := over_bits a b ha hb hs
  have e3 : ((a + b) == -9223372036854775808) = false := by unfold Small at hs; rw [beq_eq_false_iff_ne]; omega
  have e4 : ((a + b) != -9223372036854775808) = true := by rw [bne, e3]; rfl
  unfold SI
  generalize hn : w.heap.size = n
  have O0 := Open2.new w a b
  rw [hn] at O0
  clear ha hb hs
  go_enter Tryz.func52, Tryz.ntmps52
  go_upto_region 1 with (fail)
  generalize (((w.alloc (.cells #[.int .i64 a, .slice none 0 0] 39)).alloc (.cells #[.int .i64 b, .slice none 0 0] 39)).alloc (.cells #[.int .i64 0, .slice none 0 0] 39)) = w0 at *
  obtain ⟨a0, a1, b0, b1⟩ := O0.cells
  go_wp2_with fail
  refine ((HA _).out).mono ?_
  rintro e w1 ⟨rfl, hb1⟩
  have O1 := O0.below hb1
  clear a0 a1 b0 b1 O0 hb1
  obtain ⟨a0, a1, b0, b1⟩ := O1.cells
  go_wp2_with fail
  refine ((HB _).out).mono ?_
  rintro e w2 ⟨rfl, hb2⟩
  have O2 := O1.below hb2
  clear a0 a1 b0 b1 O1 hb2
  obtain ⟨a0, a1, b0, b1⟩ := O2.cells
  obtain ⟨_, r0, r1, f0, f1⟩ := O2.res
  obtain ⟨p0, p1, pb⟩ := O2.put (a + b)
  go_wp2_with fail
  refine bodyPost_ret (v := .agg #[.int .i64 (a + b), .slice none 0 0]) (by simp [results, Tryz.results52, go_sem, p0, p1]) rfl ?_
  exact ⟨rfl, pb⟩

theorem ss_any (z : Int) (hz : Small z) : ∀ W : World, Calls Tryz.prog 46 #[.agg #[.int .i64 z, .slice none 0 0]] W fun e w' => e = .returned (.int .u64 z.natAbs) ∧ Below W.heap.size W w' := fun W => smallSize_any z hz W
set_option maxHeartbeats 800000 in
theorem times_small (a b : Int) (ha : Small a) (hb : Small b) (hs : Small (a * b)) (w : World) : Calls Tryz.prog 24 #[SI a, SI b] w fun e w' => e = .returned (SI (a * b)) ∧ Below w.heap.size w w' := by
  have HA := fun W => Lib.hid (isSm a W)
  have HB := fun W => Lib.hid (isSm b W)
  have hab : a.natAbs * b.natAbs < 9223372036854775808 := by have := Int.natAbs_mul a b; unfold Small at hs; omega
  have ha' : a.natAbs < 9223372036854775808 := by unfold Small at ha; omega
  have hb' : b.natAbs < 9223372036854775808 := by unfold Small at hb; omega
  have SA := fun W d os => Lib.hid (Calls.regrown_of (ss_any a ha (grow (redrawn W d) os)))
  have SB := fun W d os => Lib.hid (Calls.regrown_of (ss_any b hb (grow (redrawn W d) os)))
  have SM := fun W d os => Lib.hid (Calls.regrown_of (mul64_fits a.natAbs b.natAbs (by omega) (by omega) (by omega) (grow (redrawn W d) os)))
  have NW := fun W => Lib.hid (newWords_small (decide (a < 0) != decide (b < 0)) (a.natAbs * b.natAbs) hab W)
  simp only [SI] at NW
  have HV : Hid ((if (decide (a < 0) != decide (b < 0)) = true then -((a.natAbs * b.natAbs : Nat) : Int) else ((a.natAbs * b.natAbs : Nat) : Int)) = a * b) := Lib.hid (by
    have m := Int.natAbs_mul a b
    rw [← m]
    have p := Int.mul_nonneg (a := a) (b := b)
    have q := Int.mul_nonneg_of_nonpos_of_nonpos (a := a) (b := b)
    have r := Int.mul_nonpos_of_nonneg_of_nonpos (a := a) (b := b)
    have s := Int.mul_nonpos_of_nonpos_of_nonneg (a := a) (b := b)
    by_cases h1 : a < 0 <;> by_cases h2 : b < 0 <;> simp [h1, h2] <;> omega)
  generalize a.natAbs * b.natAbs = m at *
  unfold SI
  generalize hn : w.heap.size = n
  have O0 := Open2.new w a b
  rw [hn] at O0
  clear ha hb hs ha' hb' hab
  go_enter Tryz.func24, Tryz.ntmps24
  go_upto_region 1 with (fail)
  generalize (((w.alloc (.cells #[.int .i64 a, .slice none 0 0] 39)).alloc (.cells #[.int .i64 b, .slice none 0 0] 39)).alloc (.cells #[.int .i64 0, .slice none 0 0] 39)) = w0 at *
  obtain ⟨a0, a1, b0, b1⟩ := O0.cells
  go_wp2_with fail
  refine ((HA _).out).mono ?_
  rintro e w1 ⟨rfl, hb1⟩
  have O1 := O0.below hb1
  clear a0 a1 b0 b1 O0 hb1
  obtain ⟨a0, a1, b0, b1⟩ := O1.cells
  go_wp2_with fail
  refine ((HB _).out).mono ?_
  rintro e w2 ⟨rfl, hb2⟩
  have O2 := O1.below hb2
  clear a0 a1 b0 b1 O1 hb2
  obtain ⟨a0, a1, b0, b1⟩ := O2.cells
  go_upto_region 3 with (fail)
  have KA := SA w2
  have KB := SB w2
  have KM := SM w2
  have t0 := cell_regrown a0
  have t1 := cell_regrown a1
  have t2 := cell_regrown b0
  have t3 := cell_regrown b1
  clear SA SB SM a0 a1 b0 b1
  refine wp_region_quiet_below (by kernel_rfl) (by kernel_rfl) ?_
  repeat (go_big_quiet_step (first | (with_reducible exact (KA _ _).out) | (with_reducible exact (KB _ _).out) | (with_reducible exact (KM _ _).out)))
  refine wpQuiet_nil ?_
  intro w3 hw'
  have hbq : Below w2.heap.size w2 w3 := by
    obtain ⟨⟨dq, osq⟩, hw''⟩ := hw'
    subst hw''
    exact below_regrown w2 dq osq
  have O3 := O2.below hbq
  clear hw' hbq t0 t1 t2 t3 KA KB KM O2
  go_wp2_with fail
  refine ((NW _).out).mono ?_
  rintro e w4 ⟨rfl, hb4⟩
  have O4 := O3.below hb4
  rw [HV.out]
  obtain ⟨_, r0, r1, f0, f1⟩ := O4.res
  obtain ⟨p0, p1, pb⟩ := O4.put (a * b)
  clear O3 hb4
  go_wp2_with fail
  refine bodyPost_ret (v := .agg #[.int .i64 (a * b), .slice none 0 0]) (by simp [results, Tryz.results24, go_sem, p0, p1]) rfl ?_
  exact ⟨rfl, pb⟩

set_option maxHeartbeats 800000 in
theorem dividedBy_small (a b : Int) (hb0 : b ≠ 0) (hs : Small (a.tdiv b)) (w : World) : Calls Tryz.prog 42 #[SI a, SI b] w fun e w' => e = .returned (SI (a.tdiv b)) ∧ Below w.heap.size w w' := by
  have HA := fun W => Lib.hid (isSm a W)
  have HB := fun W => Lib.hid (isSm b W)
  have e1 : IntKind.i64.wrap (a.tdiv b) = a.tdiv b := by unfold Small at hs; exact IntWalk.i64_in _ (by omega)
  have e2 : (b == 0) = false := by rw [beq_eq_false_iff_ne]; exact hb0
  unfold SI
  generalize hn : w.heap.size = n
  have O0 := Open2.new w a b
  rw [hn] at O0
  clear hs
  go_enter Tryz.func42, Tryz.ntmps42
  go_upto_region 1 with (fail)
  generalize (((w.alloc (.cells #[.int .i64 a, .slice none 0 0] 39)).alloc (.cells #[.int .i64 b, .slice none 0 0] 39)).alloc (.cells #[.int .i64 0, .slice none 0 0] 39)) = w0 at *
  obtain ⟨a0, a1, b0, b1⟩ := O0.cells
  go_wp2_with fail
  refine ((HA _).out).mono ?_
  rintro e w1 ⟨rfl, hb1⟩
  have O1 := O0.below hb1
  clear a0 a1 b0 b1 O0 hb1
  obtain ⟨a0, a1, b0, b1⟩ := O1.cells
  go_wp2_with fail
  refine ((HB _).out).mono ?_
  rintro e w2 ⟨rfl, hb2⟩
  have O2 := O1.below hb2
  clear a0 a1 b0 b1 O1 hb2
  obtain ⟨a0, a1, b0, b1⟩ := O2.cells
  obtain ⟨_, r0, r1, f0, f1⟩ := O2.res
  obtain ⟨p0, p1, pb⟩ := O2.put (a.tdiv b)
  go_wp2_with fail
  refine bodyPost_ret (v := .agg #[.int .i64 (a.tdiv b), .slice none 0 0]) (by simp [results, Tryz.results42, go_sem, p0, p1]) rfl ?_
  exact ⟨rfl, pb⟩

theorem Open2.held {w w' : World} {n : Nat} {a b : Int} (h : Open2 w w' n a b) :
    w'.cell? ⟨n, 0, none⟩ = some (.int .i64 a) ∧ w'.cell? ⟨n, 1, none⟩ = some (.slice none 0 0) ∧ w'.cell? ⟨n + 1, 0, none⟩ = some (.int .i64 b) ∧ w'.cell? ⟨n + 1, 1, none⟩ = some (.slice none 0 0) ∧ Open2 w w' n a b :=
  ⟨h.A.cells.1, h.A.cells.2, h.B.cells.1, h.B.cells.2, h⟩
theorem keepO_call {w w1 w2 : World} {n : Nat} {a b : Int} (h : w1.cell? ⟨n, 0, none⟩ = some (.int .i64 a) ∧ w1.cell? ⟨n, 1, none⟩ = some (.slice none 0 0) ∧ w1.cell? ⟨n + 1, 0, none⟩ = some (.int .i64 b) ∧ w1.cell? ⟨n + 1, 1, none⟩ = some (.slice none 0 0) ∧ Open2 w w1 n a b) (hb : Below w1.heap.size w1 w2) : w2.cell? ⟨n, 0, none⟩ = some (.int .i64 a) ∧ w2.cell? ⟨n, 1, none⟩ = some (.slice none 0 0) ∧ w2.cell? ⟨n + 1, 0, none⟩ = some (.int .i64 b) ∧ w2.cell? ⟨n + 1, 1, none⟩ = some (.slice none 0 0) ∧ Open2 w w2 n a b := (h.2.2.2.2.below hb).held
theorem Open2.drew {w w' : World} {n : Nat} {a b : Int} (h : Open2 w w' n a b) : Open2 w w'.drew n a b := ⟨h.A, h.B, h.R, h.bel.drew⟩
theorem keepO_drew {w w1 : World} {n : Nat} {a b : Int} (h : w1.cell? ⟨n, 0, none⟩ = some (.int .i64 a) ∧ w1.cell? ⟨n, 1, none⟩ = some (.slice none 0 0) ∧ w1.cell? ⟨n + 1, 0, none⟩ = some (.int .i64 b) ∧ w1.cell? ⟨n + 1, 1, none⟩ = some (.slice none 0 0) ∧ Open2 w w1 n a b) : w1.drew.cell? ⟨n, 0, none⟩ = some (.int .i64 a) ∧ w1.drew.cell? ⟨n, 1, none⟩ = some (.slice none 0 0) ∧ w1.drew.cell? ⟨n + 1, 0, none⟩ = some (.int .i64 b) ∧ w1.drew.cell? ⟨n + 1, 1, none⟩ = some (.slice none 0 0) ∧ Open2 w w1.drew n a b := h.2.2.2.2.drew.held
theorem keepO_put {w w1 : World} {n : Nat} {a b : Int} (y : Int) (h : w1.cell? ⟨n, 0, none⟩ = some (.int .i64 a) ∧ w1.cell? ⟨n, 1, none⟩ = some (.slice none 0 0) ∧ w1.cell? ⟨n + 1, 0, none⟩ = some (.int .i64 b) ∧ w1.cell? ⟨n + 1, 1, none⟩ = some (.slice none 0 0) ∧ Open2 w w1 n a b) : ((w1.setCell ⟨n + 1 + 1, 0, none⟩ (.int .i64 y)).setCell ⟨n + 1 + 1, 1, none⟩ (.slice none 0 0)).cell? ⟨n, 0, none⟩ = some (.int .i64 a) ∧ ((w1.setCell ⟨n + 1 + 1, 0, none⟩ (.int .i64 y)).setCell ⟨n + 1 + 1, 1, none⟩ (.slice none 0 0)).cell? ⟨n, 1, none⟩ = some (.slice none 0 0) ∧ ((w1.setCell ⟨n + 1 + 1, 0, none⟩ (.int .i64 y)).setCell ⟨n + 1 + 1, 1, none⟩ (.slice none 0 0)).cell? ⟨n + 1, 0, none⟩ = some (.int .i64 b) ∧ ((w1.setCell ⟨n + 1 + 1, 0, none⟩ (.int .i64 y)).setCell ⟨n + 1 + 1, 1, none⟩ (.slice none 0 0)).cell? ⟨n + 1, 1, none⟩ = some (.slice none 0 0) ∧ Open2 w ((w1.setCell ⟨n + 1 + 1, 0, none⟩ (.int .i64 y)).setCell ⟨n + 1 + 1, 1, none⟩ (.slice none 0 0)) n a b := (h.2.2.2.2.stored y).held
set_option maxHeartbeats 1600000 in
theorem divisor_small (a b : Int) (ha : Small a) (hb : Small b) (w : World) : Calls Tryz.prog 40 #[SI a, SI b] w fun e w' => e = .returned (SI (Int.gcd a b)) ∧ Below w.heap.size w w' := by
  have HA := fun W => Lib.hid (isSm a W)
  have HB := fun W => Lib.hid (isSm b W)
  have ha' : a.natAbs < 9223372036854775808 := by unfold Small at ha; omega
  have hb' : b.natAbs < 9223372036854775808 := by unfold Small at hb; omega
  have hg : Int.gcd a b < 9223372036854775808 := by
    unfold Int.gcd
    rcases Nat.eq_zero_or_pos a.natAbs with h | h
    · rw [h, Nat.gcd_zero_left]; exact hb'
    · have := Nat.gcd_le_left b.natAbs h; omega
  have SA := fun W => Lib.hid (ss_any a ha W)
  have SB := fun W => Lib.hid (ss_any b hb W)
  have SW := fun W => Lib.hid (wordDivisor_any a.natAbs b.natAbs (by unfold Word; omega) (by unfold Word; omega) W)
  rw [show Nat.gcd (a.natAbs : Int).toNat (b.natAbs : Int).toNat = Int.gcd a b by simp [Int.gcd]] at SW
  have NW := fun W => Lib.hid (newWords_small false (Int.gcd a b) hg W)
  rw [if_neg (by simp)] at NW
  simp only [SI] at NW
  unfold SI
  generalize hn : w.heap.size = n
  have O0 := Open2.new w a b
  rw [hn] at O0
  clear ha hb ha' hb' hg
  go_enter Tryz.func40, Tryz.ntmps40
  go_upto_region 1 with (fail)
  generalize (((w.alloc (.cells #[.int .i64 a, .slice none 0 0] 39)).alloc (.cells #[.int .i64 b, .slice none 0 0] 39)).alloc (.cells #[.int .i64 0, .slice none 0 0] 39)) = w0 at *
  obtain ⟨a0, a1, b0, b1⟩ := O0.cells
  go_wp2_with fail
  refine ((HA _).out).mono ?_
  rintro e w1 ⟨rfl, hb1⟩
  have O1 := O0.below hb1
  clear a0 a1 b0 b1 O0 hb1
  obtain ⟨a0, a1, b0, b1⟩ := O1.cells
  go_wp2_with fail
  refine ((HB _).out).mono ?_
  rintro e w2 ⟨rfl, hb2⟩
  have O2 := O1.below hb2
  clear a0 a1 b0 b1 O1 hb2
  obtain ⟨a0, a1, b0, b1⟩ := O2.cells
  clear a0 a1 b0 b1
  have HH := O2.held
  go_upto_region 2 with (fail)
  go_region_held3 (fun w' => w'.cell? ⟨n, 0, none⟩ = some (.int .i64 a) ∧ w'.cell? ⟨n, 1, none⟩ = some (.slice none 0 0) ∧ w'.cell? ⟨n + 1, 0, none⟩ = some (.int .i64 b) ∧ w'.cell? ⟨n + 1, 1, none⟩ = some (.slice none 0 0) ∧ Open2 w w' n a b)
    (first | assumption | exact hS | exact HH | (refine keepO_drew ?_; first | assumption | exact hS | exact HH) | (refine keepO_put _ ?_; first | assumption | exact hS))
    (first | ((go_at_call 46; (first | (with_reducible refine ((SA _).out).mono ?_) | (with_reducible refine ((SB _).out).mono ?_)); rintro e w' ⟨rfl, hb'⟩; have hS := keepO_call (by assumption) hb')) | ((go_at_call 75; refine ((SW _).out).mono ?_; rintro e w' ⟨rfl, hb'⟩; have hS := keepO_call (by assumption) hb')) | ((go_at_call 47; refine ((NW _).out).mono ?_; rintro e w' ⟨rfl, hb'⟩; have hS := keepO_call (by assumption) hb'; obtain ⟨_, r0, r1, f0, f1⟩ := hS.2.2.2.2.res; obtain ⟨p0, p1, pb⟩ := hS.2.2.2.2.put (Int.gcd a b))))
  go_wp2_with fail
  refine bodyPost_ret (v := .agg #[.int .i64 ((Int.gcd a b : Int)), .slice none 0 0]) (by simp [results, Tryz.results40, go_sem, p0, p1]) rfl ?_
  exact ⟨rfl, pb⟩
end Go.Proofs.YteicddmekhdjeaaGreatDoor

/- Ratios of package number whose parts are small: leaves. -/
namespace Go.Proofs.YteicddmekhdjeaaGreatDoor
open Go.RowKit Go.Sort

/-- A ratio's value: its parts are small. -/
def RV (a d : Int) : Value := .agg #[.int .i64 a, .slice none 0 0, .int .i64 d, .slice none 0 0]
def BoxR (w : World) (g : Nat) (a d : Int) : Prop := w.heap[g]? = some (.cells #[.int .i64 a, .slice none 0 0, .int .i64 d, .slice none 0 0] 41 (0, 0))
theorem BoxR.lt {w : World} {g : Nat} {a d : Int} (h : BoxR w g a d) : g < w.heap.size := (Array.getElem?_eq_some_iff.1 h).1
theorem BoxR.new (w : World) (a d : Int) : BoxR (w.alloc (.cells #[.int .i64 a, .slice none 0 0, .int .i64 d, .slice none 0 0] 41)) w.heap.size a d := heap_alloc_new _ _
theorem BoxR.alloc {w : World} {g : Nat} {a d : Int} (h : BoxR w g a d) (o : Obj) : BoxR (w.alloc o) g a d := (Below.heap_alloc w o g h.lt).trans h
theorem BoxR.below {w w' : World} {g : Nat} {a d : Int} (h : BoxR w g a d) {B : Nat} (hb : Below B w w') (hg : g < B) : BoxR w' g a d := (hb.block g hg).trans h
theorem BoxR.cells {w : World} {g : Nat} {a d : Int} (h : BoxR w g a d) : w.cell? ⟨g, 0, none⟩ = some (.int .i64 a) ∧ w.cell? ⟨g, 1, none⟩ = some (.slice none 0 0) ∧ w.cell? ⟨g, 2, none⟩ = some (.int .i64 d) ∧ w.cell? ⟨g, 3, none⟩ = some (.slice none 0 0) := by
  refine ⟨?_, ?_, ?_, ?_⟩
  · rw [cell_of_row w g 0 _ _ (0, 0) h]; rfl
  · rw [cell_of_row w g 1 _ _ (0, 0) h]; rfl
  · rw [cell_of_row w g 2 _ _ (0, 0) h]; rfl
  · rw [cell_of_row w g 3 _ _ (0, 0) h]; rfl
theorem BoxR.frozen {w : World} {g : Nat} {a d : Int} (h : BoxR w g a d) (i : Nat) : w.frozen? ⟨g, i, none⟩ = false := by simp [World.frozen?, show w.heap[g]? = _ from h]
theorem BoxR.far {w : World} {g : Nat} {a d : Int} (h : BoxR w g a d) {p : Addr} (hp : g ≠ p.block) (u : Value) : BoxR (w.setCell p u) g a d := (Below.heap_setCell w p u g hp).trans h
theorem BoxR.put {w : World} {g : Nat} {a d : Int} (h : BoxR w g a d) (x y : Int) : BoxR ((((w.setCell ⟨g, 0, none⟩ (.int .i64 x)).setCell ⟨g, 1, none⟩ (.slice none 0 0)).setCell ⟨g, 2, none⟩ (.int .i64 y)).setCell ⟨g, 3, none⟩ (.slice none 0 0)) g x y := by
  have e : w.heap[g]? = _ := h
  unfold BoxR
  simp [World.setCell, Array.getElem?_modify, e]

theorem num_any (a d : Int) (w : World) : Calls Tryz.prog 88 #[RV a d] w fun e w' => e = .returned (SI a) ∧ Below w.heap.size w w' := by
  unfold RV SI
  go_enter Tryz.func88, Tryz.ntmps88
  go_wp2
  go_returns
  exact ⟨rfl, by go_grown⟩
/-- The denominator: 0 stands for 1. -/
def denI (d : Int) : Int := if d = 0 then 1 else d
structure Open1 (w w' : World) (n : Nat) (a d : Int) : Prop where
  A : BoxR w' n a d
  R : ∃ r, BoxI w' (n + 1) r
  bel : Below n w w'
theorem Open1.new (w : World) (a d : Int) : Open1 w ((w.alloc (.cells #[.int .i64 a, .slice none 0 0, .int .i64 d, .slice none 0 0] 41)).alloc (.cells #[.int .i64 0, .slice none 0 0] 39)) w.heap.size a d := by
  refine ⟨(BoxR.new w a d).alloc _, ⟨0, ?_⟩, ((Below.refl _ _).alloc (Nat.le_refl _) _).alloc (by simp) _⟩
  have h := BoxI.new (w.alloc (.cells #[.int .i64 a, .slice none 0 0, .int .i64 d, .slice none 0 0] 41)) 0
  rw [World.size_alloc] at h
  exact h
theorem Open1.below {w w1 w2 : World} {n : Nat} {a d : Int} (h : Open1 w w1 n a d) (hb : Below w1.heap.size w1 w2) : Open1 w w2 n a d := by
  obtain ⟨r, hr⟩ := h.R
  have := hr.lt
  exact ⟨h.A.below hb (by omega), ⟨r, hr.below hb (by omega)⟩, h.bel.trans (hb.mono (by omega))⟩
theorem Open1.put {w w' : World} {n : Nat} {a d : Int} (h : Open1 w w' n a d) (y : Int) :
    (∃ r, w'.cell? ⟨n + 1, 0, none⟩ = some (.int .i64 r)) ∧ w'.cell? ⟨n + 1, 1, none⟩ = some (.slice none 0 0) ∧ w'.frozen? ⟨n + 1, 0, none⟩ = false ∧ w'.frozen? ⟨n + 1, 1, none⟩ = false ∧
    (((w'.setCell ⟨n + 1, 0, none⟩ (.int .i64 y)).setCell ⟨n + 1, 1, none⟩ (.slice none 0 0)).cell? ⟨n + 1, 0, none⟩ = some (.int .i64 y)) ∧
    (((w'.setCell ⟨n + 1, 0, none⟩ (.int .i64 y)).setCell ⟨n + 1, 1, none⟩ (.slice none 0 0)).cell? ⟨n + 1, 1, none⟩ = some (.slice none 0 0)) ∧
    Below n w ((w'.setCell ⟨n + 1, 0, none⟩ (.int .i64 y)).setCell ⟨n + 1, 1, none⟩ (.slice none 0 0)) :=
  let ⟨r, hr⟩ := h.R; ⟨⟨r, hr.cells.1⟩, hr.cells.2, hr.frozen 0, hr.frozen 1, (hr.put y).cells.1, (hr.put y).cells.2, (h.bel.setCell (by show n ≤ n + 1; omega) _).setCell (by show n ≤ n + 1; omega) _⟩
theorem den_any (a d : Int) (w : World) : Calls Tryz.prog 23 #[RV a d] w fun e w' => e = .returned (SI (denI d)) ∧ Below w.heap.size w w' := by
  have HZ := fun W => Lib.hid (isZero_any d W)
  have HO := fun W => Lib.hid (of_small 1 (by unfold Small; omega) W)
  simp only [SI] at HZ HO
  unfold RV SI denI
  generalize hn : w.heap.size = n
  have O0 := Open1.new w a d
  rw [hn] at O0
  by_cases h0 : d = 0
  · subst h0
    rw [if_pos rfl]
    have e1 : ((0 : Int) == 0) = true := rfl
    rw [e1] at HZ
    go_enter Tryz.func23, Tryz.ntmps23
    go_upto_region 1 with (fail)
    generalize (w.alloc (.cells #[.int .i64 a, .slice none 0 0, .int .i64 0, .slice none 0 0] 41)).alloc (.cells #[.int .i64 0, .slice none 0 0] 39) = w0 at *
    obtain ⟨c0, c1, c2, c3⟩ := O0.A.cells
    go_wp2_with fail
    refine ((HZ _).out).mono ?_
    rintro e w1 ⟨rfl, hb1⟩
    have O1 := O0.below hb1
    clear c0 c1 c2 c3 O0 hb1
    go_wp2_with fail
    refine ((HO _).out).mono ?_
    rintro e w2 ⟨rfl, hb2⟩
    have O2 := O1.below hb2
    obtain ⟨⟨_, r0⟩, r1, f0, f1, p0, p1, pb⟩ := O2.put 1
    go_wp2_with fail
    refine bodyPost_ret (v := .agg #[.int .i64 1, .slice none 0 0]) (by simp [results, Tryz.results23, go_sem, p0, p1]) rfl ?_
    exact ⟨rfl, pb⟩
  · rw [if_neg h0]
    have e1 : (d == 0) = false := by rw [beq_eq_false_iff_ne]; exact h0
    rw [e1] at HZ
    go_enter Tryz.func23, Tryz.ntmps23
    go_upto_region 1 with (fail)
    generalize (w.alloc (.cells #[.int .i64 a, .slice none 0 0, .int .i64 d, .slice none 0 0] 41)).alloc (.cells #[.int .i64 0, .slice none 0 0] 39) = w0 at *
    obtain ⟨c0, c1, c2, c3⟩ := O0.A.cells
    go_wp2_with fail
    refine ((HZ _).out).mono ?_
    rintro e w1 ⟨rfl, hb1⟩
    have O1 := O0.below hb1
    clear c0 c1 c2 c3 O0 hb1
    obtain ⟨c0, c1, c2, c3⟩ := O1.A.cells
    obtain ⟨⟨_, r0⟩, r1, f0, f1, p0, p1, pb⟩ := O1.put d
    go_wp2_with fail
    refine bodyPost_ret (v := .agg #[.int .i64 d, .slice none 0 0]) (by simp [results, Tryz.results23, go_sem, p0, p1]) rfl ?_
    exact ⟨rfl, pb⟩
end Go.Proofs.YteicddmekhdjeaaGreatDoor

/- The evaluator over package number at values of which nothing is known but their names. -/
namespace Go.Proofs.YteicddmekhdjeaaGreatDoor
open Go.RowKit Go.Sort

theorem eng_okS [Eng.Syms] {ro : Eng.Lo} : Eng.ProgOk Tryz.prog ro eng_prims := Eng.progOk Tryz.checked.mixed eng_names eng_index eng_add eng_sub
/-- A small integer, a ratio of two of them, in the evaluator's words. -/
abbrev eI (v : Eng.V) : Eng.V := .agg [v, .nilslice]
abbrev eR (v d : Eng.V) : Eng.V := .agg [v, .nilslice, d, .nilslice]
abbrev eS (i : Nat) : Eng.V := .sym i
abbrev eC (z : Int) : Eng.V := .int .i64 z
abbrev ansTimes (a b c : Eng.V) : Eng.Ans := ⟨24, [eI a, eI b], eI c⟩
abbrev ansPlus (a b c : Eng.V) : Eng.Ans := ⟨52, [eI a, eI b], eI c⟩
abbrev ansDivisor (a b c : Eng.V) : Eng.Ans := ⟨40, [eI a, eI b], eI c⟩
abbrev ansNegated (a b : Eng.V) : Eng.Ans := ⟨39, [eI a], eI b⟩

/-- Sums of ratios that are integers: 0: a, 1: b, 2: a + b. -/
noncomputable def sumAns : List Eng.Ans := [ansTimes (eS 0) (eC 1) (eS 0), ansTimes (eS 1) (eC 1) (eS 1), ansPlus (eS 0) (eS 1) (eS 2), ansDivisor (eS 2) (eC 1) (eC 1)]
theorem sum_run11 : Eng.sameR (Eng.call Tryz.prog (Eng.lo 0) (eng_prims.also sumAns) 10000 27 [eR (eS 0) (eC 1), eR (eS 1) (eC 1)] .nil 0) (eR (eS 2) (eC 1)) = true := by kernel_rfl
theorem sum_run01 : Eng.sameR (Eng.call Tryz.prog (Eng.lo 0) (eng_prims.also sumAns) 10000 27 [eR (eS 0) (eC 0), eR (eS 1) (eC 1)] .nil 0) (eR (eS 2) (eC 1)) = true := by kernel_rfl
theorem sum_run10 : Eng.sameR (Eng.call Tryz.prog (Eng.lo 0) (eng_prims.also sumAns) 10000 27 [eR (eS 0) (eC 1), eR (eS 1) (eC 0)] .nil 0) (eR (eS 2) (eC 1)) = true := by kernel_rfl
theorem sum_run00 : Eng.sameR (Eng.call Tryz.prog (Eng.lo 0) (eng_prims.also sumAns) 10000 27 [eR (eS 0) (eC 0), eR (eS 1) (eC 0)] .nil 0) (eR (eS 2) (eC 1)) = true := by kernel_rfl

/-- Differences: 0: a, 1: b, 2: a - b, 3: -b. -/
noncomputable def subAns : List Eng.Ans := [ansTimes (eS 0) (eC 1) (eS 0), ansTimes (eS 3) (eC 1) (eS 3), ansPlus (eS 0) (eS 3) (eS 2), ansDivisor (eS 2) (eC 1) (eC 1), ansNegated (eS 1) (eS 3)]
/-- An int as a ratio: 0: z. -/
noncomputable def ofAns : List Eng.Ans := [⟨10, [eS 0], eI (eS 0)⟩]
theorem whole_run : Eng.sameR (Eng.call Tryz.prog (Eng.lo 0) (eng_prims.also ofAns) 10000 9 [eI (eS 0)] .nil 0) (eR (eS 0) (eC 1)) = true := by kernel_rfl
/-- A quotient: 0: n, 1: d, 2: their divisor, 3: n/2, 4: d/2; 5: whether 2 is 1. -/
noncomputable def newAns (one : Bool) (sg : Int) : List Eng.Ans := [⟨38, [eI (eS 1)], eC sg⟩, ansDivisor (eS 0) (eS 1) (eS 2), ⟨41, [eI (eS 2)], .bool one⟩, ⟨42, [eI (eS 0), eI (eS 2)], eI (eS 3)⟩, ⟨42, [eI (eS 1), eI (eS 2)], eI (eS 4)⟩]
theorem new_run1 : Eng.sameR (Eng.call Tryz.prog (Eng.lo 0) (eng_prims.also (newAns true 1)) 10000 22 [eI (eS 0), eI (eS 1)] .nil 0) (eR (eS 0) (eS 1)) = true := by kernel_rfl
theorem new_run2 : Eng.sameR (Eng.call Tryz.prog (Eng.lo 0) (eng_prims.also (newAns false 1)) 10000 22 [eI (eS 0), eI (eS 1)] .nil 0) (eR (eS 3) (eS 4)) = true := by kernel_rfl
end Go.Proofs.YteicddmekhdjeaaGreatDoor

/- Ratios that are integers: sums, differences, comparisons (runs at names of values). -/
namespace Go.Proofs.YteicddmekhdjeaaGreatDoor
open Go.RowKit Go.Sort

theorem times_one (a : Int) (ha : Small a) (w : World) : Calls Tryz.prog 24 #[SI a, SI 1] w fun e w' => e = .returned (SI a) ∧ Below w.heap.size w w' := by
  have h := times_small a 1 ha (by unfold Small; omega) (by rw [Int.mul_one]; exact ha) w
  rwa [Int.mul_one] at h
theorem divisor_one (a : Int) (ha : Small a) (w : World) : Calls Tryz.prog 40 #[SI a, SI 1] w fun e w' => e = .returned (SI 1) ∧ Below w.heap.size w w' := by
  have h := divisor_small a 1 ha (by unfold Small; omega) w
  rwa [show Int.gcd a 1 = 1 by simp] at h
/-- 0: a, 1: b, 2: c. -/
def v3 (a b c : Int) : Nat → Int
  | 0 => a
  | 1 => b
  | _ => c
theorem sum_ok (a b : Int) (ha : Small a) (hb : Small b) (hs : Small (a + b)) : ∀ x ∈ sumAns, @Eng.Ans.Ok (Eng.ints (v3 a b (a + b))) Tryz.prog x := by
  intro x hx
  simp only [sumAns, List.mem_cons, List.not_mem_nil, or_false] at hx
  rcases hx with rfl | rfl | rfl | rfl
  · exact ⟨rfl, rfl, by kernel_rfl, fun w => times_one a ha w⟩
  · exact ⟨rfl, rfl, by kernel_rfl, fun w => times_one b hb w⟩
  · exact ⟨rfl, rfl, by kernel_rfl, fun w => plus_small a b ha hb hs w⟩
  · exact ⟨rfl, rfl, by kernel_rfl, fun w => divisor_one (a + b) hs w⟩
theorem plus_int (a b da db : Int) (hda : da = 0 ∨ da = 1) (hdb : db = 0 ∨ db = 1) (ha : Small a) (hb : Small b) (hs : Small (a + b)) (w : World) :
    Calls Tryz.prog 27 #[RV a da, RV b db] w fun e w' => e = .returned (RV (a + b) 1) ∧ Below w.heap.size w w' := by
  letI : Eng.Syms := Eng.ints (v3 a b (a + b))
  have ok := sum_ok a b ha hb hs
  rcases hda with rfl | rfl <;> rcases hdb with rfl | rfl
  · exact Eng.sym_run (eng_okS.also ok) sum_run00 rfl rfl (by kernel_rfl) w
  · exact Eng.sym_run (eng_okS.also ok) sum_run01 rfl rfl (by kernel_rfl) w
  · exact Eng.sym_run (eng_okS.also ok) sum_run10 rfl rfl (by kernel_rfl) w
  · exact Eng.sym_run (eng_okS.also ok) sum_run11 rfl rfl (by kernel_rfl) w
/-- 0: a, 1: b, 2: c, 3: d, 4: e. -/
def v5 (a b c d e : Int) : Nat → Int
  | 0 => a
  | 1 => b
  | 2 => c
  | 3 => d
  | _ => e
theorem of_ok (z : Int) (hz : Small z) : ∀ x ∈ ofAns, @Eng.Ans.Ok (Eng.ints fun _ => z) Tryz.prog x := by
  intro x hx
  simp only [ofAns, List.mem_cons, List.not_mem_nil, or_false] at hx
  subst hx
  exact ⟨rfl, rfl, by kernel_rfl, fun w => of_small z hz w⟩
theorem whole_int (z : Int) (w : World) (hz : Small z) : Calls Tryz.prog 9 #[SI z] w fun e w' => e = .returned (RV z 1) ∧ Below w.heap.size w w' := by
  letI : Eng.Syms := Eng.ints fun _ => z
  exact Eng.sym_run (eng_okS.also (of_ok z hz)) whole_run rfl rfl (by kernel_rfl) w
/-- A quotient of small numbers, the denominator above 0. -/
theorem new_pos (n d : Int) (hn : Small n) (hd : Small d) (h0 : 0 < d) (w : World) :
    Calls Tryz.prog 22 #[SI n, SI d] w fun e w' => e = .returned (RV (n.tdiv (Int.gcd n d)) (d.tdiv (Int.gcd n d))) ∧ Below w.heap.size w w' := by
  letI : Eng.Syms := Eng.ints (v5 n d (Int.gcd n d) (n.tdiv (Int.gcd n d)) (d.tdiv (Int.gcd n d)))
  have hg0 : (Int.gcd n d : Int) ≠ 0 := by
    have := Int.gcd_pos_of_ne_zero_right n (b := d) (by omega)
    omega
  have hg1 : (1 : Int) ≤ Int.gcd n d := by omega
  have sm : ∀ x : Int, Small x → Small (x.tdiv (Int.gcd n d)) := fun x hx => by
    unfold Small at *
    have := Int.natAbs_tdiv_le_natAbs x (Int.gcd n d)
    omega
  have sgn : cmpI d 0 = 1 := by unfold cmpI; rw [if_neg (by omega), if_pos h0]
  have S1 := fun w => sign_any d w
  rw [sgn] at S1
  have mk : ∀ one : Bool, ((Int.gcd n d : Int) == 1) = one → ∀ x ∈ newAns one 1, Eng.Ans.Ok Tryz.prog x := by
    intro one ho x hx
    simp only [newAns, List.mem_cons, List.not_mem_nil, or_false] at hx
    rcases hx with rfl | rfl | rfl | rfl | rfl
    · exact ⟨rfl, rfl, by kernel_rfl, fun w => S1 w⟩
    · exact ⟨rfl, rfl, by kernel_rfl, fun w => divisor_small n d hn hd w⟩
    · refine ⟨rfl, rfl, by kernel_rfl, fun w => ?_⟩
      have h := isOne_any (Int.gcd n d) w
      rw [ho] at h
      exact h
    · exact ⟨rfl, rfl, by kernel_rfl, fun w => dividedBy_small n (Int.gcd n d) hg0 (sm n hn) w⟩
    · exact ⟨rfl, rfl, by kernel_rfl, fun w => dividedBy_small d (Int.gcd n d) hg0 (sm d hd) w⟩
  cases ho : ((Int.gcd n d : Int) == 1) with
  | false => exact Eng.sym_run (eng_okS.also (mk false ho)) new_run2 rfl rfl (by kernel_rfl) w
  | true =>
    have e : (Int.gcd n d : Int) = 1 := by simpa using ho
    have h := Eng.sym_run (eng_okS.also (mk true ho)) new_run1 rfl rfl (by kernel_rfl) w
    rw [e, Int.tdiv_one, Int.tdiv_one]
    exact h
end Go.Proofs.YteicddmekhdjeaaGreatDoor

/- Quotients of two small integers, whatever their signs. -/
namespace Go.Proofs.YteicddmekhdjeaaGreatDoor
open Go.RowKit Go.Sort

noncomputable def negAns (one : Bool) : List Eng.Ans := [⟨38, [eI (eS 1)], eC (-1)⟩, ansNegated (eS 0) (eS 5), ansNegated (eS 1) (eS 6), ansDivisor (eS 5) (eS 6) (eS 2), ⟨41, [eI (eS 2)], .bool one⟩, ⟨42, [eI (eS 5), eI (eS 2)], eI (eS 3)⟩, ⟨42, [eI (eS 6), eI (eS 2)], eI (eS 4)⟩]
theorem new_run3 : Eng.sameR (Eng.call Tryz.prog (Eng.lo 0) (eng_prims.also (negAns true)) 10000 22 [eI (eS 0), eI (eS 1)] .nil 0) (eR (eS 5) (eS 6)) = true := by kernel_rfl
theorem new_run4 : Eng.sameR (Eng.call Tryz.prog (Eng.lo 0) (eng_prims.also (negAns false)) 10000 22 [eI (eS 0), eI (eS 1)] .nil 0) (eR (eS 3) (eS 4)) = true := by kernel_rfl
noncomputable def overAns : List Eng.Ans := [⟨22, [eI (eS 0), eI (eS 1)], eR (eS 3) (eS 4)⟩, ansTimes (eS 3) (eC 1) (eS 3), ansTimes (eS 4) (eC 1) (eS 4)]
theorem over_run : Eng.sameR (Eng.call Tryz.prog (Eng.lo 0) (eng_prims.also overAns) 10000 11 [eR (eS 0) (eC 1), eR (eS 1) (eC 1)] .nil 0) (eR (eS 3) (eS 4)) = true := by kernel_rfl
def v7 (a b c d e f g : Int) : Nat → Int
  | 0 => a | 1 => b | 2 => c | 3 => d | 4 => e | 5 => f | 6 => g | _ => 0

theorem small_tdiv {x g : Int} (h : Small x) : Small (x.tdiv g) := by
  unfold Small at *
  have := Int.natAbs_tdiv_le_natAbs x g
  omega
theorem small_neg {x : Int} (h : Small x) : Small (-x) := by
  unfold Small at *
  omega
theorem new_neg (n d : Int) (hn : Small n) (hd : Small d) (h0 : d < 0) (w : World) :
    Calls Tryz.prog 22 #[SI n, SI d] w fun e w' => e = .returned (RV ((-n).tdiv (Int.gcd n d)) ((-d).tdiv (Int.gcd n d))) ∧ Below w.heap.size w w' := by
  letI : Eng.Syms := Eng.ints (v7 n d (Int.gcd n d) ((-n).tdiv (Int.gcd n d)) ((-d).tdiv (Int.gcd n d)) (-n) (-d))
  have hg0 : (Int.gcd n d : Int) ≠ 0 := by
    have := Int.gcd_pos_of_ne_zero_right n (b := d) (by omega)
    omega
  have sgn : cmpI d 0 = -1 := by unfold cmpI; rw [if_pos h0]
  have S1 := fun w => sign_any d w
  rw [sgn] at S1
  have D1 := fun w => divisor_small (-n) (-d) (small_neg hn) (small_neg hd) w
  rw [Int.neg_gcd, Int.gcd_neg] at D1
  have mk : ∀ one : Bool, ((Int.gcd n d : Int) == 1) = one → ∀ x ∈ negAns one, Eng.Ans.Ok Tryz.prog x := by
    intro one ho x hx
    simp only [negAns, List.mem_cons, List.not_mem_nil, or_false] at hx
    rcases hx with rfl | rfl | rfl | rfl | rfl | rfl | rfl
    · exact ⟨rfl, rfl, by kernel_rfl, fun w => S1 w⟩
    · exact ⟨rfl, rfl, by kernel_rfl, fun w => negated_any n hn w⟩
    · exact ⟨rfl, rfl, by kernel_rfl, fun w => negated_any d hd w⟩
    · exact ⟨rfl, rfl, by kernel_rfl, fun w => D1 w⟩
    · refine ⟨rfl, rfl, by kernel_rfl, fun w => ?_⟩
      have h := isOne_any (Int.gcd n d) w
      rw [ho] at h
      exact h
    · exact ⟨rfl, rfl, by kernel_rfl, fun w => dividedBy_small (-n) (Int.gcd n d) hg0 (small_tdiv (small_neg hn)) w⟩
    · exact ⟨rfl, rfl, by kernel_rfl, fun w => dividedBy_small (-d) (Int.gcd n d) hg0 (small_tdiv (small_neg hd)) w⟩
  cases ho : ((Int.gcd n d : Int) == 1) with
  | false => exact Eng.sym_run (eng_okS.also (mk false ho)) new_run4 rfl rfl (by kernel_rfl) w
  | true =>
    have e : (Int.gcd n d : Int) = 1 := by simpa using ho
    have h := Eng.sym_run (eng_okS.also (mk true ho)) new_run3 rfl rfl (by kernel_rfl) w
    rw [e, Int.tdiv_one, Int.tdiv_one]
    exact h

def sgnN (x y : Int) : Int := if y < 0 then -x else x
theorem new_any (n d : Int) (hn : Small n) (hd : Small d) (h0 : d ≠ 0) (w : World) :
    Calls Tryz.prog 22 #[SI n, SI d] w fun e w' => e = .returned (RV ((sgnN n d).tdiv (Int.gcd n d)) ((sgnN d d).tdiv (Int.gcd n d))) ∧ Below w.heap.size w w' := by
  unfold sgnN
  by_cases h : d < 0
  · rw [if_pos h, if_pos h]; exact new_neg n d hn hd h w
  · rw [if_neg h, if_neg h]; exact new_pos n d hn hd (by omega) w
theorem small_sgn {x y : Int} (h : Small x) : Small (sgnN x y) := by
  unfold sgnN
  split
  · exact small_neg h
  · exact h
theorem overR_int (n d : Int) (hn : Small n) (hd : Small d) (h0 : d ≠ 0) (w : World) :
    Calls Tryz.prog 11 #[RV n 1, RV d 1] w fun e w' => e = .returned (RV ((sgnN n d).tdiv (Int.gcd n d)) ((sgnN d d).tdiv (Int.gcd n d))) ∧ Below w.heap.size w w' := by
  letI : Eng.Syms := Eng.ints (v7 n d 0 ((sgnN n d).tdiv (Int.gcd n d)) ((sgnN d d).tdiv (Int.gcd n d)) 0 0)
  have mk : ∀ x ∈ overAns, Eng.Ans.Ok Tryz.prog x := by
    intro x hx
    simp only [overAns, List.mem_cons, List.not_mem_nil, or_false] at hx
    rcases hx with rfl | rfl | rfl
    · exact ⟨rfl, rfl, by kernel_rfl, fun w => new_any n d hn hd h0 w⟩
    · exact ⟨rfl, rfl, by kernel_rfl, fun w => times_one _ (small_tdiv (small_sgn hn)) w⟩
    · exact ⟨rfl, rfl, by kernel_rfl, fun w => times_one _ (small_tdiv (small_sgn hd)) w⟩
  exact Eng.sym_run (eng_okS.also mk) over_run rfl rfl (by kernel_rfl) w
end Go.Proofs.YteicddmekhdjeaaGreatDoor

/- Numbers in base 10000 as lists of digits, the least first: plain facts. -/
namespace Go.Proofs.YteicddmekhdjeaaGreatDoor

def val10 : List Nat → Nat
  | [] => 0
  | d :: l => d + 10000 * val10 l
def Digs (l : List Nat) : Prop := ∀ d ∈ l, d < 10000
/-- Without zeros at the end. -/
def trimR : List Nat → List Nat
  | [] => []
  | d :: l => match trimR l with
    | [] => if d = 0 then [] else [d]
    | e :: m => d :: e :: m
theorem trimR_cons (d : Nat) (l : List Nat) : trimR (d :: l) = match trimR l with | [] => if d = 0 then [] else [d] | e :: m => d :: e :: m := rfl
def CanonD (l : List Nat) : Prop := Digs l ∧ trimR l = l

theorem Digs.tail {d : Nat} {l : List Nat} (h : Digs (d :: l)) : Digs l := fun x hx => h x (List.mem_cons_of_mem _ hx)
theorem Digs.head {d : Nat} {l : List Nat} (h : Digs (d :: l)) : d < 10000 := h d (List.mem_cons_self ..)
theorem val10_append : ∀ a b, val10 (a ++ b) = val10 a + 10000 ^ a.length * val10 b
  | [], b => by simp [val10]
  | d :: a, b => by
    show d + 10000 * val10 (a ++ b) = d + 10000 * val10 a + 10000 ^ (a.length + 1) * val10 b
    rw [val10_append a b, Nat.pow_succ, Nat.mul_add, ← Nat.mul_assoc, Nat.mul_comm (10000 ^ a.length) 10000]
    omega
theorem val10_lt : ∀ {l : List Nat}, Digs l → val10 l < 10000 ^ l.length
  | [], _ => by simp [val10]
  | d :: l, h => by
    have ih := val10_lt h.tail
    have hd := h.head
    show d + 10000 * val10 l < 10000 ^ (l.length + 1)
    rw [Nat.pow_succ]
    omega
theorem trimR_val : ∀ l, val10 (trimR l) = val10 l
  | [] => rfl
  | d :: l => by
    have ih := trimR_val l
    rw [trimR_cons]
    cases h : trimR l with
    | nil =>
      rw [h] at ih
      have ih : 0 = val10 l := ih
      show val10 (if d = 0 then [] else [d]) = d + 10000 * val10 l
      rw [← ih]
      split
      · rename_i h0; rw [h0]; rfl
      · rfl
    | cons e m =>
      show d + 10000 * val10 (e :: m) = d + 10000 * val10 l
      rw [← h, ih]
theorem trimR_nil {l : List Nat} : trimR l = [] ↔ val10 l = 0 := by
  constructor
  · intro h; rw [← trimR_val, h]; rfl
  · induction l with
    | nil => intro _; rfl
    | cons d l ih =>
      intro h
      have h : d + 10000 * val10 l = 0 := h
      rw [trimR_cons]
      rw [ih (by omega)]
      rw [if_pos (by omega)]
theorem trimR_digs : ∀ {l : List Nat}, Digs l → Digs (trimR l)
  | [], h => h
  | d :: l, h => by
    have ih := trimR_digs h.tail
    rw [trimR_cons]
    cases e : trimR l with
    | nil =>
      show Digs (if d = 0 then [] else [d])
      split
      · intro x hx; cases hx
      · intro x hx; obtain rfl := List.mem_singleton.1 hx; exact h.head
    | cons f m =>
      rw [e] at ih
      intro x hx
      rcases List.mem_cons.1 hx with rfl | hx
      · exact h.head
      · exact ih x hx
theorem trimR_trim : ∀ l, trimR (trimR l) = trimR l
  | [] => rfl
  | d :: l => by
    have ih := trimR_trim l
    rw [trimR_cons]
    cases e : trimR l with
    | nil =>
      show trimR (if d = 0 then [] else [d]) = if d = 0 then [] else [d]
      split
      · rfl
      · rename_i h0
        show (match trimR [] with | [] => if d = 0 then [] else [d] | e :: m => d :: e :: m) = [d]
        show (if d = 0 then [] else [d]) = [d]
        rw [if_neg h0]
    | cons f m =>
      rw [e] at ih
      show (match trimR (f :: m) with | [] => if d = 0 then [] else [d] | e :: m => d :: e :: m) = d :: f :: m
      rw [ih]
theorem canon_trim {l : List Nat} (h : Digs l) : CanonD (trimR l) := ⟨trimR_digs h, trimR_trim l⟩
theorem canon_tail {d : Nat} {l : List Nat} (h : CanonD (d :: l)) : CanonD l := by
  refine ⟨h.1.tail, ?_⟩
  have k := h.2
  rw [trimR_cons] at k
  cases e : trimR l with
  | nil =>
    rw [e] at k
    have k : (if d = 0 then [] else [d]) = d :: l := k
    split at k
    · cases k
    · simp only [List.cons.injEq, true_and] at k
      rw [← k]
  | cons f m =>
    rw [e] at k
    have k : d :: f :: m = d :: l := k
    simp only [List.cons.injEq, true_and] at k
    exact k
/-- A number has one list. -/
theorem canon_inj : ∀ {a b : List Nat}, CanonD a → CanonD b → val10 a = val10 b → a = b
  | [], [], _, _, _ => rfl
  | [], d :: b, _, hb, h => by
    have h : 0 = val10 (d :: b) := h
    have := trimR_nil.2 h.symm
    rw [hb.2] at this; exact this.symm
  | d :: a, [], ha, _, h => by
    have := trimR_nil.2 h
    rw [ha.2] at this; exact this
  | d :: a, e :: b, ha, hb, h => by
    have h : d + 10000 * val10 a = e + 10000 * val10 b := h
    have h1 := ha.1.head
    have h2 := hb.1.head
    have := canon_inj (canon_tail ha) (canon_tail hb) (by omega)
    rw [this, show d = e by omega]
/-- The last digit of a canonical list is not 0. -/
theorem canon_last : ∀ {l : List Nat}, CanonD l → l ≠ [] → 10000 ^ (l.length - 1) ≤ val10 l
  | [], _, h => absurd rfl h
  | [d], h, _ => by
    have k := h.2
    have k : (if d = 0 then [] else [d]) = [d] := k
    have : d ≠ 0 := by intro e; rw [if_pos e] at k; cases k
    show 10000 ^ 0 ≤ d + 10000 * 0
    simp; omega
  | d :: e :: l, h, _ => by
    have ih := canon_last (canon_tail h) (by simp)
    show 10000 ^ (l.length + 1) ≤ d + 10000 * val10 (e :: l)
    rw [Nat.pow_succ]
    have ih : 10000 ^ l.length ≤ val10 (e :: l) := ih
    omega
theorem canon_len {a b : List Nat} (ha : CanonD a) (hb : CanonD b) (h : a.length < b.length) : val10 a < val10 b := by
  have h1 := val10_lt ha.1
  have h2 := canon_last hb (by intro e; rw [e] at h; simp at h)
  have h3 : 10000 ^ a.length ≤ 10000 ^ (b.length - 1) := Nat.pow_le_pow_right (by omega) (by omega)
  omega
/-- What is cut off is zeros: a list whose digits from n on are 0. -/
theorem take_trim : ∀ {l : List Nat} {n : Nat}, (∀ i d, l[i]? = some d → n ≤ i → d = 0) → (∀ d, 0 < n → l[n - 1]? = some d → d ≠ 0) → n ≤ l.length → l.take n = trimR l
  | [], n, _, _, hn => by simp [trimR]
  | d :: l, 0, hz, _, _ => by
    have hl : trimR l = [] := by
      rw [← take_trim (l := l) (n := 0) (fun i e h _ => hz (i + 1) e (by simpa using h) (by omega)) (fun _ h => absurd h (by omega)) (Nat.zero_le _)]
      simp
    have hd := hz 0 d (by simp) (Nat.le_refl _)
    rw [trimR_cons]
    rw [hl]
    show [] = if d = 0 then [] else [d]
    rw [if_pos hd]
  | d :: l, n + 1, hz, hl, hn => by
    have hn' : n ≤ l.length := by simpa using hn
    cases n with
    | zero =>
      have h0 : trimR l = [] := by
        rw [← take_trim (l := l) (n := 0) (fun i e h _ => hz (i + 1) e (by simpa using h) (by omega)) (fun _ h => absurd h (by omega)) (Nat.zero_le _)]
        simp
      have hd := hl d (by omega) (by simp)
      rw [trimR_cons]
      rw [h0]
      show [d] = if d = 0 then [] else [d]
      rw [if_neg hd]
    | succ k =>
      have ih := take_trim (l := l) (n := k + 1) (fun i e h hi => hz (i + 1) e (by simpa using h) (by omega)) (fun e h he => hl e (by omega) (by simpa using he)) hn'
      rw [List.take_succ_cons, ih]
      have hne : trimR l ≠ [] := by
        rw [← ih]
        intro e
        have := congrArg List.length e
        rw [List.length_take, List.length_nil] at this
        omega
      rw [trimR_cons]
      cases e : trimR l with
      | nil => exact absurd e hne
      | cons f m => rfl
end Go.Proofs.YteicddmekhdjeaaGreatDoor

/- Digits in memory: slices that read as lists of naturals; slices of a call's own that grow by append. -/
namespace Go.Proofs.YteicddmekhdjeaaGreatDoor
open Go.RowKit Go.Sort

def dV (xs : List Nat) : List Value := xs.map fun x : Nat => .int .i64 (x : Int)
theorem dV_get (xs : List Nat) (i : Nat) : (dV xs)[i]? = (xs[i]?).map fun x : Nat => .int .i64 (x : Int) := by simp [dV]
theorem dV_cell {xs : List Nat} : ∀ u ∈ dV xs, u.oneCell' = true := fun u hu => by
  simp only [dV, List.mem_map] at hu
  obtain ⟨x, _, rfl⟩ := hu
  rfl
/-- A slice's cells read as this list. -/
def DigAt (w : World) (A : Option Addr) (xs : List Nat) : Prop :=
  xs ≠ [] → ∃ b off, A = some ⟨b, off, none⟩ ∧ b < w.heap.size ∧ ∀ (i x : Nat), xs[i]? = some x → w.cell? ⟨b, off + i, none⟩ = some (.int .i64 (x : Int))
theorem DigAt.below {w w' : World} {A : Option Addr} {xs : List Nat} (h : DigAt w A xs) (hb : Below w.heap.size w w') : DigAt w' A xs := fun hne => by
  obtain ⟨b, off, e, hlt, hc⟩ := h hne
  exact ⟨b, off, e, Nat.lt_of_lt_of_le hlt hb.size, fun i x hx => (hb.cell (p := ⟨b, _, none⟩) hlt).trans (hc i x hx)⟩
theorem DigAt.nil (w : World) (A : Option Addr) : DigAt w A [] := fun h => absurd rfl h
theorem DigAt.take {w : World} {A : Option Addr} {xs : List Nat} (h : DigAt w A xs) (k : Nat) : DigAt w A (xs.take k) := fun hne => by
  obtain ⟨b, off, e, hlt, hc⟩ := h (by intro e; subst e; simp at hne)
  exact ⟨b, off, e, hlt, fun i x hx => hc i x (by
    rw [List.getElem?_take] at hx; split at hx
    · exact hx
    · cases hx)⟩
theorem info_dig : (Tryz.prog.info? 3).map (fun i => (i.zero, i.size, i.bytes)) = some (some (.int .i64 0), 1, 8) := by kernel_rfl
theorem info_dparts {o : Option TypeInfo} {z : Value} {s b : Nat} (h : o.map (fun i => (i.zero, i.size, i.bytes)) = some (some z, s, b)) : ∃ i, o = some i ∧ i.zero = some z ∧ i.size = s ∧ i.bytes = b := by
  cases o with
  | none => cases h
  | some i =>
    have e : (i.zero, i.size, i.bytes) = (some z, s, b) := by simpa using h
    simp only [Prod.mk.injEq] at e
    exact ⟨i, rfl, e.1, e.2.1, e.2.2⟩

/-- A slice of the call's own: blocks from base on. -/
def DigOwn (w : World) (base : Nat) (v : Value) (xs : List Nat) : Prop := w.ownsRow base 3 1 v xs.length (dV xs)

theorem DigOwn.slice {w : World} {base : Nat} {v : Value} {xs : List Nat} (h : DigOwn w base v xs) :
    ∃ A c, v = .slice A xs.length c ∧ xs.length ≤ c ∧ DigAt w A xs ∧ (∀ a, A = some a → base ≤ a.block) := by
  rcases h.2 with ⟨rfl, hn⟩ | ⟨g, cap, cur, rfl, hb, hg, hnc, _, hsz, ht⟩
  · refine ⟨none, 0, by rw [hn], by omega, fun hne => absurd (List.eq_nil_of_length_eq_zero hn) hne, fun a ha => by cases ha⟩
  · refine ⟨_, cap, rfl, hnc, fun _ => ⟨g, 0, rfl, ?_, fun i x hx => ?_⟩, fun a ha => by cases ha; exact hb⟩
    · exact (Array.getElem?_eq_some_iff.1 hg).1
    · rw [Nat.zero_add, cell_of_row w g i cur _ (0, 0) hg]
      have h1 : (dV xs)[i]? = some (.int .i64 x) := by rw [dV_get, hx]; rfl
      rw [← ht, List.getElem?_take] at h1
      split at h1
      · simpa using h1
      · cases h1

theorem DigOwn.empty (w : World) : DigOwn (w.alloc (.cells #[] 3)) w.heap.size (.slice (some ⟨w.heap.size, 0, none⟩) 0 0) [] :=
  World.ownsRow_made w #[] 0 (Nat.le_refl _) (by simp [maxLen]) rfl

/-- An append. -/
theorem dapp_run {w : World} {base : Nat} {v : Value} {xs ys : List Nat} (h : DigOwn w base v xs) {A : Option Addr} (c : Nat) (hy : DigAt w A ys) (hlen : xs.length + ys.length ≤ 100000) (hb : base ≤ w.heap.size) (ty : TypeId) :
    ∃ v' w', (Builtin.append_ #[28, 28] ty #[v, .slice A ys.length c]).run Tryz.prog w = .ok v' w' ∧ DigOwn w' base v' (xs ++ ys) ∧ w.grownBy w' v.ownBlock ∧
      (v'.ownBlock = v.ownBlock ∨ v'.ownBlock = some w.heap.size) := by
  obtain ⟨i0, hi0, hz0, hz1, hz2⟩ := info_dparts info_dig
  have e1 : dV xs ++ dV ys = dV (xs ++ ys) := by simp [dV]
  have e2 : (xs ++ ys).length = xs.length + ys.length := by simp
  have fin : ∀ ad : Addr, A = some ad → (∀ j u, (dV ys)[j]? = some u → w.cell? (ad.add j) = some u) →
      ∃ v' w', (Builtin.append_ #[28, 28] ty #[v, .slice A ys.length c]).run Tryz.prog w = .ok v' w' ∧ DigOwn w' base v' (xs ++ ys) ∧ w.grownBy w' v.ownBlock ∧ (v'.ownBlock = v.ownBlock ∨ v'.ownBlock = some w.heap.size) := by
    intro ad e hc
    subst e
    obtain ⟨v', w', hr, h2, h3, _, h5⟩ := run_append_own_at (P := Tryz.prog) w base 28 ty 3 i0 _ 1 8 Tryz.underlying28 hi0 hz0 hz1 hz2 rfl (by omega) v xs.length (dV xs) h ad ys.length c (dV ys) (by simp [dV]) hc dV_cell (by simp [maxLen]; omega) (by omega) hb
    exact ⟨v', w', hr, by unfold DigOwn; rw [e2, ← e1]; exact h2, h3, h5⟩
  cases ys with
  | nil =>
    cases A with
    | none =>
      refine ⟨v, w, ?_, by simpa using h, World.grownBy.refl w _, .inl rfl⟩
      rcases h.2 with ⟨rfl, hn⟩ | ⟨g, cap, cur, rfl, _, _, hnc, _⟩
      · simp [Builtin.append_, run_underlying Tryz.underlying28, sizeOf, typeInfo, hi0, Builtin.lenOf, Builtin.firstCells]
      · simp [Builtin.append_, run_underlying Tryz.underlying28, sizeOf, typeInfo, hi0, Builtin.lenOf, Builtin.firstCells, hnc, storeCells]
    | some ad => exact fin ad rfl (fun j u hu => by simp [dV] at hu)
  | cons y ys =>
    obtain ⟨b, off, rfl, _, hc⟩ := hy (by simp)
    refine fin _ rfl fun j u hu => ?_
    rw [dV_get] at hu
    obtain ⟨x, hx, rfl⟩ := Option.map_eq_some_iff.1 hu
    have e : (⟨b, off, none⟩ : Addr).add j = ⟨b, off + j, none⟩ := by unfold Addr.add; split <;> simp_all
    rw [e]
    exact hc j x hx

theorem wpList_dapp {w : World} {ops : Array Oper} {rest : List Oper} {o : Oper} {a : Act} {Q : Exit → Act → World → Prop} (hgd : o.guard = none) (s x : Operand)
    (ho : o.op = .call { callee := .builtin .append, args := #[s, x], argTypes := #[28, 28] }) (base : Nat) (v : Value) (xs ys : List Nat) (A : Option Addr) (m c : Nat)
    (hs : a.eval s = v) (hx : a.eval x = .slice A m c) (hown : DigOwn w base v xs) (hm : ys.length = m) (hy : DigAt w A ys) (hlen : xs.length + ys.length ≤ 100000) (hb : base ≤ w.heap.size)
    (h : ∀ v' w', DigOwn w' base v' (xs ++ ys) → w.grownBy w' v.ownBlock → (v'.ownBlock = v.ownBlock ∨ v'.ownBlock = some w.heap.size) → wpList Tryz.prog ops Q rest (a.put o.dst v') w') : wpList Tryz.prog ops Q (o :: rest) a w :=
  wpList_plain hgd fun _ hK => by
    subst hm
    obtain ⟨v', w', hr, h2, h3, h4⟩ := dapp_run hown c hy hlen hb o.type
    unfold Oper.wp execOp
    simp only [ho, resolve, invoke, builtin, Sem.run_bind, Sem.run_pure, Result.andThen_ok, List.map_toArray, List.map_cons, List.map_nil, hs, hx, hr]
    exact hK _ _ (h v' w' h2 h3 h4)


theorem DigOwn.alloc {w : World} {base : Nat} {v : Value} {xs : List Nat} (h : DigOwn w base v xs) (o : Obj) : DigOwn (w.alloc o) base v xs := World.ownsRow.alloc h o
theorem DigOwn.base {w : World} {base : Nat} {v : Value} {xs : List Nat} (h : DigOwn w base v xs) : ∀ k, v.ownBlock = some k → base ≤ k ∧ k < w.heap.size := World.ownsRow.lt h
theorem DigOwn.nil (w : World) (base : Nat) : DigOwn w base (.slice none 0 0) [] := World.ownsRow_nil _ _ _ _
theorem DigAt.one (w : World) (x : Nat) : DigAt (w.alloc (.cells #[.int .i64 (x : Int)] 3)) (some ⟨w.heap.size, 0, none⟩) [x] := fun _ =>
  ⟨w.heap.size, 0, rfl, by simp, fun i y hy => by
    match i, hy with
    | 0, hy =>
      obtain rfl : x = y := by simpa using hy
      simp [World.cell?_alloc_new]⟩
/-- A number's struct in a block: its sign, its digits' slice. -/
def ZBox (w : World) (g : Nat) (neg : Bool) (v : Value) : Prop := w.heap[g]? = some (.cells #[.bool neg, v] 30 (0, 0))
theorem ZBox.lt {w : World} {g : Nat} {neg : Bool} {v : Value} (h : ZBox w g neg v) : g < w.heap.size := (Array.getElem?_eq_some_iff.1 h).1
theorem ZBox.new (w : World) (neg : Bool) (v : Value) : ZBox (w.alloc (.cells #[.bool neg, v] 30)) w.heap.size neg v := heap_alloc_new _ _
theorem ZBox.alloc {w : World} {g : Nat} {neg : Bool} {v : Value} (h : ZBox w g neg v) (o : Obj) : ZBox (w.alloc o) g neg v := (Below.heap_alloc w o g h.lt).trans h
theorem ZBox.below {w w' : World} {g : Nat} {neg : Bool} {v : Value} (h : ZBox w g neg v) {B : Nat} (hb : Below B w w') (hg : g < B) : ZBox w' g neg v := (hb.block g hg).trans h
theorem ZBox.cells {w : World} {g : Nat} {neg : Bool} {v : Value} (h : ZBox w g neg v) : w.cell? ⟨g, 0, none⟩ = some (.bool neg) ∧ w.cell? ⟨g, 1, none⟩ = some v := by
  constructor
  · rw [cell_of_row w g 0 _ _ (0, 0) h]; rfl
  · rw [cell_of_row w g 1 _ _ (0, 0) h]; rfl
theorem ZBox.frozen {w : World} {g : Nat} {neg : Bool} {v : Value} (h : ZBox w g neg v) (i : Nat) : w.frozen? ⟨g, i, none⟩ = false := by simp [World.frozen?, show w.heap[g]? = _ from h]
theorem ZBox.far {w : World} {g : Nat} {neg : Bool} {v : Value} (h : ZBox w g neg v) {p : Addr} (hp : g ≠ p.block) (u : Value) : ZBox (w.setCell p u) g neg v := (Below.heap_setCell w p u g hp).trans h
theorem ZBox.put0 {w : World} {g : Nat} {neg : Bool} {v : Value} (h : ZBox w g neg v) (b : Bool) : ZBox (w.setCell ⟨g, 0, none⟩ (.bool b)) g b v := by
  have e : w.heap[g]? = _ := h
  unfold ZBox
  simp [World.setCell, Array.getElem?_modify, e]
theorem ZBox.put1 {w : World} {g : Nat} {neg : Bool} {v : Value} (h : ZBox w g neg v) (u : Value) : ZBox (w.setCell ⟨g, 1, none⟩ u) g neg u := by
  have e : w.heap[g]? = _ := h
  unfold ZBox
  simp [World.setCell, Array.getElem?_modify, e]
/-- Beside a row of ints that grows. -/
theorem ZBox.beside {w w' : World} {g : Nat} {neg : Bool} {v : Value} {row : Option Nat} (h : ZBox w g neg v) (hg : w.grownBy w' row) (hne : row ≠ some g) : ZBox w' g neg v :=
  (hg.block g h.lt (fun e => hne e.symm)).trans h

/-- What a function of numbers returns: a sign, a list of digits. -/
def RetD (neg : Bool) (ds : List Nat) (w : World) (e : Ending) (w' : World) : Prop := ∃ A c, e = .returned (.agg #[.bool neg, .slice A ds.length c]) ∧ ds.length ≤ c ∧ DigAt w' A ds ∧ Below w.heap.size w w'
end Go.Proofs.YteicddmekhdjeaaGreatDoor

/- The digits of a natural in base 10000. -/
namespace Go.Proofs.YteicddmekhdjeaaGreatDoor
open Go.RowKit

def digF : Nat → Nat → List Nat
  | 0, _ => []
  | f + 1, n => if n = 0 then [] else n % 10000 :: digF f (n / 10000)
def digs (n : Nat) : List Nat := digF n n
theorem digF_zero : ∀ f, digF f 0 = []
  | 0 => rfl
  | f + 1 => by unfold digF; rw [if_pos rfl]
theorem digF_val : ∀ {f n : Nat}, n ≤ f → val10 (digF f n) = n
  | 0, n, h => by obtain rfl : n = 0 := by omega
                  rfl
  | f + 1, n, h => by
    unfold digF
    by_cases h0 : n = 0
    · rw [if_pos h0, h0]; rfl
    · rw [if_neg h0]
      show n % 10000 + 10000 * val10 (digF f (n / 10000)) = n
      rw [digF_val (by omega)]
      omega
theorem digF_canon : ∀ {f n : Nat}, n ≤ f → CanonD (digF f n)
  | 0, n, h => ⟨(fun d hd => by cases hd), rfl⟩
  | f + 1, n, h => by
    unfold digF
    by_cases h0 : n = 0
    · rw [if_pos h0]; exact ⟨(fun d hd => by cases hd), rfl⟩
    · rw [if_neg h0]
      have ih := digF_canon (f := f) (n := n / 10000) (by omega)
      have iv := digF_val (f := f) (n := n / 10000) (by omega)
      refine ⟨fun d hd => ?_, ?_⟩
      · rcases List.mem_cons.1 hd with rfl | hd
        · omega
        · exact ih.1 d hd
      · rw [trimR_cons, ih.2]
        cases e : digF f (n / 10000) with
        | nil =>
          rw [e] at iv
          have iv : 0 = n / 10000 := iv
          show (if n % 10000 = 0 then [] else [n % 10000]) = [n % 10000]
          rw [if_neg (by omega)]
        | cons a l => rfl
theorem digs_val (n : Nat) : val10 (digs n) = n := digF_val (Nat.le_refl _)
theorem digs_canon (n : Nat) : CanonD (digs n) := digF_canon (Nat.le_refl _)
theorem digs_of {l : List Nat} (h : CanonD l) : digs (val10 l) = l := canon_inj (digs_canon _) h (digs_val _)
theorem digs_zero : digs 0 = [] := rfl
theorem digs_nil {n : Nat} : digs n = [] ↔ n = 0 := by
  constructor
  · intro h; rw [← digs_val n, h]; rfl
  · rintro rfl; rfl
theorem digs_step {n : Nat} (h : n ≠ 0) : digs n = n % 10000 :: digs (n / 10000) := by
  have hc : CanonD (n % 10000 :: digs (n / 10000)) := by
    have k := digs_canon (n / 10000)
    refine ⟨fun d hd => ?_, ?_⟩
    · rcases List.mem_cons.1 hd with rfl | hd
      · omega
      · exact k.1 d hd
    · rw [trimR_cons, k.2]
      cases e : digs (n / 10000) with
      | nil =>
        have := digs_nil.1 e
        show (if n % 10000 = 0 then [] else [n % 10000]) = [n % 10000]
        rw [if_neg (by omega)]
      | cons a l => rfl
  refine canon_inj (digs_canon n) hc ?_
  rw [digs_val]
  show n = n % 10000 + 10000 * val10 (digs (n / 10000))
  rw [digs_val]
  omega
theorem digs_len {n k : Nat} (h : n < 10000 ^ k) : (digs n).length ≤ k := by
  apply Classical.byContradiction
  intro hn
  have hne : digs n ≠ [] := by intro e; rw [e] at hn; simp at hn
  have h1 := canon_last (digs_canon n) hne
  rw [digs_val] at h1
  have h2 : 10000 ^ k ≤ 10000 ^ ((digs n).length - 1) := Nat.pow_le_pow_right (by omega) (by omega)
  omega
theorem trim_digs {l : List Nat} (h : Digs l) : trimR l = digs (val10 l) := by rw [← digs_of (canon_trim h), trimR_val]

/-- A number of any size: its struct's value. -/
def ZAt (w : World) (v : Value) (z : Int) : Prop := ∃ A c, v = .agg #[.bool (decide (z < 0)), .slice A (digs z.natAbs).length c] ∧ (digs z.natAbs).length ≤ c ∧ DigAt w A (digs z.natAbs)
def RetZ (z : Int) (w : World) : Ending → World → Prop := RetD (decide (z < 0)) (digs z.natAbs) w
theorem ZAt.below {w w' : World} {v : Value} {z : Int} (h : ZAt w v z) (hb : Below w.heap.size w w') : ZAt w' v z := by
  obtain ⟨A, c, rfl, hk, hx⟩ := h
  exact ⟨A, c, rfl, hk, hx.below hb⟩
end Go.Proofs.YteicddmekhdjeaaGreatDoor
