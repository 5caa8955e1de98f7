/- Parts of the proof, one after the other: EngAt, Pure, Kit, Ref, DevLeaf, DevBox, Meet, Poly, DevPoly, DevPts, PtsOpen, CutterOpen. -/
import Derived.Test.YtlekncamokiekaaGreatDoorEngD
import Derived.Test.YtlekncamokiekaaGreatDoorChecked
import Derived.KernelRfl
import Derived.Lib.LaidTab
import Derived.Below
import Derived.Calls
import Derived.WalkKit
import Derived.Test.YtlekncamokiekaaGreatDoorProg
import Derived.WalkSpells
import Derived.WalkLawsBesides
import Derived.Handy
import Derived.Lib.Hide
import Derived.Lib.QuietBelow
import Derived.BigQuiet
import Derived.Deep.RegionHeld3
import Derived.Deep.DrawnRows
import Derived.Deep.DeepCutAuto
import Derived.ChangeSlices
import Derived.OpenShut
import Derived.ProofKit
import Derived.Deep.SlicePairs
import Derived.Lib.SmallJoins
import Derived.ChangeArms
/- What the evaluator asks of the program: its tables, its functions without a text. -/
namespace Go.Proofs.YtlekncamokiekaaGreatDoor
open Go.RowKit (Below)

def pow10 : List Nat := [1, 10, 100, 1000, 10000, 100000, 1000000, 10000000, 100000000, 1000000000, 10000000000, 100000000000, 1000000000000, 10000000000000, 100000000000000, 1000000000000000, 10000000000000000, 100000000000000000, 1000000000000000000, 10000000000000000000]
def tabs : List (Nat × IntKind × List Nat) := [(3, .u64, pow10)]

theorem eng_names : Eng.namesB Tryz.prog = true := by kernel_rfl
theorem eng_index : Eng.Entry Tryz.prog 201 Extern.BytealgIndexByte.indexByte := ⟨fun fn h => by
  obtain rfl := Option.some.inj (Tryz.func201.symm.trans h)
  exact ⟨by kernel_rfl, by kernel_rfl, by kernel_rfl, by kernel_rfl⟩⟩
theorem eng_add : Eng.Entry Tryz.prog 161 add64Entry := ⟨fun fn h => by
  obtain rfl := Option.some.inj (Tryz.func161.symm.trans h)
  exact ⟨by kernel_rfl, by kernel_rfl, by kernel_rfl, by kernel_rfl⟩⟩
theorem eng_sub : Eng.Entry Tryz.prog 162 Eng.subEntry := ⟨fun fn h => by
  obtain rfl := Option.some.inj (Tryz.func162.symm.trans h)
  exact ⟨by kernel_rfl, by kernel_rfl, by kernel_rfl, by kernel_rfl⟩⟩
noncomputable def eng_prims : Eng.Base := Eng.bareOf 201 161 162
theorem eng_ok {ro : Eng.Lo} : Eng.ProgOk Tryz.prog ro (Eng.bareOf 201 161 162) := Eng.progOk Tryz.checked.mixed eng_names eng_index eng_add eng_sub

/-- The evaluator reads the variables below this number. -/
def eng_ro : Nat := 3 + 1
theorem tabs_lt : ∀ p ∈ tabs, p.1 < eng_ro := fun p hp => by
  simp only [tabs, List.mem_singleton] at hp
  subst hp
  exact of_decide_eq_true (by kernel_rfl)
theorem tabs_size {w : World} (h : Eng.Tabs tabs w) : eng_ro ≤ w.heap.size := by
  have := h _ (List.mem_singleton.2 rfl) 0 1 rfl
  exact World.block_lt_of_cell? w _ this
theorem tabs_below {w w' : World} (h : Eng.Tabs tabs w) (hb : Below w.heap.size w w') : Eng.Tabs tabs w' := fun p hp i n hn =>
  (hb.cell (World.block_lt_of_cell? w _ (h p hp i n hn))).trans (h p hp i n hn)
/-- What the row's condition on the listed variable gives. -/
theorem tabs_of {w : World} (h : Lib.TabIs Tryz.prog w "internal/strconv.uint64pow10" .u64 (pow10.map Int.ofNat)) : Eng.Tabs tabs w := fun p hp i n hn => by
  simp only [tabs, List.mem_singleton] at hp
  subst hp
  have hi : i < (pow10.map Int.ofNat).length := by
    rw [List.length_map]
    exact (List.getElem?_eq_some_iff.1 hn).1
  have := h.cell (g := 3) (by kernel_rfl) i hi
  rw [this]
  congr 2
  have hn' : pow10[i]? = some n := hn
  simp [List.getD, List.getElem?_map, hn']
end Go.Proofs.YtlekncamokiekaaGreatDoor

/- Plain functions on points and lists of points, as chapter 4's reference computes them. -/
namespace Go.Proofs.YtlekncamokiekaaGreatDoor

abbrev Pt := Int × Int

def inB (v lo hi : Int) : Bool := decide (lo ≤ v) && decide (v ≤ hi)
def validB (x y lim : Int) : Bool := inB x (-lim) lim && inB y (-lim) lim
def cross (ax ay bx by' cx cy : Int) : Int := (bx - ax) * (cy - ay) - (cx - ax) * (by' - ay)
def sgn (v : Int) : Int := if 0 < v then 1 else if v < 0 then -1 else 0
def mn (x y : Int) : Int := if y < x then y else x
def mx (x y : Int) : Int := if x < y then y else x
def onB (ax ay bx by' px py : Int) : Bool :=
  (cross ax ay bx by' px py == 0) && inB px (mn ax bx) (mx ax bx) && inB py (mn ay by') (mx ay by')
def meetB (ax ay bx by' cx cy dx dy : Int) : Bool :=
  (onB ax ay bx by' cx cy || onB ax ay bx by' dx dy || onB cx cy dx dy ax ay || onB cx cy dx dy bx by') ||
  (decide (sgn (cross ax ay bx by' cx cy) * sgn (cross ax ay bx by' dx dy) < 0) && decide (sgn (cross cx cy dx dy ax ay) * sgn (cross cx cy dx dy bx by') < 0))
def firstB (ax ay bx by' : Int) : Bool := decide (ay < by') || (ay == by' && decide (ax < bx))

/-- Polygons: a list of points. -/
def nx (l : List Pt) (i : Nat) : Pt := l.getD ((i + 1) % l.length) (0, 0)
def okP (p : Pt) : Bool := validB p.1 p.2 10000
def polyB (l : List Pt) : Bool := l.all okP && inB l.length 3 32

/-- The sum over the edges, up to the k-th. -/
def area2To (l : List Pt) : Nat → Int
  | 0 => 0
  | k + 1 => area2To l k + ((l.getD k (0, 0)).1 * (nx l k).2 - (nx l k).1 * (l.getD k (0, 0)).2)
def area2 (l : List Pt) : Int := area2To l l.length

/-- Simple polygons, as the reference finds them. -/
def gt (l : List Pt) (i : Nat) : Pt := l.getD i (0, 0)
def onP (a b p : Pt) : Bool := onB a.1 a.2 b.1 b.2 p.1 p.2
def meetP (a b c d : Pt) : Bool := meetB a.1 a.2 b.1 b.2 c.1 c.2 d.1 d.2
def eqI (x y x' y' : Int) : Bool := x == x' && y == y'
def eqP (a b : Pt) : Bool := eqI a.1 a.2 b.1 b.2
def zeroAt (l : List Pt) (i : Nat) : Bool := eqP (gt l i) (nx l i)
def foldAt (l : List Pt) (i : Nat) : Bool := onP (gt l i) (nx l i) (nx l (i + 1)) || onP (nx l i) (nx l (i + 1)) (gt l i)
def hitAt (l : List Pt) (i k : Nat) : Bool := !((k + 1) % l.length == i) && meetP (gt l i) (nx l i) (gt l k) (nx l k)
def simpleB (l : List Pt) : Bool :=
  (List.range l.length).all (fun i => !zeroAt l i) &&
    (List.range l.length).all (fun i => !foldAt l i && (List.range l.length).all fun k => decide (k < i + 2) || !hitAt l i k)

def crossP (a b c : Pt) : Int := cross a.1 a.2 b.1 b.2 c.1 c.2
def firstP (a b : Pt) : Bool := firstB a.1 a.2 b.1 b.2
def convexAt (l : List Pt) (i : Nat) : Bool := !decide (crossP (gt l i) (nx l i) (nx l (i + 1)) ≤ 0) && (i == 0 || firstP (gt l 0) (gt l i))
def convexB (l : List Pt) : Bool := simpleB l && (List.range l.length).all (convexAt l)

theorem inB_true {v lo hi : Int} : inB v lo hi = true ↔ lo ≤ v ∧ v ≤ hi := by simp [inB]
theorem inB_false {v lo hi : Int} : inB v lo hi = false ↔ v < lo ∨ hi < v := by
  simp [inB]; omega

/-- A product of two numbers of at most K. -/
theorem mul_le_of_abs {a b K L : Int} (ha : -K ≤ a ∧ a ≤ K) (hb : -L ≤ b ∧ b ≤ L) : -(K * L) ≤ a * b ∧ a * b ≤ K * L := by
  obtain ⟨a1, a2⟩ := ha
  obtain ⟨b1, b2⟩ := hb
  have hL : 0 ≤ L := by omega
  have h1 : 0 ≤ (K - a) * (L + b) := Int.mul_nonneg (by omega) (by omega)
  have h2 : 0 ≤ (K + a) * (L - b) := Int.mul_nonneg (by omega) (by omega)
  have h3 : 0 ≤ (K - a) * (L - b) := Int.mul_nonneg (by omega) (by omega)
  have h4 : 0 ≤ (K + a) * (L + b) := Int.mul_nonneg (by omega) (by omega)
  have e1 : (K - a) * (L + b) = K * L + K * b - a * L - a * b := by
    rw [Int.sub_mul, Int.mul_add, Int.mul_add]; omega
  have e2 : (K + a) * (L - b) = K * L - K * b + a * L - a * b := by
    rw [Int.add_mul, Int.mul_sub, Int.mul_sub]; omega
  have e3 : (K - a) * (L - b) = K * L - K * b - a * L + a * b := by
    rw [Int.sub_mul, Int.mul_sub, Int.mul_sub]; omega
  have e4 : (K + a) * (L + b) = K * L + K * b + a * L + a * b := by
    rw [Int.add_mul, Int.mul_add, Int.mul_add]; omega
  omega

theorem sgn_bd (v : Int) : -1 ≤ sgn v ∧ sgn v ≤ 1 := by
  unfold sgn; split
  · omega
  · split <;> omega

theorem okP_bd {p : Pt} (h : okP p = true) : (-10000 ≤ p.1 ∧ p.1 ≤ 10000) ∧ (-10000 ≤ p.2 ∧ p.2 ≤ 10000) := by
  simpa [okP, validB, inB] using h
theorem getD_ok {l : List Pt} (h : l.all okP = true) (i : Nat) : okP (l.getD i (0, 0)) = true := by
  rw [List.getD_eq_getElem?_getD]
  cases e : l[i]? with
  | none => rfl
  | some p => exact List.all_eq_true.1 h p (List.mem_of_getElem? e)
theorem nx_ok {l : List Pt} (h : l.all okP = true) (i : Nat) : okP (nx l i) = true := getD_ok h _
theorem term_bd {p q : Pt} (hp : okP p = true) (hq : okP q = true) : -200000000 ≤ p.1 * q.2 - q.1 * p.2 ∧ p.1 * q.2 - q.1 * p.2 ≤ 200000000 := by
  obtain ⟨p1, p2⟩ := okP_bd hp
  obtain ⟨q1, q2⟩ := okP_bd hq
  have a := mul_le_of_abs p1 q2
  have b := mul_le_of_abs q1 p2
  omega
theorem area2To_bd {l : List Pt} (h : l.all okP = true) : ∀ k : Nat, -(200000000 * (k : Int)) ≤ area2To l k ∧ area2To l k ≤ 200000000 * (k : Int)
  | 0 => by simp [area2To]
  | k + 1 => by
    have ih := area2To_bd h k
    have t := term_bd (getD_ok h k) (nx_ok h k)
    simp only [area2To]
    omega

theorem simpleB_zero {l : List Pt} {k : Nat} (hk : k < l.length) (h : zeroAt l k = true) : simpleB l = false := by
  have : (List.range l.length).all (fun i => !zeroAt l i) = false := by
    rw [List.all_eq_false]; exact ⟨k, List.mem_range.2 hk, by simp [h]⟩
  simp [simpleB, this]
theorem simpleB_fold {l : List Pt} {k : Nat} (hk : k < l.length) (h : foldAt l k = true) : simpleB l = false := by
  have : (List.range l.length).all (fun i => !foldAt l i && (List.range l.length).all fun k => decide (k < i + 2) || !hitAt l i k) = false := by
    rw [List.all_eq_false]; exact ⟨k, List.mem_range.2 hk, by simp [h]⟩
  simp only [simpleB, this, Bool.and_false]
theorem simpleB_hit {l : List Pt} {i k : Nat} (hi : i < l.length) (hk : k < l.length) (h2 : i + 2 ≤ k) (h : hitAt l i k = true) : simpleB l = false := by
  have : (List.range l.length).all (fun i => !foldAt l i && (List.range l.length).all fun k => decide (k < i + 2) || !hitAt l i k) = false := by
    rw [List.all_eq_false]; refine ⟨i, List.mem_range.2 hi, ?_⟩
    have : ((List.range l.length).all fun k => decide (k < i + 2) || !hitAt l i k) = false := by
      rw [List.all_eq_false]; refine ⟨k, List.mem_range.2 hk, ?_⟩
      rw [h, decide_eq_false (by omega)]; decide
    rw [this]; simp
  simp only [simpleB, this, Bool.and_false]
theorem simpleB_yes {l : List Pt} (h1 : ∀ j, j < l.length → zeroAt l j = false) (h2 : ∀ j, j < l.length → foldAt l j = false ∧ ∀ k, j + 2 ≤ k → k < l.length → hitAt l j k = false) : simpleB l = true := by
  unfold simpleB
  rw [Bool.and_eq_true, List.all_eq_true, List.all_eq_true]
  refine ⟨fun i hi => by rw [h1 i (List.mem_range.1 hi)]; rfl, fun i hi => ?_⟩
  obtain ⟨f, g⟩ := h2 i (List.mem_range.1 hi)
  rw [f, Bool.not_false, Bool.true_and, List.all_eq_true]
  intro k hk
  by_cases e : k < i + 2
  · rw [decide_eq_true e]; rfl
  · rw [g k (by omega) (List.mem_range.1 hk)]; simp

theorem convexB_no {l : List Pt} {k : Nat} (hk : k < l.length) (h : convexAt l k = false) : convexB l = false := by
  have : (List.range l.length).all (convexAt l) = false := by
    rw [List.all_eq_false]; exact ⟨k, List.mem_range.2 hk, by simp [h]⟩
  simp [convexB, this]
theorem convexB_yes {l : List Pt} (h0 : simpleB l = true) (h : ∀ j, j < l.length → convexAt l j = true) : convexB l = true := by
  unfold convexB
  rw [h0, Bool.true_and, List.all_eq_true]
  exact fun i hi => h i (List.mem_range.1 hi)

end Go.Proofs.YtlekncamokiekaaGreatDoor

/- Small words about worlds, used by all walks. -/
namespace Go.Proofs.YtlekncamokiekaaGreatDoor
open Go.RowKit

/-- Old cells and old marks read as before. -/
theorem old_cells {W w1 : World} (hb : Below W.heap.size W w1) :
    (∀ b o, b < W.heap.size → w1.cell? ⟨b, o, none⟩ = W.cell? ⟨b, o, none⟩) ∧ (∀ b o, b < W.heap.size → w1.frozen? ⟨b, o, none⟩ = W.frozen? ⟨b, o, none⟩) :=
  ⟨fun b o h => hb.cell (p := ⟨b, o, none⟩) h, fun b o h => hb.frozen (p := ⟨b, o, none⟩) h⟩

theorem retS_bool {a b : Bool} (h : a = b) : Ending.returned (.bool a) = .returned (.bool b) := by rw [h]
theorem retS_int {k : IntKind} {a b : Int} (h : a = b) : Ending.returned (.int k a) = .returned (.int k b) := by rw [h]

theorem run_min_mn {P : Program} {w : World} (ts : Array TypeId) (t : TypeId) (k k' : IntKind) (x y : Int) :
    (Builtin.min_ ts t #[.int k x, .int k' y]).run P w = .ok (.int k (mn x y)) w := run_min_int2 (P := P) (w := w) ts t k k' x y
theorem run_max_mx {P : Program} {w : World} (ts : Array TypeId) (t : TypeId) (k k' : IntKind) (x y : Int) :
    (Builtin.max_ ts t #[.int k x, .int k' y]).run P w = .ok (.int k (mx x y)) w := run_max_int2 (P := P) (w := w) ts t k k' x y

/-- A point lies at the head of a block. -/
def PtAt (w : World) (b : Nat) (x y : Int) : Prop := w.cell? ⟨b, 0, none⟩ = some (.int .i64 x) ∧ w.cell? ⟨b, 1, none⟩ = some (.int .i64 y)
theorem PtAt.below {w w1 : World} {B b : Nat} {x y : Int} (hb : Below B w w1) (h : b < B) (p : PtAt w b x y) : PtAt w1 b x y :=
  ⟨(hb.cell (p := ⟨b, 0, none⟩) h).trans p.1, (hb.cell (p := ⟨b, 1, none⟩) h).trans p.2⟩
theorem PtAt.drew {w : World} {b : Nat} {x y : Int} (p : PtAt w b x y) : PtAt w.drew b x y := p
theorem PtAt.alloc {w : World} {b : Nat} {x y : Int} (o : Obj) (h : b < w.heap.size) (p : PtAt w b x y) : PtAt (w.alloc o) b x y :=
  ⟨(World.cell?_alloc_lt w o ⟨b, 0, none⟩ h).trans p.1, (World.cell?_alloc_lt w o ⟨b, 1, none⟩ h).trans p.2⟩

/-- Four points stay behind a call that only makes new blocks. -/
theorem keep_four {w4 W w' : World} {n : Nat} {a1 a2 b1 b2 c1 c2 d1 d2 : Value} (h4 : n + 1 + 1 + 1 < w4.heap.size)
    (p : Below w4.heap.size w4 W ∧ W.cell? ⟨n, 0, none⟩ = some a1 ∧ W.cell? ⟨n, 1, none⟩ = some a2 ∧ W.cell? ⟨n + 1, 0, none⟩ = some b1 ∧ W.cell? ⟨n + 1, 1, none⟩ = some b2 ∧
      W.cell? ⟨n + 1 + 1, 0, none⟩ = some c1 ∧ W.cell? ⟨n + 1 + 1, 1, none⟩ = some c2 ∧ W.cell? ⟨n + 1 + 1 + 1, 0, none⟩ = some d1 ∧ W.cell? ⟨n + 1 + 1 + 1, 1, none⟩ = some d2)
    (hb : Below W.heap.size W w') :
    Below w4.heap.size w4 w' ∧ w'.cell? ⟨n, 0, none⟩ = some a1 ∧ w'.cell? ⟨n, 1, none⟩ = some a2 ∧ w'.cell? ⟨n + 1, 0, none⟩ = some b1 ∧ w'.cell? ⟨n + 1, 1, none⟩ = some b2 ∧
      w'.cell? ⟨n + 1 + 1, 0, none⟩ = some c1 ∧ w'.cell? ⟨n + 1 + 1, 1, none⟩ = some c2 ∧ w'.cell? ⟨n + 1 + 1 + 1, 0, none⟩ = some d1 ∧ w'.cell? ⟨n + 1 + 1 + 1, 1, none⟩ = some d2 := by
  obtain ⟨p0, p1, p2, p3, p4, p5, p6, p7, p8⟩ := p
  have hs := p0.size
  exact ⟨p0.trans (hb.mono hs), (hb.cell (p := ⟨_, _, none⟩) (by show n < _; omega)).trans p1, (hb.cell (p := ⟨_, _, none⟩) (by show n < _; omega)).trans p2, (hb.cell (p := ⟨_, _, none⟩) (by show n + 1 < _; omega)).trans p3, (hb.cell (p := ⟨_, _, none⟩) (by show n + 1 < _; omega)).trans p4,
    (hb.cell (p := ⟨_, _, none⟩) (by show n + 1 + 1 < _; omega)).trans p5, (hb.cell (p := ⟨_, _, none⟩) (by show n + 1 + 1 < _; omega)).trans p6, (hb.cell (p := ⟨_, _, none⟩) (by show n + 1 + 1 + 1 < _; omega)).trans p7, (hb.cell (p := ⟨_, _, none⟩) (by show n + 1 + 1 + 1 < _; omega)).trans p8⟩

section
variable {wr W w' : World} {N b : Nat} {o1 o2 : Nat} {v1 v2 : Value}
/-- Two cells of an old block stay: behind a call that only makes new blocks, behind a new block, behind a store into a new block. -/
theorem keep_call (p : Below wr.heap.size wr W ∧ W.cell? ⟨b, o1, none⟩ = some v1 ∧ W.cell? ⟨b, o2, none⟩ = some v2) (hB : b < wr.heap.size) (hb : Below W.heap.size W w') :
    Below wr.heap.size wr w' ∧ w'.cell? ⟨b, o1, none⟩ = some v1 ∧ w'.cell? ⟨b, o2, none⟩ = some v2 :=
  have hs := p.1.size
  ⟨p.1.trans (hb.mono hs), (hb.cell (p := ⟨b, _, none⟩) (Nat.lt_of_lt_of_le hB hs)).trans p.2.1, (hb.cell (p := ⟨b, _, none⟩) (Nat.lt_of_lt_of_le hB hs)).trans p.2.2⟩
theorem keep_alloc (p : Below wr.heap.size wr W ∧ W.cell? ⟨b, o1, none⟩ = some v1 ∧ W.cell? ⟨b, o2, none⟩ = some v2) (hB : b < wr.heap.size) (o : Obj) :
    Below wr.heap.size wr (W.alloc o) ∧ (W.alloc o).cell? ⟨b, o1, none⟩ = some v1 ∧ (W.alloc o).cell? ⟨b, o2, none⟩ = some v2 :=
  keep_call p hB ((Below.refl _ _).alloc (Nat.le_refl _) o)
theorem keep_drew (p : Below wr.heap.size wr W ∧ W.cell? ⟨b, o1, none⟩ = some v1 ∧ W.cell? ⟨b, o2, none⟩ = some v2) :
    Below wr.heap.size wr W.drew ∧ W.drew.cell? ⟨b, o1, none⟩ = some v1 ∧ W.drew.cell? ⟨b, o2, none⟩ = some v2 :=
  ⟨p.1.drew, p.2.1, p.2.2⟩
theorem keep_set (p : Below wr.heap.size wr W ∧ W.cell? ⟨b, o1, none⟩ = some v1 ∧ W.cell? ⟨b, o2, none⟩ = some v2) (hB : b < wr.heap.size) (q : Addr) (hq : wr.heap.size ≤ q.block) (u : Value) :
    Below wr.heap.size wr (W.setCell q u) ∧ (W.setCell q u).cell? ⟨b, o1, none⟩ = some v1 ∧ (W.setCell q u).cell? ⟨b, o2, none⟩ = some v2 :=
  ⟨p.1.setCell hq u, (World.cell?_setCell_other W q _ u (fun e => by subst e; simp at hq; omega)).trans p.2.1, (World.cell?_setCell_other W q _ u (fun e => by subst e; simp at hq; omega)).trans p.2.2⟩
end

/-- Two cells at the head of a block, whatever they hold. -/
def PtRoom (w : World) (b : Nat) : Prop := (w.cell? ⟨b, 0, none⟩).isSome = true ∧ (w.cell? ⟨b, 1, none⟩).isSome = true
theorem PtRoom.new {w : World} {u v : Value} {t : TypeId} : PtRoom (w.alloc (.cells #[u, v] t)) w.heap.size := by
  constructor <;> simp [World.cell?_alloc_new]
theorem PtRoom.alloc {w : World} {b : Nat} {o : Obj} (h : b < w.heap.size) (r : PtRoom w b) : PtRoom (w.alloc o) b :=
  ⟨by rw [World.cell?_alloc_lt w o ⟨b, 0, none⟩ h]; exact r.1, by rw [World.cell?_alloc_lt w o ⟨b, 1, none⟩ h]; exact r.2⟩
theorem PtRoom.drew {w : World} {b : Nat} (r : PtRoom w b) : PtRoom w.drew b := r
theorem PtRoom.call {w w1 : World} {b : Nat} (hb : Below w.heap.size w w1) (h : b < w.heap.size) (r : PtRoom w b) : PtRoom w1 b :=
  ⟨by rw [hb.cell (p := ⟨b, 0, none⟩) h]; exact r.1, by rw [hb.cell (p := ⟨b, 1, none⟩) h]; exact r.2⟩
theorem PtRoom.set {w : World} {b : Nat} {q : Addr} {u : Value} (r : PtRoom w b) : PtRoom (w.setCell q u) b := by
  constructor
  · by_cases e : q = ⟨b, 0, none⟩
    · subst e; rw [World.cell?_setCell_same' _ _ _ r.1]; rfl
    · rw [World.cell?_setCell_other _ _ _ _ e]; exact r.1
  · by_cases e : q = ⟨b, 1, none⟩
    · subst e; rw [World.cell?_setCell_same' _ _ _ r.2]; rfl
    · rw [World.cell?_setCell_other _ _ _ _ e]; exact r.2
theorem room11 {w : World} {u v : Value} {t : TypeId} : PtRoom (w.alloc (.cells #[u, v] t)).drew w.heap.size := PtRoom.new
theorem room21 {w : World} {u v : Value} {t : TypeId} {o : Obj} : PtRoom ((w.alloc (.cells #[u, v] t)).alloc o).drew w.heap.size := PtRoom.alloc (by simp) PtRoom.new
theorem room22 {w : World} {u v : Value} {t : TypeId} {o : Obj} : PtRoom ((w.alloc o).alloc (.cells #[u, v] t)).drew (w.heap.size + 1) := by
  have := PtRoom.new (w := w.alloc o) (u := u) (v := v) (t := t); rw [World.size_alloc] at this; exact this
theorem PtAt.new {w : World} {x y : Int} {t : TypeId} : PtAt (w.alloc (.cells #[.int .i64 x, .int .i64 y] t)) w.heap.size x y := by
  constructor <;> simp [World.cell?_alloc_new]
theorem PtAt.stored {w : World} {b : Nat} (r : PtRoom w b) (x y : Int) : PtAt ((w.setCell ⟨b, 0, none⟩ (.int .i64 x)).setCell ⟨b, 1, none⟩ (.int .i64 y)) b x y := by
  constructor
  · rw [World.cell?_setCell_other _ _ _ _ (by simp), World.cell?_setCell_same' _ _ _ r.1]
  · rw [World.cell?_setCell_same' _ _ _ (PtRoom.set r).2]
theorem PtAt.set_far {w : World} {b : Nat} {x y : Int} {q : Addr} {u : Value} (h : q.block ≠ b) (p : PtAt w b x y) : PtAt (w.setCell q u) b x y :=
  ⟨(World.cell?_setCell_other _ _ _ _ (fun e => h (by rw [e]))).trans p.1, (World.cell?_setCell_other _ _ _ _ (fun e => h (by rw [e]))).trans p.2⟩

/-- What lies below the new blocks stays, when what comes after them stays. -/
theorem below_of2 {w w1 : World} {a b : Obj} (h : Below (w.heap.size + 1 + 1) ((w.alloc a).alloc b) w1) : Below w.heap.size w w1 :=
  ((Below.refl _ _).alloc (Nat.le_refl _) a |>.alloc (by simp) b).trans (h.mono (by omega))
theorem below_of3 {w w1 : World} {a b c : Obj} (h : Below (w.heap.size + 1 + 1 + 1) (((w.alloc a).alloc b).alloc c) w1) : Below w.heap.size w w1 :=
  ((Below.refl _ _).alloc (Nat.le_refl _) a |>.alloc (by simp) b |>.alloc (by simp; omega) c).trans (h.mono (by omega))
theorem below_of4 {w w1 : World} {a b c d : Obj} (h : Below (w.heap.size + 1 + 1 + 1 + 1) ((((w.alloc a).alloc b).alloc c).alloc d) w1) : Below w.heap.size w w1 :=
  ((Below.refl _ _).alloc (Nat.le_refl _) a |>.alloc (by simp) b |>.alloc (by simp; omega) c |>.alloc (by simp; omega) d).trans (h.mono (by omega))

end Go.Proofs.YtlekncamokiekaaGreatDoor

/- Contracts of the reference's small functions. -/
namespace Go.Proofs.YtlekncamokiekaaGreatDoor
open Go.RowKit
attribute [local go_sem ↓] run_min_mn run_max_mx

end Go.Proofs.YtlekncamokiekaaGreatDoor

/- Contracts of package shape's small functions. -/
namespace Go.Proofs.YtlekncamokiekaaGreatDoor
open Go.RowKit Go.Sort
attribute [local go_sem ↓] run_min_mn run_max_mx

end Go.Proofs.YtlekncamokiekaaGreatDoor

/- Parameters that are points lie in new blocks: what is known of them. -/
namespace Go.Proofs.YtlekncamokiekaaGreatDoor
open Go.RowKit

/-- A point's box. -/
abbrev bx (x y : Int) : Obj := .cells #[.int .i64 x, .int .i64 y] 41

def Boxed2 (w W : World) (ax ay bx by' : Int) : Prop :=
  PtAt W w.heap.size ax ay ∧ PtAt W (w.heap.size + 1) bx by' ∧ Below w.heap.size w W ∧ W.heap.size = w.heap.size + 2
theorem boxed2 (w : World) (a1 a2 b1 b2 : Int) : Boxed2 w ((w.alloc (bx a1 a2)).alloc (bx b1 b2)) a1 a2 b1 b2 := by
  refine ⟨PtAt.new.alloc _ (by simp), ?_, (Below.refl _ _).alloc (Nat.le_refl _) _ |>.alloc (by simp) _, by simp⟩
  have := PtAt.new (w := w.alloc (bx a1 a2)) (x := b1) (y := b2) (t := 41)
  rwa [World.size_alloc] at this

def Boxed3 (w W : World) (ax ay bx by' cx cy : Int) : Prop :=
  PtAt W w.heap.size ax ay ∧ PtAt W (w.heap.size + 1) bx by' ∧ PtAt W (w.heap.size + 1 + 1) cx cy ∧ Below w.heap.size w W ∧ W.heap.size = w.heap.size + 3
theorem boxed3 (w : World) (a1 a2 b1 b2 c1 c2 : Int) : Boxed3 w (((w.alloc (bx a1 a2)).alloc (bx b1 b2)).alloc (bx c1 c2)) a1 a2 b1 b2 c1 c2 := by
  obtain ⟨h1, h2, h3, h4⟩ := boxed2 w a1 a2 b1 b2
  refine ⟨h1.alloc _ (by omega), h2.alloc _ (by omega), ?_, h3.alloc (by omega) _, by simp⟩
  have := PtAt.new (w := (w.alloc (bx a1 a2)).alloc (bx b1 b2)) (x := c1) (y := c2) (t := 41)
  rwa [World.size_alloc, World.size_alloc] at this

def Boxed4 (w W : World) (ax ay bx by' cx cy dx dy : Int) : Prop :=
  PtAt W w.heap.size ax ay ∧ PtAt W (w.heap.size + 1) bx by' ∧ PtAt W (w.heap.size + 1 + 1) cx cy ∧ PtAt W (w.heap.size + 1 + 1 + 1) dx dy ∧ Below w.heap.size w W ∧ W.heap.size = w.heap.size + 4
theorem boxed4 (w : World) (a1 a2 b1 b2 c1 c2 d1 d2 : Int) : Boxed4 w ((((w.alloc (bx a1 a2)).alloc (bx b1 b2)).alloc (bx c1 c2)).alloc (bx d1 d2)) a1 a2 b1 b2 c1 c2 d1 d2 := by
  obtain ⟨h1, h2, h3, h4, h5⟩ := boxed3 w a1 a2 b1 b2 c1 c2
  refine ⟨h1.alloc _ (by omega), h2.alloc _ (by omega), h3.alloc _ (by omega), ?_, h4.alloc (by omega) _, by simp⟩
  have := PtAt.new (w := ((w.alloc (bx a1 a2)).alloc (bx b1 b2)).alloc (bx c1 c2)) (x := d1) (y := d2) (t := 41)
  rwa [World.size_alloc, World.size_alloc, World.size_alloc] at this

end Go.Proofs.YtlekncamokiekaaGreatDoor

/- Do two segments meet? The reference's function, by its plain twin. -/
namespace Go.Proofs.YtlekncamokiekaaGreatDoor
open Go.RowKit Go.Sort
attribute [local go_sem ↓] run_min_mn run_max_mx

end Go.Proofs.YtlekncamokiekaaGreatDoor

/- Polygons: the reference's functions on slices of points. -/
namespace Go.Proofs.YtlekncamokiekaaGreatDoor
open Go.RowKit Go.Sort
attribute [local go_sem ↓] run_min_mn run_max_mx

/-- The points of a list lie one after the other in a block. -/
def PtsIn (w : World) (b off : Nat) (l : List Pt) : Prop :=
  ∀ i p, l[i]? = some p → w.cell? ⟨b, off + i * 2, none⟩ = some (.int .i64 p.1) ∧ w.cell? ⟨b, off + i * 2 + 1, none⟩ = some (.int .i64 p.2)
theorem PtsIn.below {w w' : World} {B b off : Nat} {l : List Pt} (h : PtsIn w b off l) (hb : Below B w w') (hB : b < B) : PtsIn w' b off l :=
  fun i p hp => ⟨(hb.cell (p := ⟨b, _, none⟩) hB).trans (h i p hp).1, (hb.cell (p := ⟨b, _, none⟩) hB).trans (h i p hp).2⟩

end Go.Proofs.YtlekncamokiekaaGreatDoor

/- Package shape: the points of a slice, its edges, its area. -/
namespace Go.Proofs.YtlekncamokiekaaGreatDoor
open Go.RowKit Go.Sort
attribute [local go_sem ↓] run_min_mn run_max_mx

end Go.Proofs.YtlekncamokiekaaGreatDoor

/- Package shape: which slices are polygons. -/
namespace Go.Proofs.YtlekncamokiekaaGreatDoor
open Go.RowKit Go.Sort
attribute [local go_sem ↓] run_min_mn run_max_mx

/-- A slice reads as a list of points. -/
def PtsAt (w : World) (A : Option Addr) (l : List Pt) : Prop := l ≠ [] → ∃ b off, A = some ⟨b, off, none⟩ ∧ b < w.heap.size ∧ PtsIn w b off l
theorem PtsAt.below {w w' : World} {A : Option Addr} {l : List Pt} (h : PtsAt w A l) (hb : Below w.heap.size w w') : PtsAt w' A l := fun hne => by
  obtain ⟨b, off, e, hlt, hp⟩ := h hne
  exact ⟨b, off, e, Nat.lt_of_lt_of_le hlt hb.size, hp.below hb hlt⟩
theorem PtsAt.belows {w w' : World} {A : Option Addr} {l : List Pt} {B : Nat} (h : PtsAt w A l) (hb : Below B w w') (hB : w.heap.size ≤ B) : PtsAt w' A l := fun hne => by
  obtain ⟨b, off, e, hlt, hp⟩ := h hne
  exact ⟨b, off, e, Nat.lt_of_lt_of_le hlt hb.size, hp.below hb (by omega)⟩
theorem PtsAt.nil (w : World) (A : Option Addr) : PtsAt w A [] := fun h => absurd rfl h

def farP (p : Pt) : Bool := !okP p
def anyFar (l : List Pt) : Bool := l.any farP

/-- Is one found that is far? -/
def FoundFar (l : List Pt) (w : World) (e : Ending) (w' : World) : Prop := ∃ i : Int, e = .returned (.int .i64 i) ∧ decide (0 ≤ i) = anyFar l ∧ Below w.heap.size w w'

/-- As many points as a polygon may have, all of them valid. -/
def ptsB (l : List Pt) (least : Nat) : Bool := decide (least ≤ l.length) && decide (l.length ≤ 32) && l.all okP
theorem anyFar_not (l : List Pt) : (!anyFar l) = l.all okP := by
  unfold anyFar
  induction l with
  | nil => rfl
  | cons p l ih => simp only [List.any_cons, List.all_cons, Bool.not_or, ih]; simp [farP]

theorem polyB_pts (l : List Pt) : ptsB l 3 = polyB l := by
  rw [Bool.eq_iff_iff]
  simp only [ptsB, polyB, inB, Bool.and_eq_true, decide_eq_true_eq]
  constructor
  · rintro ⟨⟨a, b⟩, c⟩; exact ⟨c, by omega, by omega⟩
  · rintro ⟨c, a, b⟩; exact ⟨⟨by omega, by omega⟩, c⟩

end Go.Proofs.YtlekncamokiekaaGreatDoor

/- Slices of points, and points, that came in: what they read as. -/
namespace Go.Proofs.YtlekncamokiekaaGreatDoor
open Go.ChangeShapes Go.WideShapes Go.ChangeAt Go.RowKit Go.Deep

theorem cells_pt : Tryz.prog.cellsOf 41 = 2 := by kernel_rfl
theorem cells_int1 : Tryz.prog.cellsOf 3 = 1 := by kernel_rfl

set_option maxRecDepth 100000 in
theorem fields_pt : ∃ f0 f1 : Field, Tryz.prog.underlying 41 = some (.struct #[f0, f1]) ∧ f0.offset = 0 ∧ f1.offset = 1 ∧ f0.type = 3 ∧ f1.type = 3 := by
  have h : Tryz.prog.underlying 41 = some (.struct (Tryz.prog.fieldsOf 41)) := by kernel_rfl
  have k : (Tryz.prog.fieldsOf 41).toList.map (fun f => (f.type, f.offset)) = [(3, 0), (3, 1)] := by kernel_rfl
  generalize Tryz.prog.fieldsOf 41 = fs at *
  obtain ⟨l⟩ := fs
  match l, k with
  | [f0, f1], k =>
    simp only [List.map_cons, List.map_nil, List.cons.injEq, Prod.mk.injEq, and_true] at k
    exact ⟨f0, f1, h, k.1.2, k.2.2, k.1.1, k.2.1⟩

set_option maxRecDepth 100000 in
theorem pts_open {H : Type} {enc : TypeId × Value → H} {W : World} {A : Option Addr} {n c : Nat} {d : DataW H} {p : List MemPlace} (h : DataW.Trod enc Tryz.prog W 0 (fun _ => true) true 22 (.slice A n c) d p) :
    ∃ xs : List Pt, xs.length = n ∧ n ≤ c ∧ n ≤ 9223372036854775807 ∧ (∀ x ∈ xs, (-9223372036854775808 ≤ x.1 ∧ x.1 ≤ 9223372036854775807) ∧ (-9223372036854775808 ≤ x.2 ∧ x.2 ≤ 9223372036854775807)) ∧ PtsAt W A xs := by
  obtain ⟨fuel, hf⟩ := h
  obtain ⟨f0, f1, hs, o0, o1, t0, t1⟩ := fields_pt
  rcases open_slice_pairs Tryz.underlying22 hs cells_pt o0 o1 (by rw [t0]; exact cells_int1) (by rw [t1]; exact cells_int1) hf with ⟨hcs, hx⟩ | ⟨a, len, cap, m, n', V0, V1, D0, D1, P0, P1, hcs, hb, hl, hm, hmm, hx, hi⟩
  · simp [Value.cells] at hcs
    obtain ⟨rfl, rfl, rfl⟩ := hcs
    exact ⟨[], rfl, Nat.le_refl _, by omega, by simp, PtsAt.nil _ _⟩
  · simp [Value.cells] at hcs
    obtain ⟨e0, e1, e2⟩ := hcs
    subst e0
    have e1' : n = len := by first | exact e1 | exact e1.symm
    have e2' : c = cap := by first | exact e2 | exact e2.symm
    clear e1 e2
    subst e1' e2'
    simp only [if_true] at hmm
    subst m
    simp only [maxLen] at hm
    rw [t0, t1] at hi
    have each : ∀ i, i < c → ∃ q : Pt, W.cell? (a.add (i * 2)) = some (.int .i64 q.1) ∧ W.cell? (a.add (i * 2 + 1)) = some (.int .i64 q.2) ∧ ((-9223372036854775808 ≤ q.1 ∧ q.1 ≤ 9223372036854775807) ∧ (-9223372036854775808 ≤ q.2 ∧ q.2 ≤ 9223372036854775807)) := by
      intro i hic
      obtain ⟨c0, c1, d0, d1⟩ := hi i hic
      obtain ⟨x, e0, _, w0⟩ := DataW.trod_int Tryz.underlying3 d0
      obtain ⟨y, e1, _, w1⟩ := DataW.trod_int Tryz.underlying3 d1
      simp only [List.cons.injEq, and_true] at e0 e1
      rw [e0] at c0
      rw [e1] at c1
      exact ⟨(x, y), c0, c1, bounds_i64 w0, bounds_i64 w1⟩
    obtain ⟨q, hq⟩ := choose_lt each
    refine ⟨(List.range n).map q, by simp, hl, by omega, fun x hx => ?_, fun hne => ?_⟩
    · obtain ⟨i, hi', rfl⟩ := List.mem_map.1 hx
      exact (hq i (by have := List.mem_range.1 hi'; omega)).2.2
    · have hn : 0 < n := by
        rcases Nat.eq_zero_or_pos n with h0 | h0
        · subst h0; simp at hne
        · exact h0
      obtain ⟨b, off, key⟩ := a
      have hk : key = none := by simpa [Addr.add] using World.cell?_spot ((hq 0 (by omega)).1)
      subst hk
      have e : ∀ j, (⟨b, off, none⟩ : Addr).add j = ⟨b, off + j, none⟩ := fun j => by unfold Addr.add; split <;> simp_all
      refine ⟨b, off, rfl, ?_, fun i p hp => ?_⟩
      · have := (hq 0 (by omega)).1
        rw [e] at this
        exact World.block_lt_of_cell? W _ this
      · rw [List.getElem?_map] at hp
        have hin : i < n := by
          rcases Nat.lt_or_ge i n with g | g
          · exact g
          · rw [List.getElem?_eq_none (by simpa using g)] at hp; cases hp
        rw [List.getElem?_range hin] at hp
        obtain rfl : q i = p := by simpa using hp
        obtain ⟨c0, c1, _⟩ := hq i (by omega)
        rw [e] at c0 c1
        exact ⟨by simpa [Nat.add_assoc] using c0, by simpa [Nat.add_assoc] using c1⟩

set_option maxRecDepth 100000 in
theorem pt_open {H : Type} {enc : TypeId × Value → H} {W : World} {r : Reach} {b0 : Nat} {v : Value} {d : DataW H} {p : List MemPlace} (hv : Value.okWide Tryz.prog W r b0 41 v) (h : DataW.Trod enc Tryz.prog W 0 (fun _ => true) true 41 v d p) :
    ∃ a b : Int, v = .agg #[.int .i64 a, .int .i64 b] ∧ d = .agg [.lit (.int .i64 a), .lit (.int .i64 b)] ∧ p = [] ∧ (Lit.int .i64 a).wf = true ∧ (Lit.int .i64 b).wf = true := by
  obtain ⟨f0, f1, hs, o0, o1, t0, t1⟩ := fields_pt
  have hone : oneCellFields Tryz.prog #[f0, f1] = true := by
    have : (Tryz.prog.underlying 41).map (fun u => match u with | .struct fs => oneCellFields Tryz.prog fs | _ => false) = some true := by kernel_rfl
    rw [hs] at this
    simpa using this
  obtain ⟨v0, v1, y0, y1, n, rfl, rfl, rfl, g0, g1⟩ := Go.Joins.open_agg2 hs hone cells_pt hv h
  rw [t0] at g0
  rw [t1] at g1
  obtain ⟨x, e0, k0, w0⟩ := DataW.trod_int Tryz.underlying3 g0
  obtain ⟨y, e1, k1, w1⟩ := DataW.trod_int Tryz.underlying3 g1
  simp only [List.cons.injEq, and_true] at e0 e1
  subst e0 e1 k0 k1
  exact ⟨x, y, rfl, rfl, rfl, w0, w1⟩
end Go.Proofs.YtlekncamokiekaaGreatDoor

/- Cutters that came in by value: what they read as. -/
namespace Go.Proofs.YtlekncamokiekaaGreatDoor
open Go.ChangeShapes Go.WideShapes Go.ChangeAt Go.RowKit Go.Deep

theorem cells_cutter3 : Tryz.prog.cellsOf 24 = 3 := by kernel_rfl
set_option maxRecDepth 100000 in
theorem fields_cutter : ∃ f0 f1 f2 : Field, Tryz.prog.underlying 24 = some (.struct #[f0, f1, f2]) ∧ f0.type = 22 ∧ f1.type = 4 ∧ f2.type = 4 := by
  have h : Tryz.prog.underlying 24 = some (.struct (Tryz.prog.fieldsOf 24)) := by kernel_rfl
  have k : (Tryz.prog.fieldsOf 24).toList.map (fun f => f.type) = [22, 4, 4] := by kernel_rfl
  generalize Tryz.prog.fieldsOf 24 = fs at *
  obtain ⟨l⟩ := fs
  match l, k with
  | [f0, f1, f2], k =>
    simp only [List.map_cons, List.map_nil, List.cons.injEq, and_true] at k
    exact ⟨f0, f1, f2, h, k.1, k.2.1, k.2.2⟩

set_option maxRecDepth 100000 in
theorem cutter_open {H : Type} {enc : TypeId × Value → H} {W : World} {r : Reach} {b0 : Nat} {v : Value} {d : DataW H} {p : List MemPlace} (hv : Value.okWide Tryz.prog W r b0 24 v) (h : DataW.Trod enc Tryz.prog W 0 (fun _ => true) true 24 v d p) :
    ∃ (A : Option Addr) (n c : Nat) (l : List Pt) (t f : Bool), v = .agg #[.slice A n c, .bool t, .bool f] ∧ l.length = n ∧ n ≤ c ∧ n ≤ 9223372036854775807 ∧ PtsAt W A l := by
  obtain ⟨f0, f1, f2, hs, t0, t1, t2⟩ := fields_cutter
  have hone : oneCellFields Tryz.prog #[f0, f1, f2] = true := by
    have : (Tryz.prog.underlying 24).map (fun u => match u with | .struct fs => oneCellFields Tryz.prog fs | _ => false) = some true := by kernel_rfl
    rw [hs] at this
    simpa only [Option.map_some, Option.some.injEq] using this
  obtain ⟨v0, v1, v2, y0, y1, y2, n, rfl, rfl, rfl, g0, g1, g2⟩ := Go.Joins.open_agg3 hs hone cells_cutter3 hv h
  rw [t0] at g0
  rw [t1] at g1
  rw [t2] at g2
  obtain ⟨tb, e1, -⟩ := DataW.trod_bool Tryz.underlying4 g1
  obtain ⟨fb, e2, -⟩ := DataW.trod_bool Tryz.underlying4 g2
  simp only [List.cons.injEq, and_true] at e1 e2
  subst e1 e2
  obtain ⟨A, m, c, e⟩ : ∃ A m c, v0 = .slice A m c := by
    rcases open_slice Tryz.underlying22 g0 with ⟨hcs, -⟩ | ⟨a, len, cap, _, _, _, _, hcs, -⟩
    · simp only [List.cons.injEq, and_true] at hcs
      exact ⟨_, _, _, hcs⟩
    · simp only [List.cons.injEq, and_true] at hcs
      exact ⟨_, _, _, hcs⟩
  subst e
  obtain ⟨l, a1, a2, a3, -, a5⟩ := pts_open (d := y0.1) (p := y0.2) ⟨n, g0⟩
  exact ⟨A, m, c, l, tb, fb, rfl, a1, a2, a3, a5⟩
end Go.Proofs.YtlekncamokiekaaGreatDoor
