/- Parts of the proof, one after the other: Pure, Kit, Ref, DevLeaf, DevBox, Meet, Poly, DevPoly, DevPts, PtsOpen, PolysOpen, ArrOpen, NestedFrame, PtsOwn, PtsCut, Area, DevBack, DevMeet. -/
import Derived.Below
import Derived.Calls
import Derived.WalkKit
import Derived.Test.YthbekbfhpedghaaProg
import Derived.WalkSpells
import Derived.WalkLawsBesides
import Derived.Handy
import Derived.Lib.Hide
import Derived.Lib.QuietBelow
import Derived.BigQuiet
import Derived.Deep.RegionHeld3
import Derived.Deep.DrawnRows
import Derived.Deep.DeepCutAuto
import Derived.ChangeSlices
import Derived.OpenShut
import Derived.ProofKit
import Derived.Deep.SlicePairs
import Derived.Lib.SmallJoins
import Derived.Deep.Slices
import Derived.Test.YthbekbfhpedghaaRows
import Derived.JoinedOf
import Derived.Carry
import Derived.Maps.AppendAt
import Derived.Deep.AppendLies
import Derived.OwnWalk
import Derived.Laws.Rows
/- Plain functions on points and lists of points, as chapter 4's reference computes them. -/
namespace Go.Proofs.Ythbekbfhpedghaa

abbrev Pt := Int × Int

def inB (v lo hi : Int) : Bool := decide (lo ≤ v) && decide (v ≤ hi)
def validB (x y lim : Int) : Bool := inB x (-lim) lim && inB y (-lim) lim
def cross (ax ay bx by' cx cy : Int) : Int := (bx - ax) * (cy - ay) - (cx - ax) * (by' - ay)
def sgn (v : Int) : Int := if 0 < v then 1 else if v < 0 then -1 else 0
def mn (x y : Int) : Int := if y < x then y else x
def mx (x y : Int) : Int := if x < y then y else x
def onB (ax ay bx by' px py : Int) : Bool :=
  (cross ax ay bx by' px py == 0) && inB px (mn ax bx) (mx ax bx) && inB py (mn ay by') (mx ay by')
def meetB (ax ay bx by' cx cy dx dy : Int) : Bool :=
  (onB ax ay bx by' cx cy || onB ax ay bx by' dx dy || onB cx cy dx dy ax ay || onB cx cy dx dy bx by') ||
  (decide (sgn (cross ax ay bx by' cx cy) * sgn (cross ax ay bx by' dx dy) < 0) && decide (sgn (cross cx cy dx dy ax ay) * sgn (cross cx cy dx dy bx by') < 0))
def firstB (ax ay bx by' : Int) : Bool := decide (ay < by') || (ay == by' && decide (ax < bx))

/-- Polygons: a list of points. -/
def nx (l : List Pt) (i : Nat) : Pt := l.getD ((i + 1) % l.length) (0, 0)
def okP (p : Pt) : Bool := validB p.1 p.2 10000
def polyB (l : List Pt) : Bool := l.all okP && inB l.length 3 32

/-- The sum over the edges, up to the k-th. -/
def area2To (l : List Pt) : Nat → Int
  | 0 => 0
  | k + 1 => area2To l k + ((l.getD k (0, 0)).1 * (nx l k).2 - (nx l k).1 * (l.getD k (0, 0)).2)
def area2 (l : List Pt) : Int := area2To l l.length

/-- Simple polygons, as the reference finds them. -/
def gt (l : List Pt) (i : Nat) : Pt := l.getD i (0, 0)
def onP (a b p : Pt) : Bool := onB a.1 a.2 b.1 b.2 p.1 p.2
def meetP (a b c d : Pt) : Bool := meetB a.1 a.2 b.1 b.2 c.1 c.2 d.1 d.2
def eqI (x y x' y' : Int) : Bool := x == x' && y == y'
def eqP (a b : Pt) : Bool := eqI a.1 a.2 b.1 b.2
def zeroAt (l : List Pt) (i : Nat) : Bool := eqP (gt l i) (nx l i)
def foldAt (l : List Pt) (i : Nat) : Bool := onP (gt l i) (nx l i) (nx l (i + 1)) || onP (nx l i) (nx l (i + 1)) (gt l i)
def hitAt (l : List Pt) (i k : Nat) : Bool := !((k + 1) % l.length == i) && meetP (gt l i) (nx l i) (gt l k) (nx l k)
def simpleB (l : List Pt) : Bool :=
  (List.range l.length).all (fun i => !zeroAt l i) &&
    (List.range l.length).all (fun i => !foldAt l i && (List.range l.length).all fun k => decide (k < i + 2) || !hitAt l i k)

def crossP (a b c : Pt) : Int := cross a.1 a.2 b.1 b.2 c.1 c.2
def firstP (a b : Pt) : Bool := firstB a.1 a.2 b.1 b.2
def convexAt (l : List Pt) (i : Nat) : Bool := !decide (crossP (gt l i) (nx l i) (nx l (i + 1)) ≤ 0) && (i == 0 || firstP (gt l 0) (gt l i))
def convexB (l : List Pt) : Bool := simpleB l && (List.range l.length).all (convexAt l)

theorem inB_true {v lo hi : Int} : inB v lo hi = true ↔ lo ≤ v ∧ v ≤ hi := by simp [inB]
theorem inB_false {v lo hi : Int} : inB v lo hi = false ↔ v < lo ∨ hi < v := by
  simp [inB]; omega

/-- A product of two numbers of at most K. -/
theorem mul_le_of_abs {a b K L : Int} (ha : -K ≤ a ∧ a ≤ K) (hb : -L ≤ b ∧ b ≤ L) : -(K * L) ≤ a * b ∧ a * b ≤ K * L := by
  obtain ⟨a1, a2⟩ := ha
  obtain ⟨b1, b2⟩ := hb
  have hL : 0 ≤ L := by omega
  have h1 : 0 ≤ (K - a) * (L + b) := Int.mul_nonneg (by omega) (by omega)
  have h2 : 0 ≤ (K + a) * (L - b) := Int.mul_nonneg (by omega) (by omega)
  have h3 : 0 ≤ (K - a) * (L - b) := Int.mul_nonneg (by omega) (by omega)
  have h4 : 0 ≤ (K + a) * (L + b) := Int.mul_nonneg (by omega) (by omega)
  have e1 : (K - a) * (L + b) = K * L + K * b - a * L - a * b := by
    rw [Int.sub_mul, Int.mul_add, Int.mul_add]; omega
  have e2 : (K + a) * (L - b) = K * L - K * b + a * L - a * b := by
    rw [Int.add_mul, Int.mul_sub, Int.mul_sub]; omega
  have e3 : (K - a) * (L - b) = K * L - K * b - a * L + a * b := by
    rw [Int.sub_mul, Int.mul_sub, Int.mul_sub]; omega
  have e4 : (K + a) * (L + b) = K * L + K * b + a * L + a * b := by
    rw [Int.add_mul, Int.mul_add, Int.mul_add]; omega
  omega

theorem sgn_bd (v : Int) : -1 ≤ sgn v ∧ sgn v ≤ 1 := by
  unfold sgn; split
  · omega
  · split <;> omega

theorem okP_bd {p : Pt} (h : okP p = true) : (-10000 ≤ p.1 ∧ p.1 ≤ 10000) ∧ (-10000 ≤ p.2 ∧ p.2 ≤ 10000) := by
  simpa [okP, validB, inB] using h
theorem getD_ok {l : List Pt} (h : l.all okP = true) (i : Nat) : okP (l.getD i (0, 0)) = true := by
  rw [List.getD_eq_getElem?_getD]
  cases e : l[i]? with
  | none => rfl
  | some p => exact List.all_eq_true.1 h p (List.mem_of_getElem? e)
theorem nx_ok {l : List Pt} (h : l.all okP = true) (i : Nat) : okP (nx l i) = true := getD_ok h _
theorem term_bd {p q : Pt} (hp : okP p = true) (hq : okP q = true) : -200000000 ≤ p.1 * q.2 - q.1 * p.2 ∧ p.1 * q.2 - q.1 * p.2 ≤ 200000000 := by
  obtain ⟨p1, p2⟩ := okP_bd hp
  obtain ⟨q1, q2⟩ := okP_bd hq
  have a := mul_le_of_abs p1 q2
  have b := mul_le_of_abs q1 p2
  omega
theorem area2To_bd {l : List Pt} (h : l.all okP = true) : ∀ k : Nat, -(200000000 * (k : Int)) ≤ area2To l k ∧ area2To l k ≤ 200000000 * (k : Int)
  | 0 => by simp [area2To]
  | k + 1 => by
    have ih := area2To_bd h k
    have t := term_bd (getD_ok h k) (nx_ok h k)
    simp only [area2To]
    omega

theorem simpleB_zero {l : List Pt} {k : Nat} (hk : k < l.length) (h : zeroAt l k = true) : simpleB l = false := by
  have : (List.range l.length).all (fun i => !zeroAt l i) = false := by
    rw [List.all_eq_false]; exact ⟨k, List.mem_range.2 hk, by simp [h]⟩
  simp [simpleB, this]
theorem simpleB_fold {l : List Pt} {k : Nat} (hk : k < l.length) (h : foldAt l k = true) : simpleB l = false := by
  have : (List.range l.length).all (fun i => !foldAt l i && (List.range l.length).all fun k => decide (k < i + 2) || !hitAt l i k) = false := by
    rw [List.all_eq_false]; exact ⟨k, List.mem_range.2 hk, by simp [h]⟩
  simp only [simpleB, this, Bool.and_false]
theorem simpleB_hit {l : List Pt} {i k : Nat} (hi : i < l.length) (hk : k < l.length) (h2 : i + 2 ≤ k) (h : hitAt l i k = true) : simpleB l = false := by
  have : (List.range l.length).all (fun i => !foldAt l i && (List.range l.length).all fun k => decide (k < i + 2) || !hitAt l i k) = false := by
    rw [List.all_eq_false]; refine ⟨i, List.mem_range.2 hi, ?_⟩
    have : ((List.range l.length).all fun k => decide (k < i + 2) || !hitAt l i k) = false := by
      rw [List.all_eq_false]; refine ⟨k, List.mem_range.2 hk, ?_⟩
      rw [h, decide_eq_false (by omega)]; decide
    rw [this]; simp
  simp only [simpleB, this, Bool.and_false]
theorem simpleB_yes {l : List Pt} (h1 : ∀ j, j < l.length → zeroAt l j = false) (h2 : ∀ j, j < l.length → foldAt l j = false ∧ ∀ k, j + 2 ≤ k → k < l.length → hitAt l j k = false) : simpleB l = true := by
  unfold simpleB
  rw [Bool.and_eq_true, List.all_eq_true, List.all_eq_true]
  refine ⟨fun i hi => by rw [h1 i (List.mem_range.1 hi)]; rfl, fun i hi => ?_⟩
  obtain ⟨f, g⟩ := h2 i (List.mem_range.1 hi)
  rw [f, Bool.not_false, Bool.true_and, List.all_eq_true]
  intro k hk
  by_cases e : k < i + 2
  · rw [decide_eq_true e]; rfl
  · rw [g k (by omega) (List.mem_range.1 hk)]; simp

theorem convexB_no {l : List Pt} {k : Nat} (hk : k < l.length) (h : convexAt l k = false) : convexB l = false := by
  have : (List.range l.length).all (convexAt l) = false := by
    rw [List.all_eq_false]; exact ⟨k, List.mem_range.2 hk, by simp [h]⟩
  simp [convexB, this]
theorem convexB_yes {l : List Pt} (h0 : simpleB l = true) (h : ∀ j, j < l.length → convexAt l j = true) : convexB l = true := by
  unfold convexB
  rw [h0, Bool.true_and, List.all_eq_true]
  exact fun i hi => h i (List.mem_range.1 hi)

end Go.Proofs.Ythbekbfhpedghaa

/- Small words about worlds, used by all walks. -/
namespace Go.Proofs.Ythbekbfhpedghaa
open Go.RowKit

/-- Old cells and old marks read as before. -/
theorem old_cells {W w1 : World} (hb : Below W.heap.size W w1) :
    (∀ b o, b < W.heap.size → w1.cell? ⟨b, o, none⟩ = W.cell? ⟨b, o, none⟩) ∧ (∀ b o, b < W.heap.size → w1.frozen? ⟨b, o, none⟩ = W.frozen? ⟨b, o, none⟩) :=
  ⟨fun b o h => hb.cell (p := ⟨b, o, none⟩) h, fun b o h => hb.frozen (p := ⟨b, o, none⟩) h⟩

theorem ret_bool {a b : Bool} (h : a = b) : Ending.returned (.bool a) = .returned (.bool b) := by rw [h]
theorem ret_int {k : IntKind} {a b : Int} (h : a = b) : Ending.returned (.int k a) = .returned (.int k b) := by rw [h]

theorem run_min_mn {P : Program} {w : World} (ts : Array TypeId) (t : TypeId) (k k' : IntKind) (x y : Int) :
    (Builtin.min_ ts t #[.int k x, .int k' y]).run P w = .ok (.int k (mn x y)) w := run_min_int2 (P := P) (w := w) ts t k k' x y
theorem run_max_mx {P : Program} {w : World} (ts : Array TypeId) (t : TypeId) (k k' : IntKind) (x y : Int) :
    (Builtin.max_ ts t #[.int k x, .int k' y]).run P w = .ok (.int k (mx x y)) w := run_max_int2 (P := P) (w := w) ts t k k' x y

/-- A point lies at the head of a block. -/
def PtAt (w : World) (b : Nat) (x y : Int) : Prop := w.cell? ⟨b, 0, none⟩ = some (.int .i64 x) ∧ w.cell? ⟨b, 1, none⟩ = some (.int .i64 y)
theorem PtAt.below {w w1 : World} {B b : Nat} {x y : Int} (hb : Below B w w1) (h : b < B) (p : PtAt w b x y) : PtAt w1 b x y :=
  ⟨(hb.cell (p := ⟨b, 0, none⟩) h).trans p.1, (hb.cell (p := ⟨b, 1, none⟩) h).trans p.2⟩
theorem PtAt.drew {w : World} {b : Nat} {x y : Int} (p : PtAt w b x y) : PtAt w.drew b x y := p
theorem PtAt.alloc {w : World} {b : Nat} {x y : Int} (o : Obj) (h : b < w.heap.size) (p : PtAt w b x y) : PtAt (w.alloc o) b x y :=
  ⟨(World.cell?_alloc_lt w o ⟨b, 0, none⟩ h).trans p.1, (World.cell?_alloc_lt w o ⟨b, 1, none⟩ h).trans p.2⟩

/-- Four points stay behind a call that only makes new blocks. -/
theorem keep_four {w4 W w' : World} {n : Nat} {a1 a2 b1 b2 c1 c2 d1 d2 : Value} (h4 : n + 1 + 1 + 1 < w4.heap.size)
    (p : Below w4.heap.size w4 W ∧ W.cell? ⟨n, 0, none⟩ = some a1 ∧ W.cell? ⟨n, 1, none⟩ = some a2 ∧ W.cell? ⟨n + 1, 0, none⟩ = some b1 ∧ W.cell? ⟨n + 1, 1, none⟩ = some b2 ∧
      W.cell? ⟨n + 1 + 1, 0, none⟩ = some c1 ∧ W.cell? ⟨n + 1 + 1, 1, none⟩ = some c2 ∧ W.cell? ⟨n + 1 + 1 + 1, 0, none⟩ = some d1 ∧ W.cell? ⟨n + 1 + 1 + 1, 1, none⟩ = some d2)
    (hb : Below W.heap.size W w') :
    Below w4.heap.size w4 w' ∧ w'.cell? ⟨n, 0, none⟩ = some a1 ∧ w'.cell? ⟨n, 1, none⟩ = some a2 ∧ w'.cell? ⟨n + 1, 0, none⟩ = some b1 ∧ w'.cell? ⟨n + 1, 1, none⟩ = some b2 ∧
      w'.cell? ⟨n + 1 + 1, 0, none⟩ = some c1 ∧ w'.cell? ⟨n + 1 + 1, 1, none⟩ = some c2 ∧ w'.cell? ⟨n + 1 + 1 + 1, 0, none⟩ = some d1 ∧ w'.cell? ⟨n + 1 + 1 + 1, 1, none⟩ = some d2 := by
  obtain ⟨p0, p1, p2, p3, p4, p5, p6, p7, p8⟩ := p
  have hs := p0.size
  exact ⟨p0.trans (hb.mono hs), (hb.cell (p := ⟨_, _, none⟩) (by show n < _; omega)).trans p1, (hb.cell (p := ⟨_, _, none⟩) (by show n < _; omega)).trans p2, (hb.cell (p := ⟨_, _, none⟩) (by show n + 1 < _; omega)).trans p3, (hb.cell (p := ⟨_, _, none⟩) (by show n + 1 < _; omega)).trans p4,
    (hb.cell (p := ⟨_, _, none⟩) (by show n + 1 + 1 < _; omega)).trans p5, (hb.cell (p := ⟨_, _, none⟩) (by show n + 1 + 1 < _; omega)).trans p6, (hb.cell (p := ⟨_, _, none⟩) (by show n + 1 + 1 + 1 < _; omega)).trans p7, (hb.cell (p := ⟨_, _, none⟩) (by show n + 1 + 1 + 1 < _; omega)).trans p8⟩

section
variable {wr W w' : World} {N b : Nat} {o1 o2 : Nat} {v1 v2 : Value}
/-- Two cells of an old block stay: behind a call that only makes new blocks, behind a new block, behind a store into a new block. -/
theorem keep_call (p : Below wr.heap.size wr W ∧ W.cell? ⟨b, o1, none⟩ = some v1 ∧ W.cell? ⟨b, o2, none⟩ = some v2) (hB : b < wr.heap.size) (hb : Below W.heap.size W w') :
    Below wr.heap.size wr w' ∧ w'.cell? ⟨b, o1, none⟩ = some v1 ∧ w'.cell? ⟨b, o2, none⟩ = some v2 :=
  have hs := p.1.size
  ⟨p.1.trans (hb.mono hs), (hb.cell (p := ⟨b, _, none⟩) (Nat.lt_of_lt_of_le hB hs)).trans p.2.1, (hb.cell (p := ⟨b, _, none⟩) (Nat.lt_of_lt_of_le hB hs)).trans p.2.2⟩
theorem keep_alloc (p : Below wr.heap.size wr W ∧ W.cell? ⟨b, o1, none⟩ = some v1 ∧ W.cell? ⟨b, o2, none⟩ = some v2) (hB : b < wr.heap.size) (o : Obj) :
    Below wr.heap.size wr (W.alloc o) ∧ (W.alloc o).cell? ⟨b, o1, none⟩ = some v1 ∧ (W.alloc o).cell? ⟨b, o2, none⟩ = some v2 :=
  keep_call p hB ((Below.refl _ _).alloc (Nat.le_refl _) o)
theorem keep_drew (p : Below wr.heap.size wr W ∧ W.cell? ⟨b, o1, none⟩ = some v1 ∧ W.cell? ⟨b, o2, none⟩ = some v2) :
    Below wr.heap.size wr W.drew ∧ W.drew.cell? ⟨b, o1, none⟩ = some v1 ∧ W.drew.cell? ⟨b, o2, none⟩ = some v2 :=
  ⟨p.1.drew, p.2.1, p.2.2⟩
theorem keep_set (p : Below wr.heap.size wr W ∧ W.cell? ⟨b, o1, none⟩ = some v1 ∧ W.cell? ⟨b, o2, none⟩ = some v2) (hB : b < wr.heap.size) (q : Addr) (hq : wr.heap.size ≤ q.block) (u : Value) :
    Below wr.heap.size wr (W.setCell q u) ∧ (W.setCell q u).cell? ⟨b, o1, none⟩ = some v1 ∧ (W.setCell q u).cell? ⟨b, o2, none⟩ = some v2 :=
  ⟨p.1.setCell hq u, (World.cell?_setCell_other W q _ u (fun e => by subst e; simp at hq; omega)).trans p.2.1, (World.cell?_setCell_other W q _ u (fun e => by subst e; simp at hq; omega)).trans p.2.2⟩
end

/-- Two cells at the head of a block, whatever they hold. -/
def PtRoom (w : World) (b : Nat) : Prop := (w.cell? ⟨b, 0, none⟩).isSome = true ∧ (w.cell? ⟨b, 1, none⟩).isSome = true
theorem PtRoom.new {w : World} {u v : Value} {t : TypeId} : PtRoom (w.alloc (.cells #[u, v] t)) w.heap.size := by
  constructor <;> simp [World.cell?_alloc_new]
theorem PtRoom.alloc {w : World} {b : Nat} {o : Obj} (h : b < w.heap.size) (r : PtRoom w b) : PtRoom (w.alloc o) b :=
  ⟨by rw [World.cell?_alloc_lt w o ⟨b, 0, none⟩ h]; exact r.1, by rw [World.cell?_alloc_lt w o ⟨b, 1, none⟩ h]; exact r.2⟩
theorem PtRoom.drew {w : World} {b : Nat} (r : PtRoom w b) : PtRoom w.drew b := r
theorem PtRoom.call {w w1 : World} {b : Nat} (hb : Below w.heap.size w w1) (h : b < w.heap.size) (r : PtRoom w b) : PtRoom w1 b :=
  ⟨by rw [hb.cell (p := ⟨b, 0, none⟩) h]; exact r.1, by rw [hb.cell (p := ⟨b, 1, none⟩) h]; exact r.2⟩
theorem PtRoom.set {w : World} {b : Nat} {q : Addr} {u : Value} (r : PtRoom w b) : PtRoom (w.setCell q u) b := by
  constructor
  · by_cases e : q = ⟨b, 0, none⟩
    · subst e; rw [World.cell?_setCell_same' _ _ _ r.1]; rfl
    · rw [World.cell?_setCell_other _ _ _ _ e]; exact r.1
  · by_cases e : q = ⟨b, 1, none⟩
    · subst e; rw [World.cell?_setCell_same' _ _ _ r.2]; rfl
    · rw [World.cell?_setCell_other _ _ _ _ e]; exact r.2
theorem room11 {w : World} {u v : Value} {t : TypeId} : PtRoom (w.alloc (.cells #[u, v] t)).drew w.heap.size := PtRoom.new
theorem room21 {w : World} {u v : Value} {t : TypeId} {o : Obj} : PtRoom ((w.alloc (.cells #[u, v] t)).alloc o).drew w.heap.size := PtRoom.alloc (by simp) PtRoom.new
theorem room22 {w : World} {u v : Value} {t : TypeId} {o : Obj} : PtRoom ((w.alloc o).alloc (.cells #[u, v] t)).drew (w.heap.size + 1) := by
  have := PtRoom.new (w := w.alloc o) (u := u) (v := v) (t := t); rw [World.size_alloc] at this; exact this
theorem PtAt.new {w : World} {x y : Int} {t : TypeId} : PtAt (w.alloc (.cells #[.int .i64 x, .int .i64 y] t)) w.heap.size x y := by
  constructor <;> simp [World.cell?_alloc_new]
theorem PtAt.stored {w : World} {b : Nat} (r : PtRoom w b) (x y : Int) : PtAt ((w.setCell ⟨b, 0, none⟩ (.int .i64 x)).setCell ⟨b, 1, none⟩ (.int .i64 y)) b x y := by
  constructor
  · rw [World.cell?_setCell_other _ _ _ _ (by simp), World.cell?_setCell_same' _ _ _ r.1]
  · rw [World.cell?_setCell_same' _ _ _ (PtRoom.set r).2]
theorem PtAt.set_far {w : World} {b : Nat} {x y : Int} {q : Addr} {u : Value} (h : q.block ≠ b) (p : PtAt w b x y) : PtAt (w.setCell q u) b x y :=
  ⟨(World.cell?_setCell_other _ _ _ _ (fun e => h (by rw [e]))).trans p.1, (World.cell?_setCell_other _ _ _ _ (fun e => h (by rw [e]))).trans p.2⟩

/-- What lies below the new blocks stays, when what comes after them stays. -/
theorem below_of2 {w w1 : World} {a b : Obj} (h : Below (w.heap.size + 1 + 1) ((w.alloc a).alloc b) w1) : Below w.heap.size w w1 :=
  ((Below.refl _ _).alloc (Nat.le_refl _) a |>.alloc (by simp) b).trans (h.mono (by omega))
theorem below_of3 {w w1 : World} {a b c : Obj} (h : Below (w.heap.size + 1 + 1 + 1) (((w.alloc a).alloc b).alloc c) w1) : Below w.heap.size w w1 :=
  ((Below.refl _ _).alloc (Nat.le_refl _) a |>.alloc (by simp) b |>.alloc (by simp; omega) c).trans (h.mono (by omega))
theorem below_of4 {w w1 : World} {a b c d : Obj} (h : Below (w.heap.size + 1 + 1 + 1 + 1) ((((w.alloc a).alloc b).alloc c).alloc d) w1) : Below w.heap.size w w1 :=
  ((Below.refl _ _).alloc (Nat.le_refl _) a |>.alloc (by simp) b |>.alloc (by simp; omega) c |>.alloc (by simp; omega) d).trans (h.mono (by omega))

end Go.Proofs.Ythbekbfhpedghaa

/- Contracts of the reference's small functions. -/
namespace Go.Proofs.Ythbekbfhpedghaa
open Go.RowKit
attribute [local go_sem ↓] run_min_mn run_max_mx

theorem in_any (v lo hi : Int) (w : World) :
    Calls Try.prog 35 #[.int .i64 v, .int .i64 lo, .int .i64 hi] w fun e w' => e = .returned (.bool (inB v lo hi)) ∧ w = w' := by
  go_enter Try.func35, Try.ntmps35
  go_wp2
  · rename_i h
    go_ret
    exact ⟨by simp [inB, h], rfl⟩
  · rename_i h
    go_ret
    exact ⟨by simp [inB]; omega, rfl⟩

theorem valid_any (x y lim : Int) (hl : 0 ≤ lim ∧ lim ≤ 1000000) (w : World) :
    Calls Try.prog 34 #[.agg #[.int .i64 x, .int .i64 y], .int .i64 lim] w fun e w' => e = .returned (.bool (validB x y lim)) ∧ Below w.heap.size w w' := by
  have b1 := hl.1
  have b2 := hl.2
  clear hl
  cases hx : inB x (-lim) lim
  · have H := Lib.hid hx
    clear hx
    go_enter Try.func34, Try.ntmps34
    go_wp2_with (go_at_call 35; refine (in_any _ _ _ _).mono ?_; rintro e w' ⟨rfl, rfl⟩; rw [H.out])
    go_ret
    exact ⟨by simp [validB, H.out], by go_grown⟩
  · have H := Lib.hid hx
    clear hx
    go_enter Try.func34, Try.ntmps34
    go_wp2_with (go_at_call 35; refine (in_any _ _ _ _).mono ?_; rintro e w' ⟨rfl, rfl⟩; try rw [H.out])
    go_ret
    exact ⟨by simp [validB, H.out], by go_grown⟩

theorem cross_any (ax ay bx by' cx cy : Int) (w : World)
    (h1 : -60000 ≤ ax ∧ ax ≤ 60000) (h2 : -60000 ≤ ay ∧ ay ≤ 60000) (h3 : -60000 ≤ bx ∧ bx ≤ 60000) (h4 : -60000 ≤ by' ∧ by' ≤ 60000) (h5 : -60000 ≤ cx ∧ cx ≤ 60000) (h6 : -60000 ≤ cy ∧ cy ≤ 60000) :
    Calls Try.prog 37 #[.agg #[.int .i64 ax, .int .i64 ay], .agg #[.int .i64 bx, .int .i64 by'], .agg #[.int .i64 cx, .int .i64 cy]] w fun e w' =>
      e = .returned (.int .i64 (cross ax ay bx by' cx cy)) ∧ Below w.heap.size w w' := by
  have p1 := mul_le_of_abs (a := bx - ax) (b := cy - ay) (K := 120000) (L := 120000) (by omega) (by omega)
  have p2 := mul_le_of_abs (a := cx - ax) (b := by' - ay) (K := 120000) (L := 120000) (by omega) (by omega)
  go_enter Try.func37, Try.ntmps37
  go_wp2
  go_ret
  exact ⟨rfl, by go_grown⟩

theorem sign_any (v : Int) (w : World) :
    Calls Try.prog 74 #[.int .i64 v] w fun e w' => e = .returned (.int .i64 (sgn v)) ∧ w = w' := by
  go_enter Try.func74, Try.ntmps74
  go_wp2
  · rename_i h
    go_ret
    exact ⟨by simp [sgn, h], rfl⟩
  · rename_i h h'
    go_ret
    exact ⟨ret_int (by rw [sgn, if_neg (by omega), if_pos h']), rfl⟩
  · rename_i h h'
    go_ret
    exact ⟨ret_int (by rw [sgn, if_neg (by omega), if_neg (by omega)]), rfl⟩

theorem sign_below (v : Int) (w : World) :
    Calls Try.prog 74 #[.int .i64 v] w fun e w' => e = .returned (.int .i64 (sgn v)) ∧ Below w.heap.size w w' :=
  (sign_any v w).mono fun _ _ ⟨he, hw⟩ => ⟨he, hw ▸ Below.refl _ _⟩

theorem first_any (ax ay bx by' : Int) (w : World) :
    Calls Try.prog 39 #[.agg #[.int .i64 ax, .int .i64 ay], .agg #[.int .i64 bx, .int .i64 by']] w fun e w' =>
      e = .returned (.bool (firstB ax ay bx by')) ∧ Below w.heap.size w w' := by
  go_enter Try.func39, Try.ntmps39
  go_wp2
  · rename_i h h'
    go_ret
    exact ⟨by subst h'; simp [firstB], by go_grown⟩
  · rename_i h h'
    go_ret
    exact ⟨by simp [firstB, h'], by go_grown⟩
  · rename_i h
    go_ret
    exact ⟨by simp [firstB, h], by go_grown⟩

theorem on_any (ax ay bx by' px py : Int) (w : World)
    (h1 : -60000 ≤ ax ∧ ax ≤ 60000) (h2 : -60000 ≤ ay ∧ ay ≤ 60000) (h3 : -60000 ≤ bx ∧ bx ≤ 60000) (h4 : -60000 ≤ by' ∧ by' ≤ 60000) (h5 : -60000 ≤ px ∧ px ≤ 60000) (h6 : -60000 ≤ py ∧ py ≤ 60000) :
    Calls Try.prog 46 #[.agg #[.int .i64 ax, .int .i64 ay], .agg #[.int .i64 bx, .int .i64 by'], .agg #[.int .i64 px, .int .i64 py]] w fun e w' =>
      e = .returned (.bool (onB ax ay bx by' px py)) ∧ Below w.heap.size w w' := by
  have C := fun W => Lib.hid (cross_any ax ay bx by' px py W h1 h2 h3 h4 h5 h6)
  clear h1 h2 h3 h4 h5 h6
  go_enter Try.func46, Try.ntmps46
  go_wp2_with fail
  refine ((C _).out).mono ?_
  rintro e w1 ⟨rfl, hb⟩
  obtain ⟨hc, hf⟩ := old_cells hb
  go_wp2_with (go_at_call 35; refine (in_any _ _ _ _).mono ?_; rintro e w' ⟨rfl, rfl⟩)
  · rename_i h1 h2
    go_ret
    exact ⟨ret_bool (by simp [onB, h1, h2]), (((Below.refl _ _).alloc (Nat.le_refl _) _).alloc (by simp) _).alloc (by simp; omega) _ |>.trans (hb.mono (by simp; omega))⟩
  · rename_i h1 h2
    go_ret
    exact ⟨ret_bool (by simp [onB, h2]), (((Below.refl _ _).alloc (Nat.le_refl _) _).alloc (by simp) _).alloc (by simp; omega) _ |>.trans (hb.mono (by simp; omega))⟩
  · rename_i h1
    go_ret
    exact ⟨ret_bool (by simp [onB, h1]), (((Below.refl _ _).alloc (Nat.le_refl _) _).alloc (by simp) _).alloc (by simp; omega) _ |>.trans (hb.mono (by simp; omega))⟩

end Go.Proofs.Ythbekbfhpedghaa

/- Contracts of package shape's small functions. -/
namespace Go.Proofs.Ythbekbfhpedghaa
open Go.RowKit Go.Sort
attribute [local go_sem ↓] run_min_mn run_max_mx

theorem isNear_any (x y lim : Int) (hl : 0 ≤ lim ∧ lim ≤ 1000000) (w : World) :
    Calls Try.prog 61 #[.agg #[.int .i64 x, .int .i64 y], .int .i64 lim] w fun e w' => e = .returned (.bool (validB x y lim)) ∧ Below w.heap.size w w' := by
  have b1 := hl.1
  have b2 := hl.2
  have e : validB x y lim = (decide (-lim ≤ mn x y) && decide (mx x y ≤ lim)) := by
    rw [Bool.eq_iff_iff]
    unfold validB inB mn mx
    by_cases g : y < x <;> by_cases g' : x < y <;> simp [g, g'] <;> omega
  have H := Lib.hid e
  clear hl e
  generalize validB x y lim = v at *
  go_enter Try.func61, Try.ntmps61
  go_wp2
  all_goals
    go_ret
    refine ⟨ret_bool ?_, by go_grown⟩
    rw [H.out]
    simp
    try omega

theorem minus_any (ax ay bx by' : Int) (w : World) (h1 : -200000 ≤ ax ∧ ax ≤ 200000) (h2 : -200000 ≤ ay ∧ ay ≤ 200000) (h3 : -200000 ≤ bx ∧ bx ≤ 200000) (h4 : -200000 ≤ by' ∧ by' ≤ 200000) :
    Calls Try.prog 32 #[.agg #[.int .i64 ax, .int .i64 ay], .agg #[.int .i64 bx, .int .i64 by']] w fun e w' =>
      e = .returned (.agg #[.int .i64 (ax - bx), .int .i64 (ay - by')]) ∧ Below w.heap.size w w' := by
  go_enter Try.func32, Try.ntmps32
  go_wp2
  go_returns
  exact ⟨rfl, by go_grown⟩

theorem crossD_any (ax ay bx by' : Int) (w : World) (h1 : -400000 ≤ ax ∧ ax ≤ 400000) (h2 : -400000 ≤ ay ∧ ay ≤ 400000) (h3 : -400000 ≤ bx ∧ bx ≤ 400000) (h4 : -400000 ≤ by' ∧ by' ≤ 400000) :
    Calls Try.prog 58 #[.agg #[.int .i64 ax, .int .i64 ay], .agg #[.int .i64 bx, .int .i64 by']] w fun e w' =>
      e = .returned (.int .i64 (ax * by' - bx * ay)) ∧ Below w.heap.size w w' := by
  have p1 := mul_le_of_abs h1 h4
  have p2 := mul_le_of_abs h3 h2
  go_enter Try.func58, Try.ntmps58
  go_wp2
  go_ret
  exact ⟨rfl, by go_grown⟩

set_option maxHeartbeats 800000 in
theorem turn_any (ax ay bx by' cx cy : Int) (w : World)
    (h1 : -60000 ≤ ax ∧ ax ≤ 60000) (h2 : -60000 ≤ ay ∧ ay ≤ 60000) (h3 : -60000 ≤ bx ∧ bx ≤ 60000) (h4 : -60000 ≤ by' ∧ by' ≤ 60000) (h5 : -60000 ≤ cx ∧ cx ≤ 60000) (h6 : -60000 ≤ cy ∧ cy ≤ 60000) :
    Calls Try.prog 48 #[.agg #[.int .i64 ax, .int .i64 ay], .agg #[.int .i64 bx, .int .i64 by'], .agg #[.int .i64 cx, .int .i64 cy]] w fun e w' =>
      e = .returned (.int .i64 (cross ax ay bx by' cx cy)) ∧ Below w.heap.size w w' := by
  have M1 := fun W => Lib.hid (minus_any bx by' ax ay W (by omega) (by omega) (by omega) (by omega))
  have M2 := fun W => Lib.hid (minus_any cx cy ax ay W (by omega) (by omega) (by omega) (by omega))
  have C := fun W => Lib.hid (crossD_any (bx - ax) (by' - ay) (cx - ax) (cy - ay) W (by omega) (by omega) (by omega) (by omega))
  clear h1 h2 h3 h4 h5 h6
  go_enter Try.func48, Try.ntmps48
  go_wp2_with fail
  generalize hW : (((w.alloc (.cells #[.int .i64 ax, .int .i64 ay] 37)).alloc (.cells #[.int .i64 bx, .int .i64 by'] 37)).alloc (.cells #[.int .i64 cx, .int .i64 cy] 37)) = W0 at *
  have ta := PtAt.new (w := w) (x := ax) (y := ay) (t := 37) |>.alloc (.cells #[.int .i64 bx, .int .i64 by'] 37) (by simp) |>.alloc (.cells #[.int .i64 cx, .int .i64 cy] 37) (by simp; omega)
  have tb := PtAt.new (w := w.alloc (.cells #[.int .i64 ax, .int .i64 ay] 37)) (x := bx) (y := by') (t := 37) |>.alloc (.cells #[.int .i64 cx, .int .i64 cy] 37) (by simp)
  have tc := PtAt.new (w := (w.alloc (.cells #[.int .i64 ax, .int .i64 ay] 37)).alloc (.cells #[.int .i64 bx, .int .i64 by'] 37)) (x := cx) (y := cy) (t := 37)
  have hbw : Below w.heap.size w W0 := by subst hW; exact ((Below.refl _ _).alloc (Nat.le_refl _) _ |>.alloc (by simp) _ |>.alloc (by simp; omega) _)
  rw [hW] at ta tb tc
  simp only [World.size_alloc] at tb tc
  clear hW
  obtain ⟨a1, a2⟩ := ta
  obtain ⟨b1, b2⟩ := tb
  obtain ⟨c1, c2⟩ := tc
  have K1 := fun d os => Lib.hid (Calls.regrown_of ((M1 (grow (redrawn W0 d) os)).out))
  have K2 := fun d os => Lib.hid (Calls.regrown_of ((M2 (grow (redrawn W0 d) os)).out))
  have K3 := fun d os => Lib.hid (Calls.regrown_of ((C (grow (redrawn W0 d) os)).out))
  have t1 := cell_regrown a1
  have t2 := cell_regrown a2
  have t3 := cell_regrown b1
  have t4 := cell_regrown b2
  have t5 := cell_regrown c1
  have t6 := cell_regrown c2
  clear a1 a2 b1 b2 c1 c2 M1 M2 C
  refine wp_region_quiet_below (by kernel_rfl) (by kernel_rfl) ?_
  repeat (go_big_quiet_step (first | (with_reducible exact (K1 _ _).out) | (with_reducible exact (K2 _ _).out) | (with_reducible exact (K3 _ _).out)))
  refine wpQuiet_nil ?_
  intro _ hw'
  obtain ⟨⟨dq, osq⟩, hw''⟩ := hw'
  subst hw''
  go_wp2
  go_ret
  exact ⟨rfl, hbw.trans ((below_regrown W0 dq osq).mono hbw.size)⟩

end Go.Proofs.Ythbekbfhpedghaa

/- Parameters that are points lie in new blocks: what is known of them. -/
namespace Go.Proofs.Ythbekbfhpedghaa
open Go.RowKit

/-- A point's box. -/
abbrev bx (x y : Int) : Obj := .cells #[.int .i64 x, .int .i64 y] 37

def Boxed2 (w W : World) (ax ay bx by' : Int) : Prop :=
  PtAt W w.heap.size ax ay ∧ PtAt W (w.heap.size + 1) bx by' ∧ Below w.heap.size w W ∧ W.heap.size = w.heap.size + 2
theorem boxed2 (w : World) (a1 a2 b1 b2 : Int) : Boxed2 w ((w.alloc (bx a1 a2)).alloc (bx b1 b2)) a1 a2 b1 b2 := by
  refine ⟨PtAt.new.alloc _ (by simp), ?_, (Below.refl _ _).alloc (Nat.le_refl _) _ |>.alloc (by simp) _, by simp⟩
  have := PtAt.new (w := w.alloc (bx a1 a2)) (x := b1) (y := b2) (t := 37)
  rwa [World.size_alloc] at this

def Boxed3 (w W : World) (ax ay bx by' cx cy : Int) : Prop :=
  PtAt W w.heap.size ax ay ∧ PtAt W (w.heap.size + 1) bx by' ∧ PtAt W (w.heap.size + 1 + 1) cx cy ∧ Below w.heap.size w W ∧ W.heap.size = w.heap.size + 3
theorem boxed3 (w : World) (a1 a2 b1 b2 c1 c2 : Int) : Boxed3 w (((w.alloc (bx a1 a2)).alloc (bx b1 b2)).alloc (bx c1 c2)) a1 a2 b1 b2 c1 c2 := by
  obtain ⟨h1, h2, h3, h4⟩ := boxed2 w a1 a2 b1 b2
  refine ⟨h1.alloc _ (by omega), h2.alloc _ (by omega), ?_, h3.alloc (by omega) _, by simp⟩
  have := PtAt.new (w := (w.alloc (bx a1 a2)).alloc (bx b1 b2)) (x := c1) (y := c2) (t := 37)
  rwa [World.size_alloc, World.size_alloc] at this

def Boxed4 (w W : World) (ax ay bx by' cx cy dx dy : Int) : Prop :=
  PtAt W w.heap.size ax ay ∧ PtAt W (w.heap.size + 1) bx by' ∧ PtAt W (w.heap.size + 1 + 1) cx cy ∧ PtAt W (w.heap.size + 1 + 1 + 1) dx dy ∧ Below w.heap.size w W ∧ W.heap.size = w.heap.size + 4
theorem boxed4 (w : World) (a1 a2 b1 b2 c1 c2 d1 d2 : Int) : Boxed4 w ((((w.alloc (bx a1 a2)).alloc (bx b1 b2)).alloc (bx c1 c2)).alloc (bx d1 d2)) a1 a2 b1 b2 c1 c2 d1 d2 := by
  obtain ⟨h1, h2, h3, h4, h5⟩ := boxed3 w a1 a2 b1 b2 c1 c2
  refine ⟨h1.alloc _ (by omega), h2.alloc _ (by omega), h3.alloc _ (by omega), ?_, h4.alloc (by omega) _, by simp⟩
  have := PtAt.new (w := ((w.alloc (bx a1 a2)).alloc (bx b1 b2)).alloc (bx c1 c2)) (x := d1) (y := d2) (t := 37)
  rwa [World.size_alloc, World.size_alloc, World.size_alloc] at this

end Go.Proofs.Ythbekbfhpedghaa

/- Do two segments meet? The reference's function, by its plain twin. -/
namespace Go.Proofs.Ythbekbfhpedghaa
open Go.RowKit Go.Sort
attribute [local go_sem ↓] run_min_mn run_max_mx

set_option maxHeartbeats 800000 in
theorem meet_any (ax ay bx by' cx cy dx dy : Int) (w : World)
    (h1 : -60000 ≤ ax ∧ ax ≤ 60000) (h2 : -60000 ≤ ay ∧ ay ≤ 60000) (h3 : -60000 ≤ bx ∧ bx ≤ 60000) (h4 : -60000 ≤ by' ∧ by' ≤ 60000) (h5 : -60000 ≤ cx ∧ cx ≤ 60000) (h6 : -60000 ≤ cy ∧ cy ≤ 60000) (h7 : -60000 ≤ dx ∧ dx ≤ 60000) (h8 : -60000 ≤ dy ∧ dy ≤ 60000) :
    Calls Try.prog 57 #[.agg #[.int .i64 ax, .int .i64 ay], .agg #[.int .i64 bx, .int .i64 by'], .agg #[.int .i64 cx, .int .i64 cy], .agg #[.int .i64 dx, .int .i64 dy]] w fun e w' =>
      e = .returned (.bool (meetB ax ay bx by' cx cy dx dy)) ∧ Below w.heap.size w w' := by
  have O1 := fun W => Lib.hid (on_any ax ay bx by' cx cy W h1 h2 h3 h4 h5 h6)
  have O2 := fun W => Lib.hid (on_any ax ay bx by' dx dy W h1 h2 h3 h4 h7 h8)
  have O3 := fun W => Lib.hid (on_any cx cy dx dy ax ay W h5 h6 h7 h8 h1 h2)
  have O4 := fun W => Lib.hid (on_any cx cy dx dy bx by' W h5 h6 h7 h8 h3 h4)
  have C1 := fun W => Lib.hid (cross_any ax ay bx by' cx cy W h1 h2 h3 h4 h5 h6)
  have C2 := fun W => Lib.hid (cross_any ax ay bx by' dx dy W h1 h2 h3 h4 h7 h8)
  have C3 := fun W => Lib.hid (cross_any cx cy dx dy ax ay W h5 h6 h7 h8 h1 h2)
  have C4 := fun W => Lib.hid (cross_any cx cy dx dy bx by' W h5 h6 h7 h8 h3 h4)
  clear h1 h2 h3 h4 h5 h6 h7 h8
  go_enter Try.func57, Try.ntmps57
  go_wp2_with fail
  refine ((O1 _).out).mono ?_
  rintro e w1 ⟨rfl, hb1⟩
  have hk1 := below_of4 (by simpa using hb1)
  obtain ⟨a1, a2⟩ := PtAt.below hb1 (b := w.heap.size) (x := ax) (y := ay) (by simp; omega) (by constructor <;> go_simp)
  obtain ⟨b1, b2⟩ := PtAt.below hb1 (b := w.heap.size + 1) (x := bx) (y := by') (by simp) (by constructor <;> go_simp)
  obtain ⟨c1, c2⟩ := PtAt.below hb1 (b := w.heap.size + 1 + 1) (x := cx) (y := cy) (by simp) (by constructor <;> go_simp)
  obtain ⟨d1, d2⟩ := PtAt.below hb1 (b := w.heap.size + 1 + 1 + 1) (x := dx) (y := dy) (by simp) (by constructor <;> go_simp)
  have hs1 : w.heap.size + 1 + 1 + 1 + 1 ≤ w1.heap.size := by have := hb1.size; simp at this; omega
  clear hb1
  go_wp2_with fail
  · go_ret
    rename_i h
    exact ⟨ret_bool (by simp [meetB, h]), hk1⟩
  rename_i n1
  refine ((O2 _).out).mono ?_
  rintro e w2 ⟨rfl, hb2⟩
  have t := PtAt.below hb2 (by omega) ⟨a1, a2⟩
  clear a1 a2
  obtain ⟨a1, a2⟩ := t
  have t := PtAt.below hb2 (by omega) ⟨b1, b2⟩
  clear b1 b2
  obtain ⟨b1, b2⟩ := t
  have t := PtAt.below hb2 (by omega) ⟨c1, c2⟩
  clear c1 c2
  obtain ⟨c1, c2⟩ := t
  have t := PtAt.below hb2 (by omega) ⟨d1, d2⟩
  clear d1 d2
  obtain ⟨d1, d2⟩ := t
  have hs2 := hb2.size
  have hk2 := hk1.trans (hb2.mono hk1.size)
  clear hb2 hk1
  go_wp2_with fail
  · go_ret
    rename_i h
    exact ⟨ret_bool (by simp [meetB, h]), hk2⟩
  rename_i n2
  refine ((O3 _).out).mono ?_
  rintro e w3 ⟨rfl, hb3⟩
  have t := PtAt.below hb3 (by omega) ⟨a1, a2⟩
  clear a1 a2
  obtain ⟨a1, a2⟩ := t
  have t := PtAt.below hb3 (by omega) ⟨b1, b2⟩
  clear b1 b2
  obtain ⟨b1, b2⟩ := t
  have t := PtAt.below hb3 (by omega) ⟨c1, c2⟩
  clear c1 c2
  obtain ⟨c1, c2⟩ := t
  have t := PtAt.below hb3 (by omega) ⟨d1, d2⟩
  clear d1 d2
  obtain ⟨d1, d2⟩ := t
  have hs3 := hb3.size
  have hk3 := hk2.trans (hb3.mono hk2.size)
  clear hb3 hk2
  go_wp2_with fail
  · go_ret
    rename_i h
    exact ⟨ret_bool (by simp [meetB, h]), hk3⟩
  rename_i n3
  refine ((O4 _).out).mono ?_
  rintro e w4 ⟨rfl, hb4⟩
  have t := PtAt.below hb4 (by omega) ⟨a1, a2⟩
  clear a1 a2
  obtain ⟨a1, a2⟩ := t
  have t := PtAt.below hb4 (by omega) ⟨b1, b2⟩
  clear b1 b2
  obtain ⟨b1, b2⟩ := t
  have t := PtAt.below hb4 (by omega) ⟨c1, c2⟩
  clear c1 c2
  obtain ⟨c1, c2⟩ := t
  have t := PtAt.below hb4 (by omega) ⟨d1, d2⟩
  clear d1 d2
  obtain ⟨d1, d2⟩ := t
  have hs4 := hb4.size
  have hk4 := hk3.trans (hb4.mono hk3.size)
  clear hb4 hk3
  go_wp2_with fail
  · go_ret
    rename_i h
    exact ⟨ret_bool (by simp [meetB, h]), hk4⟩
  rename_i n4
  have S1 := sgn_bd (cross ax ay bx by' cx cy)
  have S2 := sgn_bd (cross ax ay bx by' dx dy)
  have S3 := sgn_bd (cross cx cy dx dy ax ay)
  have S4 := sgn_bd (cross cx cy dx dy bx by')
  have M1 := mul_le_of_abs S1 S2
  have M2 := mul_le_of_abs S3 S4
  have e1 : IntKind.i64.wrap (sgn (cross ax ay bx by' cx cy) * sgn (cross ax ay bx by' dx dy)) = sgn (cross ax ay bx by' cx cy) * sgn (cross ax ay bx by' dx dy) := IntWalk.i64_in _ (by omega)
  have e2 : IntKind.i64.wrap (sgn (cross cx cy dx dy ax ay) * sgn (cross cx cy dx dy bx by')) = sgn (cross cx cy dx dy ax ay) * sgn (cross cx cy dx dy bx by') := IntWalk.i64_in _ (by omega)
  clear S1 S2 S3 S4 M1 M2 hs1 hs2 hs3 hs4 O1 O2 O3 O4
  have K1 := fun d os => Lib.hid (Calls.regrown_of ((C1 (grow (redrawn w4 d) os)).out))
  have K2 := fun d os => Lib.hid (Calls.regrown_of ((C2 (grow (redrawn w4 d) os)).out))
  have K3 := fun d os => Lib.hid (Calls.regrown_of ((C3 (grow (redrawn w4 d) os)).out))
  have K4 := fun d os => Lib.hid (Calls.regrown_of ((C4 (grow (redrawn w4 d) os)).out))
  have KS := fun v d os => Lib.hid (Calls.regrown_of (sign_below v (grow (redrawn w4 d) os)))
  have ta1 := cell_regrown a1
  clear a1
  have ta2 := cell_regrown a2
  clear a2
  have tb1 := cell_regrown b1
  clear b1
  have tb2 := cell_regrown b2
  clear b2
  have tc1 := cell_regrown c1
  clear c1
  have tc2 := cell_regrown c2
  clear c2
  have td1 := cell_regrown d1
  clear d1
  have td2 := cell_regrown d2
  clear d2
  clear C1 C2 C3 C4
  cases g : decide (sgn (cross ax ay bx by' cx cy) * sgn (cross ax ay bx by' dx dy) < 0)
  all_goals
    refine wp_region_quiet_below (by kernel_rfl) (by kernel_rfl) ?_
    repeat (go_big_quiet_step (first | (with_reducible exact (K1 _ _).out) | (with_reducible exact (K2 _ _).out) | (with_reducible exact (K3 _ _).out) | (with_reducible exact (K4 _ _).out) | exact (KS _ _ _).out))
    refine wpQuiet_nil ?_
    intro _ hw'
    obtain ⟨⟨dq, osq⟩, hw''⟩ := hw'
    subst hw''
    go_wp2
    go_ret
    refine ⟨ret_bool ?_, hk4.trans ((below_regrown w4 dq osq).mono hk4.size)⟩
    have m1 : onB ax ay bx by' cx cy = false := by simpa using ‹¬onB ax ay bx by' cx cy = true›
    have m2 : onB ax ay bx by' dx dy = false := by simpa using ‹¬onB ax ay bx by' dx dy = true›
    have m3 : onB cx cy dx dy ax ay = false := by simpa using ‹¬onB cx cy dx dy ax ay = true›
    have m4 : onB cx cy dx dy bx by' = false := by assumption
    unfold meetB
    rw [m1, m2, m3, m4, g]
    simp
end Go.Proofs.Ythbekbfhpedghaa

/- Polygons: the reference's functions on slices of points. -/
namespace Go.Proofs.Ythbekbfhpedghaa
open Go.RowKit Go.Sort
attribute [local go_sem ↓] run_min_mn run_max_mx

/-- The points of a list lie one after the other in a block. -/
def PtsIn (w : World) (b off : Nat) (l : List Pt) : Prop :=
  ∀ i p, l[i]? = some p → w.cell? ⟨b, off + i * 2, none⟩ = some (.int .i64 p.1) ∧ w.cell? ⟨b, off + i * 2 + 1, none⟩ = some (.int .i64 p.2)
theorem PtsIn.below {w w' : World} {B b off : Nat} {l : List Pt} (h : PtsIn w b off l) (hb : Below B w w') (hB : b < B) : PtsIn w' b off l :=
  fun i p hp => ⟨(hb.cell (p := ⟨b, _, none⟩) hB).trans (h i p hp).1, (hb.cell (p := ⟨b, _, none⟩) hB).trans (h i p hp).2⟩

theorem next_any (b off n c : Nat) (l : List Pt) (i : Nat) (w : World) (hl : l.length = n) (hn : 0 < n) (hn' : n ≤ 1000000) (hi : i ≤ 1000000) (h : PtsIn w b off l) :
    Calls Try.prog 38 #[.slice (some ⟨b, off, none⟩) n c, .int .i64 i] w fun e w' =>
      e = .returned (.agg #[.int .i64 (nx l i).1, .int .i64 (nx l i).2]) ∧ Below w.heap.size w w' := by
  have hm : (i + 1) % n < n := Nat.mod_lt _ hn
  have hx : l[(i + 1) % n]? = some (nx l i) := by
    unfold nx; subst hl
    rw [List.getD_eq_getElem?_getD, List.getElem?_eq_getElem hm]; rfl
  obtain ⟨h1, h2⟩ := h _ _ hx
  generalize nx l i = p at *
  obtain ⟨x, y⟩ := p
  clear hl h hx
  have B1 : b < w.heap.size := block_lt_of_cell h1
  have g1 : (0 : Int) ≤ ((i : Int) + 1) % (n : Int) := Int.emod_nonneg _ (by omega)
  have g2 : ((i : Int) + 1) % (n : Int) < (n : Int) := Int.emod_lt_of_pos _ (by omega)
  go_enter Try.func38, Try.ntmps38
  go_wp2
  go_returns
  exact ⟨rfl, (Below.refl _ _).alloc (Nat.le_refl _) _⟩

theorem next_any1 (b off n c : Nat) (l : List Pt) (i : Nat) (w : World) (hl : l.length = n) (hn : 0 < n) (hn' : n ≤ 1000000) (hi : i ≤ 10000) (h : PtsIn w b off l) :
    Calls Try.prog 38 #[.slice (some ⟨b, off, none⟩) n c, .int .i64 ((i : Int) + 1)] w fun e w' =>
      e = .returned (.agg #[.int .i64 (nx l (i + 1)).1, .int .i64 (nx l (i + 1)).2]) ∧ Below w.heap.size w w' := by
  have := next_any b off n c l (i + 1) w hl hn hn' (by omega) h
  rwa [Int.natCast_add i 1] at this

theorem polygon_any (b off n c : Nat) (l : List Pt) (w : World) (hl : l.length = n) (hn : 0 < n) (hn' : n ≤ 1000000) (h : PtsIn w b off l) (hb : b < w.heap.size) :
    Calls Try.prog 18 #[.slice (some ⟨b, off, none⟩) n c] w fun e w' =>
      e = .returned (.bool (polyB l)) ∧ Below w.heap.size w w' := by
  go_enter Try.func18, Try.ntmps18
  go_wp2
  go_loopw [3] (fun i wr => ∃ k : Nat, k ≤ n ∧ i = .int .i64 k ∧ (l.take k).all okP = true ∧ Below w.heap.size w wr) (fun i _ => n - (intOf i).toNat)
  case atStart => exact ⟨0, Nat.zero_le _, rfl, by simp, Below.refl _ _⟩
  case round =>
    obtain ⟨k, hk, rfl, hall, hbw⟩ := hrel
    by_cases hlt : k < n
    · obtain ⟨p, hp⟩ : ∃ p, l[k]? = some p := ⟨l[k]'(by omega), List.getElem?_eq_getElem _⟩
      obtain ⟨h1, h2⟩ := (h.below hbw hb) k p hp
      have e1 : (l.take (k + 1)).all okP = validB p.1 p.2 10000 := by
        rw [List.take_succ_eq_append_getElem (by omega), List.all_append, hall]
        have : l[k]'(by omega) = p := by rw [List.getElem?_eq_getElem (by omega)] at hp; exact Option.some.inj hp
        rw [this]; simp [okP]
      have e2 : validB p.1 p.2 10000 = false → polyB l = false := by
        intro hv
        have hm : p ∈ l := List.mem_of_getElem? hp
        have : l.all okP = false := by rw [List.all_eq_false]; exact ⟨p, hm, by simp [okP, hv]⟩
        simp [polyB, this]
      have E1 := Lib.hid e1
      have E2 := Lib.hid e2
      obtain ⟨x, y⟩ := p
      clear hp hall hl h e1 e2
      have V := fun W => Lib.hid (valid_any x y 10000 (by omega) W)
      cases hv : validB x y 10000
      · have HV := Lib.hid hv
        clear hv
        go_wp2_with fail
        refine ((V _).out).mono ?_
        rintro e w1 ⟨rfl, hb1⟩
        rw [HV.out]
        go_wp2_with fail
        go_ret
        exact ⟨ret_bool (E2.out HV.out).symm, hbw.trans (hb1.mono hbw.size)⟩
      · have HV := Lib.hid hv
        clear hv
        go_wp2_with fail
        refine ((V _).out).mono ?_
        rintro e w1 ⟨rfl, hb1⟩
        rw [HV.out]
        go_wp2_with fail
        go_roundw
        case rel => exact ⟨k + 1, by omega, by go_num, by rw [E1.out]; exact HV.out, hbw.trans (hb1.mono hbw.size)⟩
        case measure => simp [intOf]; omega
    · have hk' : k = n := by omega
      have hp : polyB l = inB n 3 32 := by
        subst hl; subst hk'
        rw [List.take_length] at hall
        simp [polyB, hall]
      subst hk'
      have HP := Lib.hid hp
      clear hp hall hl
      have I := fun W => Lib.hid (in_any k 3 32 W)
      go_wp2_with fail
      refine ((I _).out).mono ?_
      rintro e w1 ⟨rfl, rfl⟩
      go_wp2_with fail
      go_ret
      exact ⟨ret_bool HP.out.symm, hbw⟩
end Go.Proofs.Ythbekbfhpedghaa

/- Package shape: the points of a slice, its edges, its area. -/
namespace Go.Proofs.Ythbekbfhpedghaa
open Go.RowKit Go.Sort
attribute [local go_sem ↓] run_min_mn run_max_mx

set_option maxRecDepth 100000 in
set_option maxHeartbeats 1000000 in
theorem edge_any (b off n c : Nat) (l : List Pt) (i : Nat) (w : World) (hl : l.length = n) (hn : 0 < n) (hn' : n ≤ 1000000) (hi : i ≤ 1000000) (h : PtsIn w b off l) :
    Calls Try.prog 47 #[.slice (some ⟨b, off, none⟩) n c, .int .i64 i] w fun e w' =>
      e = .returned (.tuple #[.agg #[.int .i64 (gt l (i % n)).1, .int .i64 (gt l (i % n)).2], .agg #[.int .i64 (nx l i).1, .int .i64 (nx l i).2]]) ∧ Below w.heap.size w w' := by
  have hm : (i + 1) % n < n := Nat.mod_lt _ hn
  have hm0 : i % n < n := Nat.mod_lt _ hn
  have hx : l[(i + 1) % n]? = some (nx l i) := by
    unfold nx; subst hl
    rw [List.getD_eq_getElem?_getD, List.getElem?_eq_getElem hm]; rfl
  have hx0 : l[i % n]? = some (gt l (i % n)) := by
    unfold gt; subst hl
    rw [List.getD_eq_getElem?_getD, List.getElem?_eq_getElem hm0]; rfl
  obtain ⟨h1, h2⟩ := h _ _ hx
  obtain ⟨h3, h4⟩ := h _ _ hx0
  generalize nx l i = p at *
  generalize gt l (i % n) = q at *
  obtain ⟨x, y⟩ := p
  obtain ⟨u, v⟩ := q
  clear hl h hx hx0
  have B1 : b < w.heap.size := block_lt_of_cell h1
  have t0 : ¬ n = 0 := by omega
  have t1 : (i : Int).tmod (n : Int) = ((i % n : Nat) : Int) := rfl
  have t2 : IntKind.i64.wrap ((i : Int) + 1) = ((i + 1 : Nat) : Int) := by rw [IntKind.wrap_i64]; omega
  have t3 : ((i + 1 : Nat) : Int).tmod (n : Int) = (((i + 1) % n : Nat) : Int) := rfl
  generalize i % n = k0 at *
  generalize (i + 1) % n = k1 at *
  generalize hj : i + 1 = j at *
  have HJ := Lib.hid hj
  clear hj
  go_enter Try.func47, Try.ntmps47
  go_wp2_with fail
  have n1 := World.new_ne w _ h1
  have n2 := World.new_ne w _ h2
  have n3 := World.new_ne w _ h3
  have n4 := World.new_ne w _ h4
  have nb1 : ¬ b = w.heap.size := by omega
  have nb2 : ¬ w.heap.size = b := by omega
  have nb3 : ¬ b = w.heap.size + 1 := by omega
  have nb4 : ¬ w.heap.size + 1 = b := by omega
  have nb5 : b < w.heap.size + 1 := by omega
  have lt2 : w.heap.size < w.heap.size + 1 + 1 := by omega
  go_region
  all_goals
    go_wp2
    refine bodyPost_ret (v := .tuple #[.agg #[.int .i64 u, .int .i64 v], .agg #[.int .i64 x, .int .i64 y]]) (by simp [results, Try.results47, go_sem]) rfl ⟨rfl, ?_⟩
    go_grown
end Go.Proofs.Ythbekbfhpedghaa

/- Package shape: which slices are polygons. -/
namespace Go.Proofs.Ythbekbfhpedghaa
open Go.RowKit Go.Sort
attribute [local go_sem ↓] run_min_mn run_max_mx

/-- A slice reads as a list of points. -/
def PtsAt (w : World) (A : Option Addr) (l : List Pt) : Prop := l ≠ [] → ∃ b off, A = some ⟨b, off, none⟩ ∧ b < w.heap.size ∧ PtsIn w b off l
theorem PtsAt.below {w w' : World} {A : Option Addr} {l : List Pt} (h : PtsAt w A l) (hb : Below w.heap.size w w') : PtsAt w' A l := fun hne => by
  obtain ⟨b, off, e, hlt, hp⟩ := h hne
  exact ⟨b, off, e, Nat.lt_of_lt_of_le hlt hb.size, hp.below hb hlt⟩
theorem PtsAt.belows {w w' : World} {A : Option Addr} {l : List Pt} {B : Nat} (h : PtsAt w A l) (hb : Below B w w') (hB : w.heap.size ≤ B) : PtsAt w' A l := fun hne => by
  obtain ⟨b, off, e, hlt, hp⟩ := h hne
  exact ⟨b, off, e, Nat.lt_of_lt_of_le hlt hb.size, hp.below hb (by omega)⟩
theorem PtsAt.nil (w : World) (A : Option Addr) : PtsAt w A [] := fun h => absurd rfl h

def farP (p : Pt) : Bool := !okP p
def anyFar (l : List Pt) : Bool := l.any farP

theorem isFar_any (x y : Int) (w : World) :
    Calls Try.prog 60 #[.agg #[.int .i64 x, .int .i64 y]] w fun e w' => e = .returned (.bool (farP (x, y))) ∧ Below w.heap.size w w' := by
  have N := fun W => Lib.hid (isNear_any x y 10000 (by omega) W)
  have e : farP (x, y) = !validB x y 10000 := rfl
  have H := Lib.hid e
  clear e
  generalize farP (x, y) = r at *
  generalize validB x y 10000 = v at *
  go_enter Try.func60, Try.ntmps60
  go_wp2_with fail
  refine ((N _).out).mono ?_
  rintro e w1 ⟨rfl, hb⟩
  go_wp2
  go_ret
  exact ⟨ret_bool H.out.symm, (Below.refl _ _).alloc (Nat.le_refl _) _ |>.trans (hb.mono (by simp))⟩

/-- Is one found that is far? -/
def FoundFar (l : List Pt) (w : World) (e : Ending) (w' : World) : Prop := ∃ i : Int, e = .returned (.int .i64 i) ∧ decide (0 ≤ i) = anyFar l ∧ Below w.heap.size w w'

set_option maxHeartbeats 800000 in
theorem indexFar_any (A : Option Addr) (n c : Nat) (l : List Pt) (w : World) (hn : l.length = n) (hbig : n ≤ 1000000) (hx : PtsAt w A l) :
    Calls Try.prog 75 #[.slice A n c, .func (.func 60) #[] #[]] w (FoundFar l w) := by
  have HN := Lib.hid hn
  have HX := Lib.hid hx
  clear hn hx
  go_enter Try.func75, Try.ntmps75
  go_wp2
  go_loopw [8] (fun i wr => ∃ k : Nat, k ≤ n ∧ i = .int .i64 k ∧ anyFar (l.take k) = false ∧ Below w.heap.size w wr) (fun i _ => n - (intOf i).toNat)
  case atStart => exact ⟨0, Nat.zero_le _, rfl, rfl, Below.refl _ _⟩
  case round =>
    obtain ⟨k, hk, rfl, hz, hbw⟩ := hrel
    have HZ := Lib.hid hz
    clear hz
    by_cases hlt : k < n
    · have hl : k < l.length := by have := HN.out; omega
      obtain ⟨b, off, rfl, hbl, hp⟩ := HX.out (by intro e; subst e; simp at hl)
      obtain ⟨h1, h2⟩ := (hp.below hbw hbl) k _ (List.getElem?_eq_getElem hl)
      have hs : anyFar (l.take (k + 1)) = farP l[k] := by
        rw [List.take_succ_eq_append_getElem hl]
        unfold anyFar at *
        rw [List.any_append, HZ.out]; simp
      have hall : farP l[k] = true → anyFar l = true := fun h => by
        unfold anyFar
        exact List.any_eq_true.2 ⟨_, List.getElem_mem hl, h⟩
      have HS := Lib.hid hs
      have HA := Lib.hid hall
      clear hs hall hp
      generalize l[k] = p at *
      obtain ⟨x, y⟩ := p
      have F := fun W => Lib.hid (isFar_any x y W)
      generalize farP (x, y) = r at *
      go_wp2_with fail
      refine ((F _).out).mono ?_
      rintro e w1 ⟨rfl, hb1⟩
      have hbw1 := hbw.trans (hb1.mono hbw.size)
      clear hb1 h1 h2
      cases r
      · go_wp2_with fail
        go_roundw
        case rel => exact ⟨k + 1, by omega, by go_num, HS.out, hbw1⟩
        case measure => simp [intOf]; omega
      · go_wp2_with fail
        go_ret
        exact ⟨_, rfl, by rw [HA.out trivial]; simp, hbw1⟩
    · have hfull : anyFar l = false := by
        have := HZ.out
        rw [List.take_of_length_le (by have := HN.out; omega)] at this
        exact this
      have HF := Lib.hid hfull
      clear hfull
      go_wp2
      go_ret
      exact ⟨_, rfl, by rw [HF.out]; rfl, hbw⟩

theorem containsFar_any (A : Option Addr) (n c : Nat) (l : List Pt) (w : World) (hn : l.length = n) (hbig : n ≤ 1000000) (hx : PtsAt w A l) :
    Calls Try.prog 62 #[.slice A n c, .func (.func 60) #[] #[]] w fun e w' => e = .returned (.bool (anyFar l)) ∧ Below w.heap.size w w' := by
  have K := Lib.hid (indexFar_any A n c l w hn hbig hx)
  clear hn hx
  go_enter Try.func62, Try.ntmps62
  go_wp2_with fail
  refine (K.out).mono ?_
  rintro e w' ⟨i, rfl, hi, hb⟩
  have HI := Lib.hid hi
  clear hi
  go_wp2
  go_ret
  exact ⟨ret_bool HI.out, hb⟩

/-- As many points as a polygon may have, all of them valid. -/
def ptsB (l : List Pt) (least : Nat) : Bool := decide (least ≤ l.length) && decide (l.length ≤ 32) && l.all okP
theorem anyFar_not (l : List Pt) : (!anyFar l) = l.all okP := by
  unfold anyFar
  induction l with
  | nil => rfl
  | cons p l ih => simp only [List.any_cons, List.all_cons, Bool.not_or, ih]; simp [farP]

theorem arePoints_any (A : Option Addr) (n c least : Nat) (l : List Pt) (w : World) (hn : l.length = n) (hbig : n ≤ 1000000) (h1 : least ≤ 100) (hx : PtsAt w A l) :
    Calls Try.prog 44 #[.slice A n c, .int .i64 least] w fun e w' => e = .returned (.bool (ptsB l least)) ∧ Below w.heap.size w w' := by
  have K := Lib.hid (containsFar_any A n c l w hn hbig hx)
  have HS : Hid (ptsB l least = (decide (least ≤ n) && decide (n ≤ 32) && !anyFar l)) := by rw [anyFar_not]; subst hn; exact Lib.hid rfl
  clear hn hx
  generalize ptsB l least = r at *
  generalize anyFar l = f at *
  by_cases g1 : least ≤ n
  · by_cases g2 : n ≤ 32
    · go_enter Try.func44, Try.ntmps44
      go_wp2_with fail
      refine (K.out).mono ?_
      rintro e w' ⟨rfl, hb⟩
      go_wp2
      go_ret
      exact ⟨ret_bool (by rw [HS.out]; simp [g1, g2]), hb⟩
    · go_enter Try.func44, Try.ntmps44
      go_wp2
      go_ret
      exact ⟨ret_bool (by rw [HS.out]; simp; omega), Below.refl _ _⟩
  · go_enter Try.func44, Try.ntmps44
    go_wp2
    go_ret
    exact ⟨ret_bool (by rw [HS.out]; simp; omega), Below.refl _ _⟩

theorem polyB_pts (l : List Pt) : ptsB l 3 = polyB l := by
  rw [Bool.eq_iff_iff]
  simp only [ptsB, polyB, inB, Bool.and_eq_true, decide_eq_true_eq]
  constructor
  · rintro ⟨⟨a, b⟩, c⟩; exact ⟨c, by omega, by omega⟩
  · rintro ⟨c, a, b⟩; exact ⟨⟨by omega, by omega⟩, c⟩

theorem isPolygon_any (A : Option Addr) (n c : Nat) (l : List Pt) (w : World) (hn : l.length = n) (hbig : n ≤ 1000000) (hx : PtsAt w A l) :
    Calls Try.prog 28 #[.slice A n c] w fun e w' => e = .returned (.bool (polyB l)) ∧ Below w.heap.size w w' := by
  have K := Lib.hid (arePoints_any A n c 3 l w hn hbig (by omega) hx)
  rw [polyB_pts] at K
  clear hn hx
  generalize polyB l = r at *
  go_enter Try.func28, Try.ntmps28
  go_wp2_with fail
  refine (K.out).mono ?_
  rintro e w' ⟨rfl, hb⟩
  go_wp2
  go_ret
  exact ⟨rfl, hb⟩

set_option maxHeartbeats 800000 in
theorem area2D_any (b off n c : Nat) (l : List Pt) (w : World) (hl : l.length = n) (hn : 0 < n) (hn' : n ≤ 100) (h : PtsIn w b off l) (hb : b < w.heap.size) (hok : l.all okP = true) :
    Calls Try.prog 40 #[.slice (some ⟨b, off, none⟩) n c] w fun e w' =>
      e = .returned (.int .i64 (area2 l)) ∧ Below w.heap.size w w' := by
  have HE : Hid (area2To l n = area2 l) := Lib.hid (by rw [← hl]; rfl)
  have HP := Lib.hid h
  have HL := Lib.hid hl
  have HOK := Lib.hid hok
  clear h hl hok
  go_enter Try.func40, Try.ntmps40
  go_wp2
  go_loopw [3, 7] (fun s i wr => ∃ k : Nat, k ≤ n ∧ i = .int .i64 k ∧ s = .int .i64 (area2To l k) ∧ Below w.heap.size w wr) (fun _ i _ => n - (intOf i).toNat)
  case atStart => exact ⟨0, Nat.zero_le _, rfl, rfl, Below.refl _ _⟩
  case round =>
    obtain ⟨k, hk, rfl, rfl, hbw⟩ := hrel
    by_cases hlt : k < n
    · have N := fun W hW => Lib.hid (edge_any b off n c l k W HL.out hn (by omega) (by omega) ((HP.out.below hbw hb).below (B := wr.heap.size) hW (Nat.lt_of_lt_of_le hb hbw.size)))
      rw [Nat.mod_eq_of_lt hlt] at N
      have e1 : area2To l (k + 1) = area2To l k + ((gt l k).1 * (nx l k).2 - (nx l k).1 * (gt l k).2) := rfl
      have okp : okP (gt l k) = true := getD_ok HOK.out k
      have okq := nx_ok HOK.out k
      have sb := area2To_bd HOK.out k
      have tb := term_bd okp okq
      have E1 := Lib.hid e1
      obtain ⟨x1, x2⟩ := okP_bd okp
      obtain ⟨x3, x4⟩ := okP_bd okq
      clear e1 okp okq
      generalize nx l k = q at *
      generalize gt l k = p at *
      generalize area2To l k = s at *
      obtain ⟨x, y⟩ := p
      obtain ⟨qx, qy⟩ := q
      have C := fun W => Lib.hid (crossD_any x y qx qy W (by omega) (by omega) (by omega) (by omega))
      go_wp2_with fail
      refine ((N _ (Below.refl _ _)).out).mono ?_
      rintro e w1 ⟨rfl, hb1⟩
      have hbw1 := hbw.trans (hb1.mono hbw.size)
      clear N hb1
      go_wp2_with fail
      refine ((C _).out).mono ?_
      rintro e w2 ⟨rfl, hb2⟩
      have hbw2 := hbw1.trans (hb2.mono hbw1.size)
      generalize x * qy - qx * y = t at *
      go_wp2_with fail
      go_roundw
      case rel => exact ⟨k + 1, by omega, by go_num, by rw [E1.out], hbw2⟩
      case measure => simp [intOf]; omega
    · obtain rfl : k = n := by omega
      go_wp2
      go_ret
      exact ⟨ret_int HE.out, hbw⟩
end Go.Proofs.Ythbekbfhpedghaa

/- Slices of points, and points, that came in: what they read as. -/
namespace Go.Proofs.Ythbekbfhpedghaa
open Go.ChangeShapes Go.WideShapes Go.ChangeAt Go.RowKit Go.Deep

theorem cells_pt : Try.prog.cellsOf 37 = 2 := by kernel_rfl
theorem cells_int1 : Try.prog.cellsOf 3 = 1 := by kernel_rfl

set_option maxRecDepth 100000 in
theorem fields_pt : ∃ f0 f1 : Field, Try.prog.underlying 37 = some (.struct #[f0, f1]) ∧ f0.offset = 0 ∧ f1.offset = 1 ∧ f0.type = 3 ∧ f1.type = 3 := by
  have h : Try.prog.underlying 37 = some (.struct (Try.prog.fieldsOf 37)) := by kernel_rfl
  have k : (Try.prog.fieldsOf 37).toList.map (fun f => (f.type, f.offset)) = [(3, 0), (3, 1)] := by kernel_rfl
  generalize Try.prog.fieldsOf 37 = fs at *
  obtain ⟨l⟩ := fs
  match l, k with
  | [f0, f1], k =>
    simp only [List.map_cons, List.map_nil, List.cons.injEq, Prod.mk.injEq, and_true] at k
    exact ⟨f0, f1, h, k.1.2, k.2.2, k.1.1, k.2.1⟩

set_option maxRecDepth 100000 in
theorem pts_open {H : Type} {enc : TypeId × Value → H} {W : World} {A : Option Addr} {n c : Nat} {d : DataW H} {p : List MemPlace} (h : DataW.Trod enc Try.prog W 0 (fun _ => true) true 24 (.slice A n c) d p) :
    ∃ xs : List Pt, xs.length = n ∧ n ≤ c ∧ n ≤ 9223372036854775807 ∧ (∀ x ∈ xs, (-9223372036854775808 ≤ x.1 ∧ x.1 ≤ 9223372036854775807) ∧ (-9223372036854775808 ≤ x.2 ∧ x.2 ≤ 9223372036854775807)) ∧ PtsAt W A xs := by
  obtain ⟨fuel, hf⟩ := h
  obtain ⟨f0, f1, hs, o0, o1, t0, t1⟩ := fields_pt
  rcases open_slice_pairs Try.underlying24 hs cells_pt o0 o1 (by rw [t0]; exact cells_int1) (by rw [t1]; exact cells_int1) hf with ⟨hcs, hx⟩ | ⟨a, len, cap, m, n', V0, V1, D0, D1, P0, P1, hcs, hb, hl, hm, hmm, hx, hi⟩
  · simp [Value.cells] at hcs
    obtain ⟨rfl, rfl, rfl⟩ := hcs
    exact ⟨[], rfl, Nat.le_refl _, by omega, by simp, PtsAt.nil _ _⟩
  · simp [Value.cells] at hcs
    obtain ⟨e0, e1, e2⟩ := hcs
    subst e0
    have e1' : n = len := by first | exact e1 | exact e1.symm
    have e2' : c = cap := by first | exact e2 | exact e2.symm
    clear e1 e2
    subst e1' e2'
    simp only [if_true] at hmm
    subst m
    simp only [maxLen] at hm
    rw [t0, t1] at hi
    have each : ∀ i, i < c → ∃ q : Pt, W.cell? (a.add (i * 2)) = some (.int .i64 q.1) ∧ W.cell? (a.add (i * 2 + 1)) = some (.int .i64 q.2) ∧ ((-9223372036854775808 ≤ q.1 ∧ q.1 ≤ 9223372036854775807) ∧ (-9223372036854775808 ≤ q.2 ∧ q.2 ≤ 9223372036854775807)) := by
      intro i hic
      obtain ⟨c0, c1, d0, d1⟩ := hi i hic
      obtain ⟨x, e0, _, w0⟩ := DataW.trod_int Try.underlying3 d0
      obtain ⟨y, e1, _, w1⟩ := DataW.trod_int Try.underlying3 d1
      simp only [List.cons.injEq, and_true] at e0 e1
      rw [e0] at c0
      rw [e1] at c1
      exact ⟨(x, y), c0, c1, bounds_i64 w0, bounds_i64 w1⟩
    obtain ⟨q, hq⟩ := choose_lt each
    refine ⟨(List.range n).map q, by simp, hl, by omega, fun x hx => ?_, fun hne => ?_⟩
    · obtain ⟨i, hi', rfl⟩ := List.mem_map.1 hx
      exact (hq i (by have := List.mem_range.1 hi'; omega)).2.2
    · have hn : 0 < n := by
        rcases Nat.eq_zero_or_pos n with h0 | h0
        · subst h0; simp at hne
        · exact h0
      obtain ⟨b, off, key⟩ := a
      have hk : key = none := by simpa [Addr.add] using World.cell?_spot ((hq 0 (by omega)).1)
      subst hk
      have e : ∀ j, (⟨b, off, none⟩ : Addr).add j = ⟨b, off + j, none⟩ := fun j => by unfold Addr.add; split <;> simp_all
      refine ⟨b, off, rfl, ?_, fun i p hp => ?_⟩
      · have := (hq 0 (by omega)).1
        rw [e] at this
        exact World.block_lt_of_cell? W _ this
      · rw [List.getElem?_map] at hp
        have hin : i < n := by
          rcases Nat.lt_or_ge i n with g | g
          · exact g
          · rw [List.getElem?_eq_none (by simpa using g)] at hp; cases hp
        rw [List.getElem?_range hin] at hp
        obtain rfl : q i = p := by simpa using hp
        obtain ⟨c0, c1, _⟩ := hq i (by omega)
        rw [e] at c0 c1
        exact ⟨by simpa [Nat.add_assoc] using c0, by simpa [Nat.add_assoc] using c1⟩

set_option maxRecDepth 100000 in
theorem pt_open {H : Type} {enc : TypeId × Value → H} {W : World} {r : Reach} {b0 : Nat} {v : Value} {d : DataW H} {p : List MemPlace} (hv : Value.okWide Try.prog W r b0 37 v) (h : DataW.Trod enc Try.prog W 0 (fun _ => true) true 37 v d p) :
    ∃ a b : Int, v = .agg #[.int .i64 a, .int .i64 b] ∧ d = .agg [.lit (.int .i64 a), .lit (.int .i64 b)] ∧ p = [] ∧ (Lit.int .i64 a).wf = true ∧ (Lit.int .i64 b).wf = true := by
  obtain ⟨f0, f1, hs, o0, o1, t0, t1⟩ := fields_pt
  have hone : oneCellFields Try.prog #[f0, f1] = true := by
    have : (Try.prog.underlying 37).map (fun u => match u with | .struct fs => oneCellFields Try.prog fs | _ => false) = some true := by kernel_rfl
    rw [hs] at this
    simpa using this
  obtain ⟨v0, v1, y0, y1, n, rfl, rfl, rfl, g0, g1⟩ := Go.Joins.open_agg2 hs hone cells_pt hv h
  rw [t0] at g0
  rw [t1] at g1
  obtain ⟨x, e0, k0, w0⟩ := DataW.trod_int Try.underlying3 g0
  obtain ⟨y, e1, k1, w1⟩ := DataW.trod_int Try.underlying3 g1
  simp only [List.cons.injEq, and_true] at e0 e1
  subst e0 e1 k0 k1
  exact ⟨x, y, rfl, rfl, rfl, w0, w1⟩
end Go.Proofs.Ythbekbfhpedghaa

/- Slices of slices of points that came in: what they read as. -/
namespace Go.Proofs.Ythbekbfhpedghaa
open Go.ChangeShapes Go.WideShapes Go.ChangeAt Go.RowKit Go.Deep

theorem cells_sl : Try.prog.cellsOf 24 = 1 := by kernel_rfl

/-- A slice of lists of points, as it came in. -/
def PolysW (w : World) (A : Option Addr) (L : List (List Pt)) : Prop := L ≠ [] → ∃ b off, A = some ⟨b, off, none⟩ ∧ b < w.heap.size ∧
  ∀ (i : Nat) (l : List Pt), L[i]? = some l → ∃ (A1 : Option Addr) (n1 c1 : Nat), w.cell? ⟨b, off + i, none⟩ = some (.slice A1 n1 c1) ∧ l.length = n1 ∧ n1 ≤ c1 ∧ n1 ≤ 9223372036854775807 ∧
    (∀ x ∈ l, (-9223372036854775808 ≤ x.1 ∧ x.1 ≤ 9223372036854775807) ∧ (-9223372036854775808 ≤ x.2 ∧ x.2 ≤ 9223372036854775807)) ∧ PtsAt w A1 l
theorem PolysW.below {w w' : World} {A : Option Addr} {L : List (List Pt)} (h : PolysW w A L) (hb : Below w.heap.size w w') : PolysW w' A L := fun hne => by
  obtain ⟨b, off, e, hlt, hp⟩ := h hne
  refine ⟨b, off, e, Nat.lt_of_lt_of_le hlt hb.size, fun i l hi => ?_⟩
  obtain ⟨A1, n1, c1, h1, h2, h3, h4, h5, h6⟩ := hp i l hi
  exact ⟨A1, n1, c1, (hb.cell (p := ⟨b, _, none⟩) hlt).trans h1, h2, h3, h4, h5, h6.below hb⟩

set_option maxRecDepth 100000 in
theorem polys_open {H : Type} {enc : TypeId × Value → H} {W : World} {A : Option Addr} {n c : Nat} {d : DataW H} {p : List MemPlace} (h : DataW.Trod enc Try.prog W 0 (fun _ => true) true 23 (.slice A n c) d p) :
    ∃ L : List (List Pt), L.length = n ∧ n ≤ c ∧ n ≤ 9223372036854775807 ∧ PolysW W A L := by
  obtain ⟨fuel, hf⟩ := h
  rcases open_slice1 Try.underlying23 cells_sl hf with ⟨hcs, hx⟩ | ⟨a, len, cap, m, n', V, D, Pl, hcs, hb, hl, hm, hmm, hx, hi⟩
  · simp [Value.cells] at hcs
    obtain ⟨rfl, rfl, rfl⟩ := hcs
    exact ⟨[], rfl, Nat.le_refl _, by omega, fun hne => absurd rfl hne⟩
  · simp [Value.cells] at hcs
    obtain ⟨e0, e1, e2⟩ := hcs
    subst e0
    have e1' : n = len := by first | exact e1 | exact e1.symm
    have e2' : c = cap := by first | exact e2 | exact e2.symm
    clear e1 e2
    subst e1' e2'
    simp only [if_true] at hmm
    subst m
    simp only [maxLen] at hm
    have each : ∀ i, i < c → ∃ q : (Option Addr × Nat × Nat) × List Pt, W.cell? (a.add i) = some (.slice q.1.1 q.1.2.1 q.1.2.2) ∧ q.2.length = q.1.2.1 ∧ q.1.2.1 ≤ q.1.2.2 ∧ q.1.2.1 ≤ 9223372036854775807 ∧
        (∀ x ∈ q.2, (-9223372036854775808 ≤ x.1 ∧ x.1 ≤ 9223372036854775807) ∧ (-9223372036854775808 ≤ x.2 ∧ x.2 ≤ 9223372036854775807)) ∧ PtsAt W q.1.1 q.2 := by
      intro i hic
      obtain ⟨c0, d0⟩ := hi i hic
      have hv : ∃ A1 n1 c1, V i = .slice A1 n1 c1 := by
        rcases open_slice Try.underlying24 d0 with ⟨h1, -⟩ | ⟨a1, len1, cap1, _, _, _, _, h1, _⟩
        · exact ⟨none, 0, 0, by simpa using h1⟩
        · exact ⟨some a1, len1, cap1, by simpa using h1⟩
      obtain ⟨A1, n1, c1, hv⟩ := hv
      rw [hv] at c0 d0
      obtain ⟨xs, h1, h2, h3, h4, h5⟩ := pts_open (enc := enc) (d := D i) (p := Pl i) (A := A1) (n := n1) (c := c1) ⟨n', d0⟩
      exact ⟨((A1, n1, c1), xs), c0, h1, h2, h3, h4, h5⟩
    obtain ⟨q, hq⟩ := choose_lt each
    refine ⟨(List.range n).map fun i => (q i).2, by simp, hl, by omega, fun hne => ?_⟩
    have hn : 0 < n := by
      rcases Nat.eq_zero_or_pos n with h0 | h0
      · subst h0; simp at hne
      · exact h0
    obtain ⟨b, off, key⟩ := a
    have hk : key = none := by simpa [Addr.add] using World.cell?_spot ((hq 0 (by omega)).1)
    subst hk
    have e : ∀ j, (⟨b, off, none⟩ : Addr).add j = ⟨b, off + j, none⟩ := fun j => by unfold Addr.add; split <;> simp_all
    refine ⟨b, off, rfl, ?_, fun i l hil => ?_⟩
    · have := (hq 0 (by omega)).1
      rw [e] at this
      exact World.block_lt_of_cell? W _ this
    · rw [List.getElem?_map] at hil
      have hin : i < n := by
        rcases Nat.lt_or_ge i n with g | g
        · exact g
        · rw [List.getElem?_eq_none (by simpa using g)] at hil; cases hil
      rw [List.getElem?_range hin] at hil
      obtain rfl : (q i).2 = l := by simpa using hil
      obtain ⟨h1, h2, h3, h4, h5, h6⟩ := hq i (by omega)
      rw [e] at h1
      exact ⟨_, _, _, h1, h2, h3, h4, h5, h6⟩
end Go.Proofs.Ythbekbfhpedghaa

/- Arrays of two integers that came in: what they read as. -/
namespace Go.Proofs.Ythbekbfhpedghaa
open Go.ChangeShapes Go.WideShapes Go.ChangeAt Go.RowKit Go.Deep

theorem arr2_open {H : Type} {enc : TypeId × Value → H} {P : Program} {W : World} {r : Reach} {b0 : Nat} {t e : TypeId} {q : IntKind} {v : Value} {d : DataW H} {p : List MemPlace} (hu : P.underlying t = some (.array 2 e)) (he : P.underlying e = some (.int q))
    (h1 : P.cellsOf e = 1) (h2 : P.cellsOf t = 2) (hv : Value.okWide P W r b0 t v) (h : DataW.Trod enc P W 0 (fun _ => true) true t v d p) :
    ∃ a b : Int, v = .agg #[.int q a, .int q b] ∧ d = .agg [.lit (.int q a), .lit (.int q b)] ∧ p = [] ∧ (Lit.int q a).wf = true ∧ (Lit.int q b).wf = true := by
  have hv' : ∃ cs : Array Value, v = .agg cs ∧ cs.size = 2 := by
    simp only [Value.okWide, hu] at hv
    obtain ⟨cs, e1, e2, _⟩ := hv
    exact ⟨cs, e1, by rw [e2, h2]⟩
  obtain ⟨cs, rfl, hsz⟩ := hv'
  obtain ⟨l⟩ := cs
  match l, hsz with
  | [c0, c1], _ =>
    obtain ⟨fuel, hf⟩ := h
    cases fuel with
    | zero => simp [DataW.trod] at hf
    | succ m =>
      rw [DataW.trod_step] at hf
      unfold DataW.trodStep at hf
      simp only [hu, Value.cells, h1] at hf
      rw [if_pos (by rw [h2]; rfl)] at hf
      simp only [Option.map_eq_some_iff] at hf
      obtain ⟨ys, hy, e1⟩ := hf
      simp only [List.range_succ, List.range_zero, List.nil_append, List.cons_append, List.mapM_cons, List.mapM_nil, bind, Option.bind_eq_some_iff, pure, Option.some.injEq] at hy
      obtain ⟨y0, hy0, ys', ⟨y1, hy1, ys'', rfl, rfl⟩, rfl⟩ := hy
      obtain ⟨a, ea, rfl, wa⟩ := DataW.trod_int he hy0
      obtain ⟨b, eb, rfl, wb⟩ := DataW.trod_int he hy1
      simp at ea eb e1
      obtain ⟨rfl, rfl⟩ := e1
      exact ⟨a, b, by rw [ea, eb], rfl, rfl, wa, wb⟩
end Go.Proofs.Ythbekbfhpedghaa

/- The frame of ShapeNested: the statement, if the call returns true and nothing turns. -/
namespace Go.Proofs.Ythbekbfhpedghaa.shapeNested
open Go.ChangeShapes Go.WideShapes Go.ChangeAt Go.RowKit

theorem own : ownKnob Try.prog.godebug = none := by kernel_rfl

/-- What a walk has to give. -/
def Walked : Prop := ∀ (a0 b0 : Int) (A1 : Option Addr) (n1 c1 : Nat) (xs1 : List (List Pt)) (a2 b2 : Int) (w : World), (Lit.int .u8 a0).wf = true → (Lit.int .u8 b0).wf = true → xs1.length = n1 → n1 ≤ c1 → n1 ≤ 9223372036854775807 → PolysW w A1 xs1 → (Lit.int .i64 a2).wf = true → (Lit.int .i64 b2).wf = true →
  Calls Try.prog 4 #[.agg #[.int .u8 a0, .int .u8 b0], .slice A1 n1 c1, .agg #[.int .i64 a2, .int .i64 b2]] w fun e w' => e = .returned (.bool true) ∧ Below w.heap.size w w'

theorem laidOut : laidOutB Try.prog = true := by kernel_rfl
set_option maxRecDepth 100000 in
theorem lifted (hwalk : Walked) (os : Os) (started : os.Started) (H : Type) (enc : TypeId × Value → H) :
    ReturnsInHanded {} Try.checked os 4 .any (Rows.shapeNestedSpec.pre6 enc Try.prog Try.f4 Rows.shapeNestedRow.domain false) (Rows.shapeNestedSpec.post enc Try.prog Try.f4 false true false false) := by
  refine returnsInHanded_of_change (C := Try.checked) own started (by kernel_rfl) Try.func4
    (ChangeSpec.witness6 (enc := enc) (C := Try.checked) false ⟨#[], #[.agg #[.int .u8 0, .int .u8 0], .slice none 0 0, .agg #[.int .i64 0, .int .i64 0]], []⟩ 8 (by kernel_rfl) (by kernel_rfl) (by kernel_rfl) (by kernel_rfl)) ?_
  intro W base args ds gs before hval0 hW hcnd _
  have hval : ∀ (j : Nat) t v, Try.f4.params[j]? = some t → args[j]? = some v → Value.okWide Try.prog W .any base t v := hval0
  have hW' := hW
  obtain ⟨p, q, hA0, hV, rfl, hfz, hnd⟩ := hW
  have hA : DataW.TrodAll enc Try.prog W 0 (fun _ => true) true Try.f4.params.toList args.toList ds p := hA0
  rw [Try.params4] at hA hval
  obtain ⟨v0, vs0, d0, ds0, p0, q0, hargs, rfl, rfl, h0, r0⟩ := trodAll_cons hA
  obtain ⟨v1, vs1, d1, ds1, p1, q1, rfl, rfl, rfl, h1, r1⟩ := trodAll_cons r0
  obtain ⟨v2, vs2, d2, ds2, p2, q2, rfl, rfl, rfl, h2, r2⟩ := trodAll_cons r1
  obtain ⟨rfl, rfl, rfl⟩ := trodAll_nil r2
  obtain rfl : args = #[v0, v1, v2] := by cases args; simp_all
  obtain ⟨rfl, rfl⟩ := trodVars_none hV
  have k0 := h0
  obtain ⟨a0, b0, rfl, rfl, rfl, w0, z0⟩ := arr2_open Try.underlying35 Try.underlying5 (by kernel_rfl) (by kernel_rfl) (hval 0 35 v0 rfl rfl) h0
  obtain ⟨A1, n1, c1, rfl⟩ := okWide_slice Try.underlying23 (hval 1 23 v1 rfl rfl)
  have k1 := h1
  obtain ⟨xs1, y11, y12, y13, y14⟩ := polys_open k1
  have k2 := h2
  obtain ⟨a2, b2, rfl, rfl, rfl, w2, z2⟩ := pt_open (hval 2 37 v2 rfl rfl) h2
  clear hA0 hval0
  simp only [List.append_nil] at hW'
  have hlt : ∀ x ∈ p1, x.block < W.heap.size := fun x hx => by simpa using hW'.lt x (by simpa using hx)
  have l1 : ∀ x ∈ p1, x.block < W.heap.size := fun x hx => hlt x (by simp [hx])
  refine (hwalk a0 b0 A1 n1 c1 xs1 a2 b2 W w0 z0 y11 y12 y13 y14 w2 z2).mono fun e W' ⟨he, hg⟩ => ?_
  subst he
  have e1 : Rows.shapeNestedSpec.fn H ([(.agg [.lit (.int .u8 a0), .lit (.int .u8 b0)]), d1, (.agg [.lit (.int .i64 a2), .lit (.int .i64 b2)])] ++ []) = { results := [.lit (.bool true)], args := [(.agg [.lit (.int .u8 a0), .lit (.int .u8 b0)]), d1, (.agg [.lit (.int .i64 a2), .lit (.int .i64 b2)])] } := by simp [Rows.shapeNestedSpec]
  refine ⟨_, rfl, _, _, _, [], p1, [], by simpa using hW', ?_, ?_, ?_, hg.frame _, fun h => by cases h⟩
  · rw [e1]; exact trodAll_cons_mk (shut_bool Try.underlying4 true) trodAll_mk0
  · rw [e1]
    have t := (trodAll_cons_mk (Below.trod laidOut (by kernel_rfl) (of_decide_eq_true (by kernel_rfl)) k0 hg (by simp)) (trodAll_cons_mk (Below.trod laidOut (by kernel_rfl) (of_decide_eq_true (by kernel_rfl)) k1 hg l1) (trodAll_cons_mk (Below.trod laidOut (by kernel_rfl) (of_decide_eq_true (by kernel_rfl)) k2 hg (by simp)) trodAll_mk0)))
    simp only [List.append_nil, List.nil_append, ← List.append_assoc] at t
    exact t
  · rw [e1]; rfl

theorem inst : Try.f4.isInstance Try.prog Rows.shapeNestedRow.origin Rows.shapeNestedRow.targs := of_decide_eq_true (by kernel_rfl)
theorem wrapper : Try.f4.isWrapper Try.prog Rows.shapeNestedRow.wrapper Rows.shapeNestedRow.mainSum := by
  unfold Func.isWrapper
  first | (rw [if_pos (by decide +kernel)]; kernel_rfl) | (rw [if_neg (by decide +kernel)]; exact ⟨rfl, rfl⟩)
theorem named : Try.prog.funcNamed "cracknel/cracknellaw04.ShapeNested" = some 4 := by kernel_rfl

theorem over (joined : joinedFacts Try.prog 4 Try.f4 Rows.shapeNestedSpec Rows.shapeNestedRow = true) (hwalk : Walked) : Rows.ShapeNestedSaid :=
  OpenClaim.holds_of_wide 4 Try.f4 rfl rfl rfl rfl rfl rfl rfl ⟨rfl, rfl, rfl, rfl, rfl⟩ rfl rfl rfl rfl rfl named Try.func4 joined inst wrapper
    (fun os started H enc _ => lifted hwalk os started H enc)
#print axioms over
end Go.Proofs.Ythbekbfhpedghaa.shapeNested

/- Points in slices of a call's own, which grow by append; the law's cut. -/
namespace Go.Proofs.Ythbekbfhpedghaa
open Go.RowKit Go.Sort
attribute [local go_sem ↓] run_min_mn run_max_mx

def ptsV : List Pt → List Value
  | [] => []
  | p :: l => .int .i64 p.1 :: .int .i64 p.2 :: ptsV l
theorem ptsV_length : ∀ l, (ptsV l).length = l.length * 2
  | [] => rfl
  | p :: l => by simp only [ptsV, List.length_cons, ptsV_length l]; omega
theorem ptsV_append : ∀ a b, ptsV (a ++ b) = ptsV a ++ ptsV b
  | [], _ => rfl
  | p :: a, b => by simp only [ptsV, List.cons_append, ptsV_append a b]
theorem ptsV_get : ∀ (l : List Pt) (i : Nat) (p : Pt), l[i]? = some p → (ptsV l)[i * 2]? = some (.int .i64 p.1) ∧ (ptsV l)[i * 2 + 1]? = some (.int .i64 p.2)
  | [], _, _, h => by simp at h
  | q :: l, 0, p, h => by
    obtain rfl : q = p := by simpa using h
    exact ⟨rfl, rfl⟩
  | q :: l, i + 1, p, h => by
    have := ptsV_get l i p (by simpa using h)
    rw [show (i + 1) * 2 = i * 2 + 1 + 1 by omega]
    simpa only [ptsV, List.getElem?_cons_succ] using this
theorem ptsV_cell : ∀ (l : List Pt), ∀ u ∈ ptsV l, u.oneCell' = true
  | [], u, h => by cases h
  | p :: l, u, h => by
    simp only [ptsV, List.mem_cons] at h
    rcases h with rfl | rfl | h
    · rfl
    · rfl
    · exact ptsV_cell l u h
theorem ptsV_at {w : World} {b : Nat} : ∀ (l : List Pt) (off : Nat), PtsIn w b off l → ∀ j u, (ptsV l)[j]? = some u → w.cell? ⟨b, off + j, none⟩ = some u
  | [], _, _, _, _, h => by simp [ptsV] at h
  | p :: l, off, hp, 0, u, h => by
    have := (hp 0 p rfl).1
    obtain rfl : Value.int .i64 p.1 = u := by simpa [ptsV] using h
    simpa using this
  | p :: l, off, hp, 1, u, h => by
    have := (hp 0 p rfl).2
    obtain rfl : Value.int .i64 p.2 = u := by simpa [ptsV] using h
    simpa using this
  | p :: l, off, hp, j + 2, u, h => by
    have hq : PtsIn w b (off + 2) l := fun i q hq => by
      have := hp (i + 1) q (by simpa using hq)
      rw [show off + (i + 1) * 2 = off + 2 + i * 2 by omega] at this
      exact this
    have := ptsV_at l (off + 2) hq j u (by simpa [ptsV] using h)
    rw [show off + (j + 2) = off + 2 + j by omega]
    exact this

theorem PtsIn.take {w : World} {b off : Nat} {l : List Pt} (h : PtsIn w b off l) (k : Nat) : PtsIn w b off (l.take k) := fun i p hp => by
  rw [List.getElem?_take] at hp
  split at hp
  · exact h i p hp
  · cases hp
theorem PtsAt.take {w : World} {A : Option Addr} {l : List Pt} (h : PtsAt w A l) (k : Nat) : PtsAt w A (l.take k) := fun hne => by
  obtain ⟨b, off, e, hlt, hc⟩ := h (by intro e; subst e; simp at hne)
  exact ⟨b, off, e, hlt, hc.take k⟩

/-- A slice of the call's own: blocks from base on. -/
def PtsOwn (w : World) (base : Nat) (v : Value) (l : List Pt) : Prop := w.ownsRow base 37 2 v l.length (ptsV l)

theorem PtsOwn.slice {w : World} {base : Nat} {v : Value} {l : List Pt} (h : PtsOwn w base v l) :
    ∃ A c, v = .slice A l.length c ∧ l.length ≤ c ∧ PtsAt w A l ∧ (∀ a, A = some a → base ≤ a.block) := by
  rcases h.2 with ⟨rfl, hn⟩ | ⟨g, cap, cur, rfl, hb, hg, hnc, _, hsz, ht⟩
  · refine ⟨none, 0, by rw [hn], by omega, fun hne => absurd (List.eq_nil_of_length_eq_zero hn) hne, fun a ha => by cases ha⟩
  · refine ⟨_, cap, rfl, hnc, fun _ => ⟨g, 0, rfl, (Array.getElem?_eq_some_iff.1 hg).1, fun i p hp => ?_⟩, fun a ha => by cases ha; exact hb⟩
    obtain ⟨h1, h2⟩ := ptsV_get l i p hp
    rw [← ht, List.getElem?_take] at h1 h2
    constructor
    · rw [Nat.zero_add, cell_of_row w g _ cur _ (0, 0) hg]
      split at h1
      · simpa using h1
      · cases h1
    · rw [Nat.zero_add, cell_of_row w g _ cur _ (0, 0) hg]
      split at h2
      · simpa using h2
      · cases h2

theorem PtsOwn.empty (w : World) : PtsOwn (w.alloc (.cells #[] 37)) w.heap.size (.slice (some ⟨w.heap.size, 0, none⟩) 0 0) [] :=
  World.ownsRow_made w #[] 0 (Nat.le_refl _) (by simp [maxLen]) rfl

theorem info_pt : (Try.prog.info? 37).map (fun i => (i.zero, i.size, i.bytes)) = some (some (.agg #[.int .i64 0, .int .i64 0]), 2, 16) := by kernel_rfl
theorem info_pparts {o : Option TypeInfo} {z : Value} {s b : Nat} (h : o.map (fun i => (i.zero, i.size, i.bytes)) = some (some z, s, b)) : ∃ i, o = some i ∧ i.zero = some z ∧ i.size = s ∧ i.bytes = b := by
  cases o with
  | none => cases h
  | some i =>
    have e : (i.zero, i.size, i.bytes) = (some z, s, b) := by simpa using h
    simp only [Prod.mk.injEq] at e
    exact ⟨i, rfl, e.1, e.2.1, e.2.2⟩

/-- An append. -/
theorem papp_run {w : World} {base : Nat} {v : Value} {xs ys : List Pt} (h : PtsOwn w base v xs) {A : Option Addr} (c : Nat) (hy : PtsAt w A ys) (hlen : xs.length + ys.length ≤ 100000) (hb : base ≤ w.heap.size) (ty : TypeId) :
    ∃ v' w', (Builtin.append_ #[24, 24] ty #[v, .slice A ys.length c]).run Try.prog w = .ok v' w' ∧ PtsOwn w' base v' (xs ++ ys) ∧ w.grownBy w' v.ownBlock ∧
      (v'.ownBlock = v.ownBlock ∨ v'.ownBlock = some w.heap.size) := by
  obtain ⟨i0, hi0, hz0, hz1, hz2⟩ := info_pparts info_pt
  have e2 : (xs ++ ys).length = xs.length + ys.length := by simp
  have fin : ∀ ad : Addr, A = some ad → (∀ j u, (ptsV ys)[j]? = some u → w.cell? (ad.add j) = some u) →
      ∃ v' w', (Builtin.append_ #[24, 24] ty #[v, .slice A ys.length c]).run Try.prog w = .ok v' w' ∧ PtsOwn w' base v' (xs ++ ys) ∧ w.grownBy w' v.ownBlock ∧ (v'.ownBlock = v.ownBlock ∨ v'.ownBlock = some w.heap.size) := by
    intro ad e hc
    subst e
    obtain ⟨v', w', hr, h2, h3, _, h5⟩ := run_append_own_at (P := Try.prog) w base 24 ty 37 i0 _ 2 16 Try.underlying24 hi0 hz0 hz1 hz2 rfl (by omega) v xs.length (ptsV xs) h ad ys.length c (ptsV ys) (ptsV_length ys) hc (ptsV_cell ys) (by simp [maxLen]; omega) (by omega) hb
    exact ⟨v', w', hr, by unfold PtsOwn; rw [e2, ptsV_append]; exact h2, h3, h5⟩
  cases ys with
  | nil =>
    cases A with
    | none =>
      refine ⟨v, w, ?_, by simpa using h, World.grownBy.refl w _, .inl rfl⟩
      rcases h.2 with ⟨rfl, hn⟩ | ⟨g, cap, cur, rfl, _, _, hnc, _⟩
      · simp [Builtin.append_, run_underlying Try.underlying24, sizeOf, typeInfo, hi0, Builtin.lenOf, Builtin.firstCells]
      · simp [Builtin.append_, run_underlying Try.underlying24, sizeOf, typeInfo, hi0, Builtin.lenOf, Builtin.firstCells, hnc, storeCells]
    | some ad => exact fin ad rfl (fun j u hu => by simp [ptsV] at hu)
  | cons y ys =>
    obtain ⟨b, off, rfl, _, hc⟩ := hy (by simp)
    refine fin _ rfl fun j u hu => ?_
    have e : (⟨b, off, none⟩ : Addr).add j = ⟨b, off + j, none⟩ := by unfold Addr.add; split <;> simp_all
    rw [e]
    exact ptsV_at _ _ hc j u hu

theorem wpList_papp {w : World} {ops : Array Oper} {rest : List Oper} {o : Oper} {a : Act} {Q : Exit → Act → World → Prop} (hgd : o.guard = none) (s x : Operand)
    (ho : o.op = .call { callee := .builtin .append, args := #[s, x], argTypes := #[24, 24] }) (base : Nat) (v : Value) (xs ys : List Pt) (A : Option Addr) (m c : Nat)
    (hs : a.eval s = v) (hx : a.eval x = .slice A m c) (hown : PtsOwn w base v xs) (hm : ys.length = m) (hy : PtsAt w A ys) (hlen : xs.length + ys.length ≤ 100000) (hb : base ≤ w.heap.size)
    (h : ∀ v' w', PtsOwn w' base v' (xs ++ ys) → w.grownBy w' v.ownBlock → (v'.ownBlock = v.ownBlock ∨ v'.ownBlock = some w.heap.size) → wpList Try.prog ops Q rest (a.put o.dst v') w') : wpList Try.prog ops Q (o :: rest) a w :=
  wpList_plain hgd fun _ hK => by
    subst hm
    obtain ⟨v', w', hr, h2, h3, h4⟩ := papp_run hown c hy hlen hb o.type
    unfold Oper.wp execOp
    simp only [ho, resolve, invoke, builtin, Sem.run_bind, Sem.run_pure, Result.andThen_ok, List.map_toArray, List.map_cons, List.map_nil, hs, hx, hr]
    exact hK _ _ (h v' w' h2 h3 h4)
end Go.Proofs.Ythbekbfhpedghaa

/- The law's cut of a slice of points. -/
namespace Go.Proofs.Ythbekbfhpedghaa
open Go.RowKit Go.Sort
attribute [local go_sem ↓] run_min_mn run_max_mx

theorem mn_nat (a b : Nat) : mn (a : Int) b = ((min a b : Nat) : Int) := by unfold mn; split <;> omega

/-- How many points are left. -/
def cutN (n k : Nat) : Nat := if 32 < n then 33 else k
/-- What the cut hands back. -/
def PCutTo (w : World) (xs : List Pt) (e : Ending) (w' : World) : Prop := ∃ v, e = .returned v ∧ PtsOwn w' w.heap.size v xs ∧ Below w.heap.size w w'

set_option maxHeartbeats 400000 in
set_option maxRecDepth 100000 in
theorem pcut_any (A : Option Addr) (n c k : Nat) (xs : List Pt) (w : World) (hn : xs.length = n) (hc : n ≤ c) (hbig : n ≤ 9223372036854775807) (hk : k ≤ 1000) (hx : PtsAt w A xs) :
    Calls Try.prog 5 #[.slice A n c, .int .i64 k] w (PCutTo w (xs.take (cutN n k))) := by
  have hE : ∀ q, (xs.take q).length = min n q := fun q => by rw [List.length_take, hn, Nat.min_comm]
  have hX : ∀ q, PtsAt (w.alloc (.cells #[] 37)) A (xs.take q) := fun q => (hx.take q).below ((Below.refl _ _).alloc (Nat.le_refl _) _)
  by_cases hg : 32 < n
  · have hq : cutN n k = 33 := by unfold cutN; rw [if_pos hg]
    rw [hq]
    have hmn := mn_nat n 33
    have hl := hE 33
    have hx' := hX 33
    rw [show min n 33 = 33 by omega] at hmn hl
    have HL := Lib.hid hl
    have HX := Lib.hid hx'
    have hmn' : mn (n : Int) 33 = 33 := hmn
    clear hx hx' hn hl hE hX hmn hq
    go_enter Try.func5, Try.ntmps5
    go_wp2_with (at_builtin; refine wpList_papp rfl _ _ rfl w.heap.size (.slice (some ⟨w.heap.size, 0, none⟩) 0 0) [] (xs.take 33) _ 33 c rfl rfl (PtsOwn.empty w) HL.out HX.out (by rw [HL.out]; simp) (by simp) ?_; intro v1 w1 ho hg hat; have HO := Lib.hid ho; have HG := Lib.hid hg; clear ho hg hat)
    go_ret
    exact ⟨_, rfl, by simpa using HO.out, ((Below.refl _ _).alloc (Nat.le_refl _) _).grown HG.out (by simp) (by simp [Value.ownBlock])⟩
  · have hq : cutN n k = k := by unfold cutN; rw [if_neg hg]
    rw [hq]
    have hmn := mn_nat n k
    have hl := hE k
    have hx' := hX k
    generalize hm : min n k = m at *
    have hmc : m ≤ c := by omega
    have hm1 : m ≤ 1000 := by omega
    have HL := Lib.hid hl
    have HX := Lib.hid hx'
    clear hx hx' hn hl hm hE hX hq
    go_enter Try.func5, Try.ntmps5
    go_wp2_with (at_builtin; refine wpList_papp rfl _ _ rfl w.heap.size (.slice (some ⟨w.heap.size, 0, none⟩) 0 0) [] (xs.take k) _ m c rfl rfl (PtsOwn.empty w) HL.out HX.out (by rw [HL.out]; simp; omega) (by simp) ?_; intro v1 w1 ho hg hat; have HO := Lib.hid ho; have HG := Lib.hid hg; clear ho hg hat)
    go_ret
    exact ⟨_, rfl, by simpa using HO.out, ((Below.refl _ _).alloc (Nat.le_refl _) _).grown HG.out (by simp) (by simp [Value.ownBlock])⟩

end Go.Proofs.Ythbekbfhpedghaa

/- Twice the area: the reference's function. -/
namespace Go.Proofs.Ythbekbfhpedghaa
open Go.RowKit Go.Sort
attribute [local go_sem ↓] run_min_mn run_max_mx Go.wp_at_zero Go.wp_at_succ

/-- Two variables that hold points. -/
def TwoPts (wr : World) (x y qx qy : Int) (s t : Value) (wx : World) : Prop :=
  ∃ g h : Nat, s = .pointer (some ⟨g, 0, none⟩) ∧ t = .pointer (some ⟨h, 0, none⟩) ∧ PtAt wx g x y ∧ PtAt wx h qx qy ∧ Below wr.heap.size wr wx

end Go.Proofs.Ythbekbfhpedghaa

/- turnsBack: have two edges more in common than their corner? -/
namespace Go.Proofs.Ythbekbfhpedghaa
open Go.RowKit Go.Sort
attribute [local go_sem ↓] run_min_mn run_max_mx

section
variable {wr W w' : World} {N b : Nat} {v1 v2 v3 v4 v5 v6 : Value} {a c : Nat}
/-- Three points stay. -/
theorem keep3_call (p : Below wr.heap.size wr W ∧ W.cell? ⟨a, 0, none⟩ = some v1 ∧ W.cell? ⟨a, 1, none⟩ = some v2 ∧ W.cell? ⟨b, 0, none⟩ = some v3 ∧ W.cell? ⟨b, 1, none⟩ = some v4 ∧ W.cell? ⟨c, 0, none⟩ = some v5 ∧ W.cell? ⟨c, 1, none⟩ = some v6)
    (hB : a < wr.heap.size ∧ b < wr.heap.size ∧ c < wr.heap.size) (hb : Below W.heap.size W w') :
    Below wr.heap.size wr w' ∧ w'.cell? ⟨a, 0, none⟩ = some v1 ∧ w'.cell? ⟨a, 1, none⟩ = some v2 ∧ w'.cell? ⟨b, 0, none⟩ = some v3 ∧ w'.cell? ⟨b, 1, none⟩ = some v4 ∧ w'.cell? ⟨c, 0, none⟩ = some v5 ∧ w'.cell? ⟨c, 1, none⟩ = some v6 := by
  have hs := p.1.size
  obtain ⟨p0, p1, p2, p3, p4, p5, p6⟩ := p
  obtain ⟨h1, h2, h3⟩ := hB
  exact ⟨p0.trans (hb.mono hs), (hb.cell (p := ⟨a, _, none⟩) (Nat.lt_of_lt_of_le h1 hs)).trans p1, (hb.cell (p := ⟨a, _, none⟩) (Nat.lt_of_lt_of_le h1 hs)).trans p2,
    (hb.cell (p := ⟨b, _, none⟩) (Nat.lt_of_lt_of_le h2 hs)).trans p3, (hb.cell (p := ⟨b, _, none⟩) (Nat.lt_of_lt_of_le h2 hs)).trans p4,
    (hb.cell (p := ⟨c, _, none⟩) (Nat.lt_of_lt_of_le h3 hs)).trans p5, (hb.cell (p := ⟨c, _, none⟩) (Nat.lt_of_lt_of_le h3 hs)).trans p6⟩
theorem keep3_alloc (p : Below wr.heap.size wr W ∧ W.cell? ⟨a, 0, none⟩ = some v1 ∧ W.cell? ⟨a, 1, none⟩ = some v2 ∧ W.cell? ⟨b, 0, none⟩ = some v3 ∧ W.cell? ⟨b, 1, none⟩ = some v4 ∧ W.cell? ⟨c, 0, none⟩ = some v5 ∧ W.cell? ⟨c, 1, none⟩ = some v6)
    (hB : a < wr.heap.size ∧ b < wr.heap.size ∧ c < wr.heap.size) (o : Obj) :
    Below wr.heap.size wr (W.alloc o) ∧ (W.alloc o).cell? ⟨a, 0, none⟩ = some v1 ∧ (W.alloc o).cell? ⟨a, 1, none⟩ = some v2 ∧ (W.alloc o).cell? ⟨b, 0, none⟩ = some v3 ∧ (W.alloc o).cell? ⟨b, 1, none⟩ = some v4 ∧ (W.alloc o).cell? ⟨c, 0, none⟩ = some v5 ∧ (W.alloc o).cell? ⟨c, 1, none⟩ = some v6 :=
  keep3_call p hB ((Below.refl _ _).alloc (Nat.le_refl _) o)
theorem keep3_drew (p : Below wr.heap.size wr W ∧ W.cell? ⟨a, 0, none⟩ = some v1 ∧ W.cell? ⟨a, 1, none⟩ = some v2 ∧ W.cell? ⟨b, 0, none⟩ = some v3 ∧ W.cell? ⟨b, 1, none⟩ = some v4 ∧ W.cell? ⟨c, 0, none⟩ = some v5 ∧ W.cell? ⟨c, 1, none⟩ = some v6) :
    Below wr.heap.size wr W.drew ∧ W.drew.cell? ⟨a, 0, none⟩ = some v1 ∧ W.drew.cell? ⟨a, 1, none⟩ = some v2 ∧ W.drew.cell? ⟨b, 0, none⟩ = some v3 ∧ W.drew.cell? ⟨b, 1, none⟩ = some v4 ∧ W.drew.cell? ⟨c, 0, none⟩ = some v5 ∧ W.drew.cell? ⟨c, 1, none⟩ = some v6 :=
  ⟨p.1.drew, p.2⟩
theorem keep3_set (p : Below wr.heap.size wr W ∧ W.cell? ⟨a, 0, none⟩ = some v1 ∧ W.cell? ⟨a, 1, none⟩ = some v2 ∧ W.cell? ⟨b, 0, none⟩ = some v3 ∧ W.cell? ⟨b, 1, none⟩ = some v4 ∧ W.cell? ⟨c, 0, none⟩ = some v5 ∧ W.cell? ⟨c, 1, none⟩ = some v6)
    (hB : a < wr.heap.size ∧ b < wr.heap.size ∧ c < wr.heap.size) (q : Addr) (hq : wr.heap.size ≤ q.block) (u : Value) :
    Below wr.heap.size wr (W.setCell q u) ∧ (W.setCell q u).cell? ⟨a, 0, none⟩ = some v1 ∧ (W.setCell q u).cell? ⟨a, 1, none⟩ = some v2 ∧ (W.setCell q u).cell? ⟨b, 0, none⟩ = some v3 ∧ (W.setCell q u).cell? ⟨b, 1, none⟩ = some v4 ∧ (W.setCell q u).cell? ⟨c, 0, none⟩ = some v5 ∧ (W.setCell q u).cell? ⟨c, 1, none⟩ = some v6 := by
  obtain ⟨p0, p1, p2, p3, p4, p5, p6⟩ := p
  obtain ⟨h1, h2, h3⟩ := hB
  have f : ∀ (g o : Nat), g < wr.heap.size → (W.setCell q u).cell? ⟨g, o, none⟩ = W.cell? ⟨g, o, none⟩ := fun g o hg => World.cell?_setCell_other W q _ u (fun e => by subst e; simp at hq; omega)
  exact ⟨p0.setCell hq u, (f a 0 h1).trans p1, (f a 1 h1).trans p2, (f b 0 h2).trans p3, (f b 1 h2).trans p4, (f c 0 h3).trans p5, (f c 1 h3).trans p6⟩
end

def backB (ax ay bx by' cx cy : Int) : Bool :=
  ((ax - bx) * (cy - by') - (cx - bx) * (ay - by') == 0) && decide (0 < (ax - bx) * (cx - bx) + (ay - by') * (cy - by'))

set_option maxHeartbeats 2000000 in
theorem turnsBack_any (ax ay bx by' cx cy : Int) (w : World)
    (h1 : -60000 ≤ ax ∧ ax ≤ 60000) (h2 : -60000 ≤ ay ∧ ay ≤ 60000) (h3 : -60000 ≤ bx ∧ bx ≤ 60000) (h4 : -60000 ≤ by' ∧ by' ≤ 60000) (h5 : -60000 ≤ cx ∧ cx ≤ 60000) (h6 : -60000 ≤ cy ∧ cy ≤ 60000) :
    Calls Try.prog 69 #[.agg #[.int .i64 ax, .int .i64 ay], .agg #[.int .i64 bx, .int .i64 by'], .agg #[.int .i64 cx, .int .i64 cy]] w fun e w' =>
      e = .returned (.bool (backB ax ay bx by' cx cy)) ∧ Below w.heap.size w w' := by
  have C := fun W => Lib.hid (crossD_any (ax - bx) (ay - by') (cx - bx) (cy - by') W (by omega) (by omega) (by omega) (by omega))
  have q1 : -14400000000 ≤ (ax - bx) * (cx - bx) ∧ (ax - bx) * (cx - bx) ≤ 14400000000 := mul_le_of_abs (K := 120000) (L := 120000) (by omega) (by omega)
  have q2 : -14400000000 ≤ (ay - by') * (cy - by') ∧ (ay - by') * (cy - by') ≤ 14400000000 := mul_le_of_abs (K := 120000) (L := 120000) (by omega) (by omega)
  go_enter Try.func69, Try.ntmps69
  go_wp2_with fail
  have B := boxed3 w ax ay bx by' cx cy
  generalize ((w.alloc (Go.Proofs.Ythbekbfhpedghaa.bx ax ay)).alloc (Go.Proofs.Ythbekbfhpedghaa.bx bx by')).alloc (Go.Proofs.Ythbekbfhpedghaa.bx cx cy) = wr at *
  obtain ⟨⟨a1, a2⟩, ⟨b1, b2⟩, ⟨c1, c2⟩, hb, hz⟩ := B
  have HB := Lib.hid hb
  have hB : w.heap.size < wr.heap.size ∧ w.heap.size + 1 < wr.heap.size ∧ w.heap.size + 1 + 1 < wr.heap.size := by omega
  clear hb hz
  have n1 := World.new_ne wr _ a1
  have n2 := World.new_ne wr _ a2
  have n3 := World.new_ne wr _ b1
  have n4 := World.new_ne wr _ b2
  have n5 := World.new_ne wr _ c1
  have n6 := World.new_ne wr _ c2
  go_cut [7, 8] (fun s t wx => TwoPts wr (ax - bx) (ay - by') (cx - bx) (cy - by') s t wx)
  case first =>
    have lt2 : wr.heap.size < wr.heap.size + 1 + 1 := by omega
    go_region_held3 (fun w' => Below wr.heap.size wr w' ∧ w'.cell? ⟨w.heap.size, 0, none⟩ = some (.int .i64 ax) ∧ w'.cell? ⟨w.heap.size, 1, none⟩ = some (.int .i64 ay) ∧ w'.cell? ⟨w.heap.size + 1, 0, none⟩ = some (.int .i64 bx) ∧ w'.cell? ⟨w.heap.size + 1, 1, none⟩ = some (.int .i64 by') ∧ w'.cell? ⟨w.heap.size + 1 + 1, 0, none⟩ = some (.int .i64 cx) ∧ w'.cell? ⟨w.heap.size + 1 + 1, 1, none⟩ = some (.int .i64 cy))
      (((repeat (first | refine keep3_drew ?_ | refine keep3_alloc ?_ hB _ | refine keep3_set ?_ hB _ (by simp; try omega) _)); (first | assumption | exact hS | exact ⟨Below.refl _ _, a1, a2, b1, b2, c1, c2⟩)))
      (first
        | (go_at_call 32; have hS0 := hS; clear hS; refine (minus_any _ _ _ _ _ (by omega) (by omega) (by omega) (by omega)).mono ?_; rintro e w2 ⟨rfl, hb2⟩; have hS := keep3_call (by assumption) hB hb2; obtain ⟨hc2, hf2⟩ := old_cells hb2; have hz2 := hb2.size; (try simp at hz2); (try have zz0 : w2.heap.size < w2.heap.size + 1 + 1 := by omega); (try have zz1 : wr.heap.size < w2.heap.size := by omega); (try have zz2 : ¬ wr.heap.size = w2.heap.size := by omega); (try have zz3 : ¬ w2.heap.size = wr.heap.size := by omega); (try have zz4 : wr.heap.size < w2.heap.size + 1 := by omega); (try have zz5 : ¬ wr.heap.size = w2.heap.size + 1 := by omega); (try have zz6 : ¬ w2.heap.size + 1 = wr.heap.size := by omega); (try have zz7 : wr.heap.size < w2.heap.size + 1 + 1 := by omega); (try have zz8 : ¬ wr.heap.size = w2.heap.size + 1 + 1 := by omega); (try have zz9 : ¬ w2.heap.size + 1 + 1 = wr.heap.size := by omega); (try have zz10 : wr.heap.size + 1 < w2.heap.size := by omega); (try have zz11 : ¬ wr.heap.size + 1 = w2.heap.size := by omega); (try have zz12 : ¬ w2.heap.size = wr.heap.size + 1 := by omega); (try have zz13 : wr.heap.size + 1 < w2.heap.size + 1 := by omega); (try have zz14 : ¬ wr.heap.size + 1 = w2.heap.size + 1 := by omega); (try have zz15 : ¬ w2.heap.size + 1 = wr.heap.size + 1 := by omega); (try have zz16 : wr.heap.size + 1 < w2.heap.size + 1 + 1 := by omega); (try have zz17 : ¬ wr.heap.size + 1 = w2.heap.size + 1 + 1 := by omega); (try have zz18 : ¬ w2.heap.size + 1 + 1 = wr.heap.size + 1 := by omega); (try have zz19 : w1.heap.size < w2.heap.size := by omega); (try have zz20 : ¬ w1.heap.size = w2.heap.size := by omega); (try have zz21 : ¬ w2.heap.size = w1.heap.size := by omega); (try have zz22 : w1.heap.size < w2.heap.size + 1 := by omega); (try have zz23 : ¬ w1.heap.size = w2.heap.size + 1 := by omega); (try have zz24 : ¬ w2.heap.size + 1 = w1.heap.size := by omega); (try have zz25 : w1.heap.size < w2.heap.size + 1 + 1 := by omega); (try have zz26 : ¬ w1.heap.size = w2.heap.size + 1 + 1 := by omega); (try have zz27 : ¬ w2.heap.size + 1 + 1 = w1.heap.size := by omega); (try have zz28 : w1.heap.size + 1 < w2.heap.size := by omega); (try have zz29 : ¬ w1.heap.size + 1 = w2.heap.size := by omega); (try have zz30 : ¬ w2.heap.size = w1.heap.size + 1 := by omega); (try have zz31 : w1.heap.size + 1 < w2.heap.size + 1 := by omega); (try have zz32 : ¬ w1.heap.size + 1 = w2.heap.size + 1 := by omega); (try have zz33 : ¬ w2.heap.size + 1 = w1.heap.size + 1 := by omega); (try have zz34 : w1.heap.size + 1 < w2.heap.size + 1 + 1 := by omega); (try have zz35 : ¬ w1.heap.size + 1 = w2.heap.size + 1 + 1 := by omega); (try have zz36 : ¬ w2.heap.size + 1 + 1 = w1.heap.size + 1 := by omega))
        | (go_at_call 32; refine (minus_any _ _ _ _ _ (by omega) (by omega) (by omega) (by omega)).mono ?_; rintro e w1 ⟨rfl, hb1⟩; have hS := keep3_call (by assumption) hB hb1; obtain ⟨hc1, hf1⟩ := old_cells hb1; have hz1 := hb1.size; (try simp at hz1); (try have yy0 : w1.heap.size < w1.heap.size + 1 + 1 := by omega); (try have yy1 : wr.heap.size < w1.heap.size := by omega); (try have yy2 : ¬ wr.heap.size = w1.heap.size := by omega); (try have yy3 : ¬ w1.heap.size = wr.heap.size := by omega); (try have yy4 : wr.heap.size < w1.heap.size + 1 := by omega); (try have yy5 : ¬ wr.heap.size = w1.heap.size + 1 := by omega); (try have yy6 : ¬ w1.heap.size + 1 = wr.heap.size := by omega); (try have yy7 : wr.heap.size < w1.heap.size + 1 + 1 := by omega); (try have yy8 : ¬ wr.heap.size = w1.heap.size + 1 + 1 := by omega); (try have yy9 : ¬ w1.heap.size + 1 + 1 = wr.heap.size := by omega); (try have yy10 : wr.heap.size + 1 < w1.heap.size := by omega); (try have yy11 : ¬ wr.heap.size + 1 = w1.heap.size := by omega); (try have yy12 : ¬ w1.heap.size = wr.heap.size + 1 := by omega); (try have yy13 : wr.heap.size + 1 < w1.heap.size + 1 := by omega); (try have yy14 : ¬ wr.heap.size + 1 = w1.heap.size + 1 := by omega); (try have yy15 : ¬ w1.heap.size + 1 = wr.heap.size + 1 := by omega); (try have yy16 : wr.heap.size + 1 < w1.heap.size + 1 + 1 := by omega); (try have yy17 : ¬ wr.heap.size + 1 = w1.heap.size + 1 + 1 := by omega); (try have yy18 : ¬ w1.heap.size + 1 + 1 = wr.heap.size + 1 := by omega)))
    all_goals (go_wp2_with fail; go_meet)
    all_goals
      have hS1 := hS.1
      refine ⟨_, _, rfl, rfl, ?_, ?_, ?_⟩
      · constructor <;> (first | (go_simp; done))
      · constructor <;> (first | (go_simp; done))
      · go_grown
  case rest =>
    obtain ⟨g, h, rfl, rfl, P1, P2, hbc⟩ := hcut
    have hgb : g < wc.heap.size := block_lt_of_cell P1.1
    have hhb : h < wc.heap.size := block_lt_of_cell P2.1
    obtain ⟨g1, g2⟩ := P1
    obtain ⟨k1, k2⟩ := P2
    clear a1 a2 b1 b2 c1 c2 n1 n2 n3 n4 n5 n6
    go_wp2_with fail
    refine ((C _).out).mono ?_
    rintro e w3 ⟨rfl, hb3⟩
    obtain ⟨g1, g2⟩ := PtAt.below hb3 hgb ⟨g1, g2⟩
    obtain ⟨k1, k2⟩ := PtAt.below hb3 hhb ⟨k1, k2⟩
    have hbw : Below w.heap.size w w3 := HB.out.trans ((hbc.trans (hb3.mono hbc.size)).mono HB.out.size)
    have hd : backB ax ay bx by' cx cy = (((ax - bx) * (cy - by') - (cx - bx) * (ay - by') == 0) && decide (0 < (ax - bx) * (cx - bx) + (ay - by') * (cy - by'))) := rfl
    have HD := Lib.hid hd
    clear hd C
    clear h1 h2 h3 h4 h5 h6
    obtain ⟨q1, q1'⟩ := q1
    obtain ⟨q2, q2'⟩ := q2
    cases hz : ((ax - bx) * (cy - by') - (cx - bx) * (ay - by') == 0)
    · go_wp2
      go_ret
      exact ⟨ret_bool (by rw [HD.out, hz]; rfl), hbw⟩
    · go_wp2
      go_ret
      exact ⟨ret_bool (by rw [HD.out, hz]; simp), hbw⟩
end Go.Proofs.Ythbekbfhpedghaa

/- Do two edges meet? Package shape's way: by boxes and sides. -/
namespace Go.Proofs.Ythbekbfhpedghaa
open Go.RowKit Go.Sort
attribute [local go_sem ↓] run_min_mn run_max_mx

def boxB (ax ay bx by' cx cy dx dy : Int) : Bool :=
  decide (mx (mn ax bx) (mn cx dx) ≤ mn (mx ax bx) (mx cx dx)) && decide (mx (mn ay by') (mn cy dy) ≤ mn (mx ay by') (mx cy dy))
def reachB (ax ay bx by' cx cy dx dy : Int) : Bool :=
  decide (mn (cross ax ay bx by' cx cy) (cross ax ay bx by' dx dy) ≤ 0) && decide (0 ≤ mx (cross ax ay bx by' cx cy) (cross ax ay bx by' dx dy))
def meet2B (ax ay bx by' cx cy dx dy : Int) : Bool := (boxB ax ay bx by' cx cy dx dy && reachB ax ay bx by' cx cy dx dy) && reachB cx cy dx dy ax ay bx by'

set_option maxHeartbeats 1000000 in
theorem box_any (ax ay bx by' cx cy dx dy : Int) (w : World) :
    Calls Try.prog 79 #[.agg #[.int .i64 ax, .int .i64 ay], .agg #[.int .i64 bx, .int .i64 by'], .agg #[.int .i64 cx, .int .i64 cy], .agg #[.int .i64 dx, .int .i64 dy]] w fun e w' =>
      e = .returned (.bool (boxB ax ay bx by' cx cy dx dy)) ∧ Below w.heap.size w w' := by
  have e : boxB ax ay bx by' cx cy dx dy = (decide (mx (mn ax bx) (mn cx dx) ≤ mn (mx ax bx) (mx cx dx)) && decide (mx (mn ay by') (mn cy dy) ≤ mn (mx ay by') (mx cy dy))) := rfl
  have H := Lib.hid e
  clear e
  generalize boxB ax ay bx by' cx cy dx dy = r at *
  go_enter Try.func79, Try.ntmps79
  go_wp2
  all_goals
    go_ret
    refine ⟨ret_bool ?_, by go_grown⟩
    rw [H.out]
    simp
    try omega

set_option maxHeartbeats 1000000 in
theorem reach_any (ax ay bx by' cx cy dx dy : Int) (w : World)
    (h1 : -60000 ≤ ax ∧ ax ≤ 60000) (h2 : -60000 ≤ ay ∧ ay ≤ 60000) (h3 : -60000 ≤ bx ∧ bx ≤ 60000) (h4 : -60000 ≤ by' ∧ by' ≤ 60000) (h5 : -60000 ≤ cx ∧ cx ≤ 60000) (h6 : -60000 ≤ cy ∧ cy ≤ 60000) (h7 : -60000 ≤ dx ∧ dx ≤ 60000) (h8 : -60000 ≤ dy ∧ dy ≤ 60000) :
    Calls Try.prog 80 #[.agg #[.int .i64 ax, .int .i64 ay], .agg #[.int .i64 bx, .int .i64 by'], .agg #[.int .i64 cx, .int .i64 cy], .agg #[.int .i64 dx, .int .i64 dy]] w fun e w' =>
      e = .returned (.bool (reachB ax ay bx by' cx cy dx dy)) ∧ Below w.heap.size w w' := by
  have C1 := fun W => Lib.hid (turn_any ax ay bx by' cx cy W h1 h2 h3 h4 h5 h6)
  have C2 := fun W => Lib.hid (turn_any ax ay bx by' dx dy W h1 h2 h3 h4 h7 h8)
  have e : reachB ax ay bx by' cx cy dx dy = (decide (mn (cross ax ay bx by' cx cy) (cross ax ay bx by' dx dy) ≤ 0) && decide (0 ≤ mx (cross ax ay bx by' cx cy) (cross ax ay bx by' dx dy))) := rfl
  have H := Lib.hid e
  clear e h1 h2 h3 h4 h5 h6 h7 h8
  generalize reachB ax ay bx by' cx cy dx dy = r at *
  generalize cross ax ay bx by' cx cy = u at *
  generalize cross ax ay bx by' dx dy = v at *
  go_enter Try.func80, Try.ntmps80
  go_wp2_with fail
  have B := boxed4 w ax ay bx by' cx cy dx dy
  generalize (((w.alloc (Go.Proofs.Ythbekbfhpedghaa.bx ax ay)).alloc (Go.Proofs.Ythbekbfhpedghaa.bx bx by')).alloc (Go.Proofs.Ythbekbfhpedghaa.bx cx cy)).alloc (Go.Proofs.Ythbekbfhpedghaa.bx dx dy) = wr at *
  obtain ⟨⟨a1, a2⟩, ⟨b1, b2⟩, ⟨c1, c2⟩, ⟨d1, d2⟩, hb, hz⟩ := B
  have HB := Lib.hid hb
  clear hz hb
  have K1 := fun d os => Lib.hid (Calls.regrown_of ((C1 (grow (redrawn wr d) os)).out))
  have K2 := fun d os => Lib.hid (Calls.regrown_of ((C2 (grow (redrawn wr d) os)).out))
  have t1 := cell_regrown a1
  have t2 := cell_regrown a2
  have t3 := cell_regrown b1
  have t4 := cell_regrown b2
  have t5 := cell_regrown c1
  have t6 := cell_regrown c2
  have t7 := cell_regrown d1
  have t8 := cell_regrown d2
  clear a1 a2 b1 b2 c1 c2 d1 d2 C1 C2
  refine wp_region_quiet_below (by kernel_rfl) (by kernel_rfl) ?_
  repeat (go_big_quiet_step (first | (with_reducible exact (K1 _ _).out) | (with_reducible exact (K2 _ _).out)))
  refine wpQuiet_nil ?_
  intro _ hw'
  obtain ⟨⟨dq, osq⟩, hw''⟩ := hw'
  subst hw''
  go_wp2
  all_goals
    go_ret
    refine ⟨ret_bool ?_, HB.out.trans ((below_regrown wr dq osq).mono HB.out.size)⟩
    rw [H.out]
    simp
    try omega

set_option maxHeartbeats 1000000 in
theorem meetD_any (ax ay bx by' cx cy dx dy : Int) (w : World)
    (h1 : -60000 ≤ ax ∧ ax ≤ 60000) (h2 : -60000 ≤ ay ∧ ay ≤ 60000) (h3 : -60000 ≤ bx ∧ bx ≤ 60000) (h4 : -60000 ≤ by' ∧ by' ≤ 60000) (h5 : -60000 ≤ cx ∧ cx ≤ 60000) (h6 : -60000 ≤ cy ∧ cy ≤ 60000) (h7 : -60000 ≤ dx ∧ dx ≤ 60000) (h8 : -60000 ≤ dy ∧ dy ≤ 60000) :
    Calls Try.prog 70 #[.agg #[.int .i64 ax, .int .i64 ay], .agg #[.int .i64 bx, .int .i64 by'], .agg #[.int .i64 cx, .int .i64 cy], .agg #[.int .i64 dx, .int .i64 dy]] w fun e w' =>
      e = .returned (.bool (meet2B ax ay bx by' cx cy dx dy)) ∧ Below w.heap.size w w' := by
  have C0 := fun W => Lib.hid (box_any ax ay bx by' cx cy dx dy W)
  have C1 := fun W => Lib.hid (reach_any ax ay bx by' cx cy dx dy W h1 h2 h3 h4 h5 h6 h7 h8)
  have C2 := fun W => Lib.hid (reach_any cx cy dx dy ax ay bx by' W h5 h6 h7 h8 h1 h2 h3 h4)
  have e : meet2B ax ay bx by' cx cy dx dy = ((boxB ax ay bx by' cx cy dx dy && reachB ax ay bx by' cx cy dx dy) && reachB cx cy dx dy ax ay bx by') := rfl
  have H := Lib.hid e
  clear e h1 h2 h3 h4 h5 h6 h7 h8
  generalize meet2B ax ay bx by' cx cy dx dy = r at *
  generalize boxB ax ay bx by' cx cy dx dy = x0 at *
  generalize reachB ax ay bx by' cx cy dx dy = x1 at *
  generalize reachB cx cy dx dy ax ay bx by' = x2 at *
  go_enter Try.func70, Try.ntmps70
  go_wp2_with fail
  have B := boxed4 w ax ay bx by' cx cy dx dy
  generalize (((w.alloc (Go.Proofs.Ythbekbfhpedghaa.bx ax ay)).alloc (Go.Proofs.Ythbekbfhpedghaa.bx bx by')).alloc (Go.Proofs.Ythbekbfhpedghaa.bx cx cy)).alloc (Go.Proofs.Ythbekbfhpedghaa.bx dx dy) = wr at *
  obtain ⟨P1, P2, P3, P4, hb, hz⟩ := B
  have l1 : w.heap.size < wr.heap.size ∧ w.heap.size + 1 < wr.heap.size ∧ w.heap.size + 1 + 1 < wr.heap.size ∧ w.heap.size + 1 + 1 + 1 < wr.heap.size := by omega
  refine ((C0 _).out).mono ?_
  rintro e w1 ⟨rfl, hb1⟩
  have Q1 := PtAt.below hb1 l1.1 P1
  have Q2 := PtAt.below hb1 l1.2.1 P2
  have Q3 := PtAt.below hb1 l1.2.2.1 P3
  have Q4 := PtAt.below hb1 l1.2.2.2 P4
  have hbw1 := hb.trans (hb1.mono hb.size)
  have hs1 := hb1.size
  clear P1 P2 P3 P4 hb1 hb hz
  cases x0
  · go_wp2
    go_ret
    exact ⟨ret_bool (by rw [H.out]; rfl), hbw1⟩
  · obtain ⟨a1, a2⟩ := Q1
    obtain ⟨b1, b2⟩ := Q2
    obtain ⟨c1, c2⟩ := Q3
    obtain ⟨d1, d2⟩ := Q4
    go_wp2_with fail
    refine ((C1 _).out).mono ?_
    rintro e w2 ⟨rfl, hb2⟩
    have Q1 := PtAt.below hb2 (by omega) ⟨a1, a2⟩
    have Q2 := PtAt.below hb2 (by omega) ⟨b1, b2⟩
    have Q3 := PtAt.below hb2 (by omega) ⟨c1, c2⟩
    have Q4 := PtAt.below hb2 (by omega) ⟨d1, d2⟩
    have hbw2 := hbw1.trans (hb2.mono hbw1.size)
    clear hb2 a1 a2 b1 b2 c1 c2 d1 d2
    cases x1
    · go_wp2
      go_ret
      exact ⟨ret_bool (by rw [H.out]; rfl), hbw2⟩
    · obtain ⟨a1, a2⟩ := Q1
      obtain ⟨b1, b2⟩ := Q2
      obtain ⟨c1, c2⟩ := Q3
      obtain ⟨d1, d2⟩ := Q4
      go_wp2_with fail
      refine ((C2 _).out).mono ?_
      rintro e w3 ⟨rfl, hb3⟩
      have hbw3 := hbw2.trans (hb3.mono hbw2.size)
      go_wp2
      go_ret
      exact ⟨ret_bool (by rw [H.out]; rfl), hbw3⟩
end Go.Proofs.Ythbekbfhpedghaa
