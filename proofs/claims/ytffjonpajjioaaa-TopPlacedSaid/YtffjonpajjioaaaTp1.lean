/- Parts of the proof, one after the other: Pure, Kit, Ref, DevLeaf, DevBox, Meet, Poly, DevPoly, DevPts, PtsOpen, PolysOpen, ArrOpen, PlacedFrame, PtsOwn, PtsCut, Area, DevBack, DevMeet, Simple, DevSimple, DevCmp, DevConvex. -/
import Derived.Below
import Derived.Calls
import Derived.WalkKit
import Derived.Test.YtffjonpajjioaaaProg
import Derived.WalkSpells
import Derived.WalkLawsBesides
import Derived.Handy
import Derived.Lib.Hide
import Derived.Lib.QuietBelow
import Derived.BigQuiet
import Derived.Deep.RegionHeld3
import Derived.Deep.DrawnRows
import Derived.Deep.DeepCutAuto
import Derived.ChangeSlices
import Derived.OpenShut
import Derived.ProofKit
import Derived.Deep.SlicePairs
import Derived.Lib.SmallJoins
import Derived.Deep.Slices
import Derived.Test.YtffjonpajjioaaaRows
import Derived.JoinedOf
import Derived.Carry
import Derived.Maps.AppendAt
import Derived.Deep.AppendLies
import Derived.OwnWalk
import Derived.Laws.Rows
import Derived.Laws.StructEq
import Derived.KernelRfl
import Derived.StillTailTactics
/- Plain functions on points and lists of points, as chapter 4's reference computes them. -/
namespace Go.Proofs.Ytffjonpajjioaaa

abbrev Pt := Int × Int

def inB (v lo hi : Int) : Bool := decide (lo ≤ v) && decide (v ≤ hi)
def validB (x y lim : Int) : Bool := inB x (-lim) lim && inB y (-lim) lim
def cross (ax ay bx by' cx cy : Int) : Int := (bx - ax) * (cy - ay) - (cx - ax) * (by' - ay)
def sgn (v : Int) : Int := if 0 < v then 1 else if v < 0 then -1 else 0
def mn (x y : Int) : Int := if y < x then y else x
def mx (x y : Int) : Int := if x < y then y else x
def onB (ax ay bx by' px py : Int) : Bool :=
  (cross ax ay bx by' px py == 0) && inB px (mn ax bx) (mx ax bx) && inB py (mn ay by') (mx ay by')
def meetB (ax ay bx by' cx cy dx dy : Int) : Bool :=
  (onB ax ay bx by' cx cy || onB ax ay bx by' dx dy || onB cx cy dx dy ax ay || onB cx cy dx dy bx by') ||
  (decide (sgn (cross ax ay bx by' cx cy) * sgn (cross ax ay bx by' dx dy) < 0) && decide (sgn (cross cx cy dx dy ax ay) * sgn (cross cx cy dx dy bx by') < 0))
def firstB (ax ay bx by' : Int) : Bool := decide (ay < by') || (ay == by' && decide (ax < bx))

/-- Polygons: a list of points. -/
def nx (l : List Pt) (i : Nat) : Pt := l.getD ((i + 1) % l.length) (0, 0)
def okP (p : Pt) : Bool := validB p.1 p.2 10000
def polyB (l : List Pt) : Bool := l.all okP && inB l.length 3 32

/-- The sum over the edges, up to the k-th. -/
def area2To (l : List Pt) : Nat → Int
  | 0 => 0
  | k + 1 => area2To l k + ((l.getD k (0, 0)).1 * (nx l k).2 - (nx l k).1 * (l.getD k (0, 0)).2)
def area2 (l : List Pt) : Int := area2To l l.length

/-- Simple polygons, as the reference finds them. -/
def gt (l : List Pt) (i : Nat) : Pt := l.getD i (0, 0)
def onP (a b p : Pt) : Bool := onB a.1 a.2 b.1 b.2 p.1 p.2
def meetP (a b c d : Pt) : Bool := meetB a.1 a.2 b.1 b.2 c.1 c.2 d.1 d.2
def eqI (x y x' y' : Int) : Bool := x == x' && y == y'
def eqP (a b : Pt) : Bool := eqI a.1 a.2 b.1 b.2
def zeroAt (l : List Pt) (i : Nat) : Bool := eqP (gt l i) (nx l i)
def foldAt (l : List Pt) (i : Nat) : Bool := onP (gt l i) (nx l i) (nx l (i + 1)) || onP (nx l i) (nx l (i + 1)) (gt l i)
def hitAt (l : List Pt) (i k : Nat) : Bool := !((k + 1) % l.length == i) && meetP (gt l i) (nx l i) (gt l k) (nx l k)
def simpleB (l : List Pt) : Bool :=
  (List.range l.length).all (fun i => !zeroAt l i) &&
    (List.range l.length).all (fun i => !foldAt l i && (List.range l.length).all fun k => decide (k < i + 2) || !hitAt l i k)

def crossP (a b c : Pt) : Int := cross a.1 a.2 b.1 b.2 c.1 c.2
def firstP (a b : Pt) : Bool := firstB a.1 a.2 b.1 b.2
def convexAt (l : List Pt) (i : Nat) : Bool := !decide (crossP (gt l i) (nx l i) (nx l (i + 1)) ≤ 0) && (i == 0 || firstP (gt l 0) (gt l i))
def convexB (l : List Pt) : Bool := simpleB l && (List.range l.length).all (convexAt l)

theorem inB_true {v lo hi : Int} : inB v lo hi = true ↔ lo ≤ v ∧ v ≤ hi := by simp [inB]
theorem inB_false {v lo hi : Int} : inB v lo hi = false ↔ v < lo ∨ hi < v := by
  simp [inB]; omega

/-- A product of two numbers of at most K. -/
theorem mul_le_of_abs {a b K L : Int} (ha : -K ≤ a ∧ a ≤ K) (hb : -L ≤ b ∧ b ≤ L) : -(K * L) ≤ a * b ∧ a * b ≤ K * L := by
  obtain ⟨a1, a2⟩ := ha
  obtain ⟨b1, b2⟩ := hb
  have hL : 0 ≤ L := by omega
  have h1 : 0 ≤ (K - a) * (L + b) := Int.mul_nonneg (by omega) (by omega)
  have h2 : 0 ≤ (K + a) * (L - b) := Int.mul_nonneg (by omega) (by omega)
  have h3 : 0 ≤ (K - a) * (L - b) := Int.mul_nonneg (by omega) (by omega)
  have h4 : 0 ≤ (K + a) * (L + b) := Int.mul_nonneg (by omega) (by omega)
  have e1 : (K - a) * (L + b) = K * L + K * b - a * L - a * b := by
    rw [Int.sub_mul, Int.mul_add, Int.mul_add]; omega
  have e2 : (K + a) * (L - b) = K * L - K * b + a * L - a * b := by
    rw [Int.add_mul, Int.mul_sub, Int.mul_sub]; omega
  have e3 : (K - a) * (L - b) = K * L - K * b - a * L + a * b := by
    rw [Int.sub_mul, Int.mul_sub, Int.mul_sub]; omega
  have e4 : (K + a) * (L + b) = K * L + K * b + a * L + a * b := by
    rw [Int.add_mul, Int.mul_add, Int.mul_add]; omega
  omega

theorem sgn_bd (v : Int) : -1 ≤ sgn v ∧ sgn v ≤ 1 := by
  unfold sgn; split
  · omega
  · split <;> omega

theorem okP_bd {p : Pt} (h : okP p = true) : (-10000 ≤ p.1 ∧ p.1 ≤ 10000) ∧ (-10000 ≤ p.2 ∧ p.2 ≤ 10000) := by
  simpa [okP, validB, inB] using h
theorem getD_ok {l : List Pt} (h : l.all okP = true) (i : Nat) : okP (l.getD i (0, 0)) = true := by
  rw [List.getD_eq_getElem?_getD]
  cases e : l[i]? with
  | none => rfl
  | some p => exact List.all_eq_true.1 h p (List.mem_of_getElem? e)
theorem nx_ok {l : List Pt} (h : l.all okP = true) (i : Nat) : okP (nx l i) = true := getD_ok h _
theorem term_bd {p q : Pt} (hp : okP p = true) (hq : okP q = true) : -200000000 ≤ p.1 * q.2 - q.1 * p.2 ∧ p.1 * q.2 - q.1 * p.2 ≤ 200000000 := by
  obtain ⟨p1, p2⟩ := okP_bd hp
  obtain ⟨q1, q2⟩ := okP_bd hq
  have a := mul_le_of_abs p1 q2
  have b := mul_le_of_abs q1 p2
  omega
theorem area2To_bd {l : List Pt} (h : l.all okP = true) : ∀ k : Nat, -(200000000 * (k : Int)) ≤ area2To l k ∧ area2To l k ≤ 200000000 * (k : Int)
  | 0 => by simp [area2To]
  | k + 1 => by
    have ih := area2To_bd h k
    have t := term_bd (getD_ok h k) (nx_ok h k)
    simp only [area2To]
    omega

theorem simpleB_zero {l : List Pt} {k : Nat} (hk : k < l.length) (h : zeroAt l k = true) : simpleB l = false := by
  have : (List.range l.length).all (fun i => !zeroAt l i) = false := by
    rw [List.all_eq_false]; exact ⟨k, List.mem_range.2 hk, by simp [h]⟩
  simp [simpleB, this]
theorem simpleB_fold {l : List Pt} {k : Nat} (hk : k < l.length) (h : foldAt l k = true) : simpleB l = false := by
  have : (List.range l.length).all (fun i => !foldAt l i && (List.range l.length).all fun k => decide (k < i + 2) || !hitAt l i k) = false := by
    rw [List.all_eq_false]; exact ⟨k, List.mem_range.2 hk, by simp [h]⟩
  simp only [simpleB, this, Bool.and_false]
theorem simpleB_hit {l : List Pt} {i k : Nat} (hi : i < l.length) (hk : k < l.length) (h2 : i + 2 ≤ k) (h : hitAt l i k = true) : simpleB l = false := by
  have : (List.range l.length).all (fun i => !foldAt l i && (List.range l.length).all fun k => decide (k < i + 2) || !hitAt l i k) = false := by
    rw [List.all_eq_false]; refine ⟨i, List.mem_range.2 hi, ?_⟩
    have : ((List.range l.length).all fun k => decide (k < i + 2) || !hitAt l i k) = false := by
      rw [List.all_eq_false]; refine ⟨k, List.mem_range.2 hk, ?_⟩
      rw [h, decide_eq_false (by omega)]; decide
    rw [this]; simp
  simp only [simpleB, this, Bool.and_false]
theorem simpleB_yes {l : List Pt} (h1 : ∀ j, j < l.length → zeroAt l j = false) (h2 : ∀ j, j < l.length → foldAt l j = false ∧ ∀ k, j + 2 ≤ k → k < l.length → hitAt l j k = false) : simpleB l = true := by
  unfold simpleB
  rw [Bool.and_eq_true, List.all_eq_true, List.all_eq_true]
  refine ⟨fun i hi => by rw [h1 i (List.mem_range.1 hi)]; rfl, fun i hi => ?_⟩
  obtain ⟨f, g⟩ := h2 i (List.mem_range.1 hi)
  rw [f, Bool.not_false, Bool.true_and, List.all_eq_true]
  intro k hk
  by_cases e : k < i + 2
  · rw [decide_eq_true e]; rfl
  · rw [g k (by omega) (List.mem_range.1 hk)]; simp

theorem convexB_no {l : List Pt} {k : Nat} (hk : k < l.length) (h : convexAt l k = false) : convexB l = false := by
  have : (List.range l.length).all (convexAt l) = false := by
    rw [List.all_eq_false]; exact ⟨k, List.mem_range.2 hk, by simp [h]⟩
  simp [convexB, this]
theorem convexB_yes {l : List Pt} (h0 : simpleB l = true) (h : ∀ j, j < l.length → convexAt l j = true) : convexB l = true := by
  unfold convexB
  rw [h0, Bool.true_and, List.all_eq_true]
  exact fun i hi => h i (List.mem_range.1 hi)

end Go.Proofs.Ytffjonpajjioaaa

/- Small words about worlds, used by all walks. -/
namespace Go.Proofs.Ytffjonpajjioaaa
open Go.RowKit

/-- Old cells and old marks read as before. -/
theorem old_cells {W w1 : World} (hb : Below W.heap.size W w1) :
    (∀ b o, b < W.heap.size → w1.cell? ⟨b, o, none⟩ = W.cell? ⟨b, o, none⟩) ∧ (∀ b o, b < W.heap.size → w1.frozen? ⟨b, o, none⟩ = W.frozen? ⟨b, o, none⟩) :=
  ⟨fun b o h => hb.cell (p := ⟨b, o, none⟩) h, fun b o h => hb.frozen (p := ⟨b, o, none⟩) h⟩

theorem ret_bool {a b : Bool} (h : a = b) : Ending.returned (.bool a) = .returned (.bool b) := by rw [h]
theorem ret_int {k : IntKind} {a b : Int} (h : a = b) : Ending.returned (.int k a) = .returned (.int k b) := by rw [h]

theorem run_min_mn {P : Program} {w : World} (ts : Array TypeId) (t : TypeId) (k k' : IntKind) (x y : Int) :
    (Builtin.min_ ts t #[.int k x, .int k' y]).run P w = .ok (.int k (mn x y)) w := run_min_int2 (P := P) (w := w) ts t k k' x y
theorem run_max_mx {P : Program} {w : World} (ts : Array TypeId) (t : TypeId) (k k' : IntKind) (x y : Int) :
    (Builtin.max_ ts t #[.int k x, .int k' y]).run P w = .ok (.int k (mx x y)) w := run_max_int2 (P := P) (w := w) ts t k k' x y

/-- A point lies at the head of a block. -/
def PtAt (w : World) (b : Nat) (x y : Int) : Prop := w.cell? ⟨b, 0, none⟩ = some (.int .i64 x) ∧ w.cell? ⟨b, 1, none⟩ = some (.int .i64 y)
theorem PtAt.below {w w1 : World} {B b : Nat} {x y : Int} (hb : Below B w w1) (h : b < B) (p : PtAt w b x y) : PtAt w1 b x y :=
  ⟨(hb.cell (p := ⟨b, 0, none⟩) h).trans p.1, (hb.cell (p := ⟨b, 1, none⟩) h).trans p.2⟩
theorem PtAt.drew {w : World} {b : Nat} {x y : Int} (p : PtAt w b x y) : PtAt w.drew b x y := p
theorem PtAt.alloc {w : World} {b : Nat} {x y : Int} (o : Obj) (h : b < w.heap.size) (p : PtAt w b x y) : PtAt (w.alloc o) b x y :=
  ⟨(World.cell?_alloc_lt w o ⟨b, 0, none⟩ h).trans p.1, (World.cell?_alloc_lt w o ⟨b, 1, none⟩ h).trans p.2⟩

/-- Four points stay behind a call that only makes new blocks. -/
theorem keep_four {w4 W w' : World} {n : Nat} {a1 a2 b1 b2 c1 c2 d1 d2 : Value} (h4 : n + 1 + 1 + 1 < w4.heap.size)
    (p : Below w4.heap.size w4 W ∧ W.cell? ⟨n, 0, none⟩ = some a1 ∧ W.cell? ⟨n, 1, none⟩ = some a2 ∧ W.cell? ⟨n + 1, 0, none⟩ = some b1 ∧ W.cell? ⟨n + 1, 1, none⟩ = some b2 ∧
      W.cell? ⟨n + 1 + 1, 0, none⟩ = some c1 ∧ W.cell? ⟨n + 1 + 1, 1, none⟩ = some c2 ∧ W.cell? ⟨n + 1 + 1 + 1, 0, none⟩ = some d1 ∧ W.cell? ⟨n + 1 + 1 + 1, 1, none⟩ = some d2)
    (hb : Below W.heap.size W w') :
    Below w4.heap.size w4 w' ∧ w'.cell? ⟨n, 0, none⟩ = some a1 ∧ w'.cell? ⟨n, 1, none⟩ = some a2 ∧ w'.cell? ⟨n + 1, 0, none⟩ = some b1 ∧ w'.cell? ⟨n + 1, 1, none⟩ = some b2 ∧
      w'.cell? ⟨n + 1 + 1, 0, none⟩ = some c1 ∧ w'.cell? ⟨n + 1 + 1, 1, none⟩ = some c2 ∧ w'.cell? ⟨n + 1 + 1 + 1, 0, none⟩ = some d1 ∧ w'.cell? ⟨n + 1 + 1 + 1, 1, none⟩ = some d2 := by
  obtain ⟨p0, p1, p2, p3, p4, p5, p6, p7, p8⟩ := p
  have hs := p0.size
  exact ⟨p0.trans (hb.mono hs), (hb.cell (p := ⟨_, _, none⟩) (by show n < _; omega)).trans p1, (hb.cell (p := ⟨_, _, none⟩) (by show n < _; omega)).trans p2, (hb.cell (p := ⟨_, _, none⟩) (by show n + 1 < _; omega)).trans p3, (hb.cell (p := ⟨_, _, none⟩) (by show n + 1 < _; omega)).trans p4,
    (hb.cell (p := ⟨_, _, none⟩) (by show n + 1 + 1 < _; omega)).trans p5, (hb.cell (p := ⟨_, _, none⟩) (by show n + 1 + 1 < _; omega)).trans p6, (hb.cell (p := ⟨_, _, none⟩) (by show n + 1 + 1 + 1 < _; omega)).trans p7, (hb.cell (p := ⟨_, _, none⟩) (by show n + 1 + 1 + 1 < _; omega)).trans p8⟩

section
variable {wr W w' : World} {N b : Nat} {o1 o2 : Nat} {v1 v2 : Value}
/-- Two cells of an old block stay: behind a call that only makes new blocks, behind a new block, behind a store into a new block. -/
theorem keep_call (p : Below wr.heap.size wr W ∧ W.cell? ⟨b, o1, none⟩ = some v1 ∧ W.cell? ⟨b, o2, none⟩ = some v2) (hB : b < wr.heap.size) (hb : Below W.heap.size W w') :
    Below wr.heap.size wr w' ∧ w'.cell? ⟨b, o1, none⟩ = some v1 ∧ w'.cell? ⟨b, o2, none⟩ = some v2 :=
  have hs := p.1.size
  ⟨p.1.trans (hb.mono hs), (hb.cell (p := ⟨b, _, none⟩) (Nat.lt_of_lt_of_le hB hs)).trans p.2.1, (hb.cell (p := ⟨b, _, none⟩) (Nat.lt_of_lt_of_le hB hs)).trans p.2.2⟩
theorem keep_alloc (p : Below wr.heap.size wr W ∧ W.cell? ⟨b, o1, none⟩ = some v1 ∧ W.cell? ⟨b, o2, none⟩ = some v2) (hB : b < wr.heap.size) (o : Obj) :
    Below wr.heap.size wr (W.alloc o) ∧ (W.alloc o).cell? ⟨b, o1, none⟩ = some v1 ∧ (W.alloc o).cell? ⟨b, o2, none⟩ = some v2 :=
  keep_call p hB ((Below.refl _ _).alloc (Nat.le_refl _) o)
theorem keep_drew (p : Below wr.heap.size wr W ∧ W.cell? ⟨b, o1, none⟩ = some v1 ∧ W.cell? ⟨b, o2, none⟩ = some v2) :
    Below wr.heap.size wr W.drew ∧ W.drew.cell? ⟨b, o1, none⟩ = some v1 ∧ W.drew.cell? ⟨b, o2, none⟩ = some v2 :=
  ⟨p.1.drew, p.2.1, p.2.2⟩
theorem keep_set (p : Below wr.heap.size wr W ∧ W.cell? ⟨b, o1, none⟩ = some v1 ∧ W.cell? ⟨b, o2, none⟩ = some v2) (hB : b < wr.heap.size) (q : Addr) (hq : wr.heap.size ≤ q.block) (u : Value) :
    Below wr.heap.size wr (W.setCell q u) ∧ (W.setCell q u).cell? ⟨b, o1, none⟩ = some v1 ∧ (W.setCell q u).cell? ⟨b, o2, none⟩ = some v2 :=
  ⟨p.1.setCell hq u, (World.cell?_setCell_other W q _ u (fun e => by subst e; simp at hq; omega)).trans p.2.1, (World.cell?_setCell_other W q _ u (fun e => by subst e; simp at hq; omega)).trans p.2.2⟩
end

/-- Two cells at the head of a block, whatever they hold. -/
def PtRoom (w : World) (b : Nat) : Prop := (w.cell? ⟨b, 0, none⟩).isSome = true ∧ (w.cell? ⟨b, 1, none⟩).isSome = true
theorem PtRoom.new {w : World} {u v : Value} {t : TypeId} : PtRoom (w.alloc (.cells #[u, v] t)) w.heap.size := by
  constructor <;> simp [World.cell?_alloc_new]
theorem PtRoom.alloc {w : World} {b : Nat} {o : Obj} (h : b < w.heap.size) (r : PtRoom w b) : PtRoom (w.alloc o) b :=
  ⟨by rw [World.cell?_alloc_lt w o ⟨b, 0, none⟩ h]; exact r.1, by rw [World.cell?_alloc_lt w o ⟨b, 1, none⟩ h]; exact r.2⟩
theorem PtRoom.drew {w : World} {b : Nat} (r : PtRoom w b) : PtRoom w.drew b := r
theorem PtRoom.call {w w1 : World} {b : Nat} (hb : Below w.heap.size w w1) (h : b < w.heap.size) (r : PtRoom w b) : PtRoom w1 b :=
  ⟨by rw [hb.cell (p := ⟨b, 0, none⟩) h]; exact r.1, by rw [hb.cell (p := ⟨b, 1, none⟩) h]; exact r.2⟩
theorem PtRoom.set {w : World} {b : Nat} {q : Addr} {u : Value} (r : PtRoom w b) : PtRoom (w.setCell q u) b := by
  constructor
  · by_cases e : q = ⟨b, 0, none⟩
    · subst e; rw [World.cell?_setCell_same' _ _ _ r.1]; rfl
    · rw [World.cell?_setCell_other _ _ _ _ e]; exact r.1
  · by_cases e : q = ⟨b, 1, none⟩
    · subst e; rw [World.cell?_setCell_same' _ _ _ r.2]; rfl
    · rw [World.cell?_setCell_other _ _ _ _ e]; exact r.2
theorem room11 {w : World} {u v : Value} {t : TypeId} : PtRoom (w.alloc (.cells #[u, v] t)).drew w.heap.size := PtRoom.new
theorem room21 {w : World} {u v : Value} {t : TypeId} {o : Obj} : PtRoom ((w.alloc (.cells #[u, v] t)).alloc o).drew w.heap.size := PtRoom.alloc (by simp) PtRoom.new
theorem room22 {w : World} {u v : Value} {t : TypeId} {o : Obj} : PtRoom ((w.alloc o).alloc (.cells #[u, v] t)).drew (w.heap.size + 1) := by
  have := PtRoom.new (w := w.alloc o) (u := u) (v := v) (t := t); rw [World.size_alloc] at this; exact this
theorem PtAt.new {w : World} {x y : Int} {t : TypeId} : PtAt (w.alloc (.cells #[.int .i64 x, .int .i64 y] t)) w.heap.size x y := by
  constructor <;> simp [World.cell?_alloc_new]
theorem PtAt.stored {w : World} {b : Nat} (r : PtRoom w b) (x y : Int) : PtAt ((w.setCell ⟨b, 0, none⟩ (.int .i64 x)).setCell ⟨b, 1, none⟩ (.int .i64 y)) b x y := by
  constructor
  · rw [World.cell?_setCell_other _ _ _ _ (by simp), World.cell?_setCell_same' _ _ _ r.1]
  · rw [World.cell?_setCell_same' _ _ _ (PtRoom.set r).2]
theorem PtAt.set_far {w : World} {b : Nat} {x y : Int} {q : Addr} {u : Value} (h : q.block ≠ b) (p : PtAt w b x y) : PtAt (w.setCell q u) b x y :=
  ⟨(World.cell?_setCell_other _ _ _ _ (fun e => h (by rw [e]))).trans p.1, (World.cell?_setCell_other _ _ _ _ (fun e => h (by rw [e]))).trans p.2⟩

/-- What lies below the new blocks stays, when what comes after them stays. -/
theorem below_of2 {w w1 : World} {a b : Obj} (h : Below (w.heap.size + 1 + 1) ((w.alloc a).alloc b) w1) : Below w.heap.size w w1 :=
  ((Below.refl _ _).alloc (Nat.le_refl _) a |>.alloc (by simp) b).trans (h.mono (by omega))
theorem below_of3 {w w1 : World} {a b c : Obj} (h : Below (w.heap.size + 1 + 1 + 1) (((w.alloc a).alloc b).alloc c) w1) : Below w.heap.size w w1 :=
  ((Below.refl _ _).alloc (Nat.le_refl _) a |>.alloc (by simp) b |>.alloc (by simp; omega) c).trans (h.mono (by omega))
theorem below_of4 {w w1 : World} {a b c d : Obj} (h : Below (w.heap.size + 1 + 1 + 1 + 1) ((((w.alloc a).alloc b).alloc c).alloc d) w1) : Below w.heap.size w w1 :=
  ((Below.refl _ _).alloc (Nat.le_refl _) a |>.alloc (by simp) b |>.alloc (by simp; omega) c |>.alloc (by simp; omega) d).trans (h.mono (by omega))

end Go.Proofs.Ytffjonpajjioaaa

/- Contracts of the reference's small functions. -/
namespace Go.Proofs.Ytffjonpajjioaaa
open Go.RowKit
attribute [local go_sem ↓] run_min_mn run_max_mx

end Go.Proofs.Ytffjonpajjioaaa

/- Contracts of package shape's small functions. -/
namespace Go.Proofs.Ytffjonpajjioaaa
open Go.RowKit Go.Sort
attribute [local go_sem ↓] run_min_mn run_max_mx

theorem isNear_any (x y lim : Int) (hl : 0 ≤ lim ∧ lim ≤ 1000000) (w : World) :
    Calls Try.prog 20 #[.agg #[.int .i64 x, .int .i64 y], .int .i64 lim] w fun e w' => e = .returned (.bool (validB x y lim)) ∧ Below w.heap.size w w' := by
  have b1 := hl.1
  have b2 := hl.2
  have e : validB x y lim = (decide (-lim ≤ mn x y) && decide (mx x y ≤ lim)) := by
    rw [Bool.eq_iff_iff]
    unfold validB inB mn mx
    by_cases g : y < x <;> by_cases g' : x < y <;> simp [g, g'] <;> omega
  have H := Lib.hid e
  clear hl e
  generalize validB x y lim = v at *
  go_enter Try.func20, Try.ntmps20
  go_wp2
  all_goals
    go_ret
    refine ⟨ret_bool ?_, by go_grown⟩
    rw [H.out]
    simp
    try omega

theorem minus_any (ax ay bx by' : Int) (w : World) (h1 : -200000 ≤ ax ∧ ax ≤ 200000) (h2 : -200000 ≤ ay ∧ ay ≤ 200000) (h3 : -200000 ≤ bx ∧ bx ≤ 200000) (h4 : -200000 ≤ by' ∧ by' ≤ 200000) :
    Calls Try.prog 30 #[.agg #[.int .i64 ax, .int .i64 ay], .agg #[.int .i64 bx, .int .i64 by']] w fun e w' =>
      e = .returned (.agg #[.int .i64 (ax - bx), .int .i64 (ay - by')]) ∧ Below w.heap.size w w' := by
  go_enter Try.func30, Try.ntmps30
  go_wp2
  go_returns
  exact ⟨rfl, by go_grown⟩

theorem crossD_any (ax ay bx by' : Int) (w : World) (h1 : -400000 ≤ ax ∧ ax ≤ 400000) (h2 : -400000 ≤ ay ∧ ay ≤ 400000) (h3 : -400000 ≤ bx ∧ bx ≤ 400000) (h4 : -400000 ≤ by' ∧ by' ≤ 400000) :
    Calls Try.prog 32 #[.agg #[.int .i64 ax, .int .i64 ay], .agg #[.int .i64 bx, .int .i64 by']] w fun e w' =>
      e = .returned (.int .i64 (ax * by' - bx * ay)) ∧ Below w.heap.size w w' := by
  have p1 := mul_le_of_abs h1 h4
  have p2 := mul_le_of_abs h3 h2
  go_enter Try.func32, Try.ntmps32
  go_wp2
  go_ret
  exact ⟨rfl, by go_grown⟩

set_option maxHeartbeats 800000 in
theorem turn_any (ax ay bx by' cx cy : Int) (w : World)
    (h1 : -60000 ≤ ax ∧ ax ≤ 60000) (h2 : -60000 ≤ ay ∧ ay ≤ 60000) (h3 : -60000 ≤ bx ∧ bx ≤ 60000) (h4 : -60000 ≤ by' ∧ by' ≤ 60000) (h5 : -60000 ≤ cx ∧ cx ≤ 60000) (h6 : -60000 ≤ cy ∧ cy ≤ 60000) :
    Calls Try.prog 47 #[.agg #[.int .i64 ax, .int .i64 ay], .agg #[.int .i64 bx, .int .i64 by'], .agg #[.int .i64 cx, .int .i64 cy]] w fun e w' =>
      e = .returned (.int .i64 (cross ax ay bx by' cx cy)) ∧ Below w.heap.size w w' := by
  have M1 := fun W => Lib.hid (minus_any bx by' ax ay W (by omega) (by omega) (by omega) (by omega))
  have M2 := fun W => Lib.hid (minus_any cx cy ax ay W (by omega) (by omega) (by omega) (by omega))
  have C := fun W => Lib.hid (crossD_any (bx - ax) (by' - ay) (cx - ax) (cy - ay) W (by omega) (by omega) (by omega) (by omega))
  clear h1 h2 h3 h4 h5 h6
  go_enter Try.func47, Try.ntmps47
  go_wp2_with fail
  generalize hW : (((w.alloc (.cells #[.int .i64 ax, .int .i64 ay] 27)).alloc (.cells #[.int .i64 bx, .int .i64 by'] 27)).alloc (.cells #[.int .i64 cx, .int .i64 cy] 27)) = W0 at *
  have ta := PtAt.new (w := w) (x := ax) (y := ay) (t := 27) |>.alloc (.cells #[.int .i64 bx, .int .i64 by'] 27) (by simp) |>.alloc (.cells #[.int .i64 cx, .int .i64 cy] 27) (by simp; omega)
  have tb := PtAt.new (w := w.alloc (.cells #[.int .i64 ax, .int .i64 ay] 27)) (x := bx) (y := by') (t := 27) |>.alloc (.cells #[.int .i64 cx, .int .i64 cy] 27) (by simp)
  have tc := PtAt.new (w := (w.alloc (.cells #[.int .i64 ax, .int .i64 ay] 27)).alloc (.cells #[.int .i64 bx, .int .i64 by'] 27)) (x := cx) (y := cy) (t := 27)
  have hbw : Below w.heap.size w W0 := by subst hW; exact ((Below.refl _ _).alloc (Nat.le_refl _) _ |>.alloc (by simp) _ |>.alloc (by simp; omega) _)
  rw [hW] at ta tb tc
  simp only [World.size_alloc] at tb tc
  clear hW
  obtain ⟨a1, a2⟩ := ta
  obtain ⟨b1, b2⟩ := tb
  obtain ⟨c1, c2⟩ := tc
  have K1 := fun d os => Lib.hid (Calls.regrown_of ((M1 (grow (redrawn W0 d) os)).out))
  have K2 := fun d os => Lib.hid (Calls.regrown_of ((M2 (grow (redrawn W0 d) os)).out))
  have K3 := fun d os => Lib.hid (Calls.regrown_of ((C (grow (redrawn W0 d) os)).out))
  have t1 := cell_regrown a1
  have t2 := cell_regrown a2
  have t3 := cell_regrown b1
  have t4 := cell_regrown b2
  have t5 := cell_regrown c1
  have t6 := cell_regrown c2
  clear a1 a2 b1 b2 c1 c2 M1 M2 C
  refine wp_region_quiet_below (by kernel_rfl) (by kernel_rfl) ?_
  repeat (go_big_quiet_step (first | (with_reducible exact (K1 _ _).out) | (with_reducible exact (K2 _ _).out) | (with_reducible exact (K3 _ _).out)))
  refine wpQuiet_nil ?_
  intro _ hw'
  obtain ⟨⟨dq, osq⟩, hw''⟩ := hw'
  subst hw''
  go_wp2
  go_ret
  exact ⟨rfl, hbw.trans ((below_regrown W0 dq osq).mono hbw.size)⟩

end Go.Proofs.Ytffjonpajjioaaa

/- Parameters that are points lie in new blocks: what is known of them. -/
namespace Go.Proofs.Ytffjonpajjioaaa
open Go.RowKit

/-- A point's box. -/
abbrev bx (x y : Int) : Obj := .cells #[.int .i64 x, .int .i64 y] 27

def Boxed2 (w W : World) (ax ay bx by' : Int) : Prop :=
  PtAt W w.heap.size ax ay ∧ PtAt W (w.heap.size + 1) bx by' ∧ Below w.heap.size w W ∧ W.heap.size = w.heap.size + 2
theorem boxed2 (w : World) (a1 a2 b1 b2 : Int) : Boxed2 w ((w.alloc (bx a1 a2)).alloc (bx b1 b2)) a1 a2 b1 b2 := by
  refine ⟨PtAt.new.alloc _ (by simp), ?_, (Below.refl _ _).alloc (Nat.le_refl _) _ |>.alloc (by simp) _, by simp⟩
  have := PtAt.new (w := w.alloc (bx a1 a2)) (x := b1) (y := b2) (t := 27)
  rwa [World.size_alloc] at this

def Boxed3 (w W : World) (ax ay bx by' cx cy : Int) : Prop :=
  PtAt W w.heap.size ax ay ∧ PtAt W (w.heap.size + 1) bx by' ∧ PtAt W (w.heap.size + 1 + 1) cx cy ∧ Below w.heap.size w W ∧ W.heap.size = w.heap.size + 3
theorem boxed3 (w : World) (a1 a2 b1 b2 c1 c2 : Int) : Boxed3 w (((w.alloc (bx a1 a2)).alloc (bx b1 b2)).alloc (bx c1 c2)) a1 a2 b1 b2 c1 c2 := by
  obtain ⟨h1, h2, h3, h4⟩ := boxed2 w a1 a2 b1 b2
  refine ⟨h1.alloc _ (by omega), h2.alloc _ (by omega), ?_, h3.alloc (by omega) _, by simp⟩
  have := PtAt.new (w := (w.alloc (bx a1 a2)).alloc (bx b1 b2)) (x := c1) (y := c2) (t := 27)
  rwa [World.size_alloc, World.size_alloc] at this

def Boxed4 (w W : World) (ax ay bx by' cx cy dx dy : Int) : Prop :=
  PtAt W w.heap.size ax ay ∧ PtAt W (w.heap.size + 1) bx by' ∧ PtAt W (w.heap.size + 1 + 1) cx cy ∧ PtAt W (w.heap.size + 1 + 1 + 1) dx dy ∧ Below w.heap.size w W ∧ W.heap.size = w.heap.size + 4
theorem boxed4 (w : World) (a1 a2 b1 b2 c1 c2 d1 d2 : Int) : Boxed4 w ((((w.alloc (bx a1 a2)).alloc (bx b1 b2)).alloc (bx c1 c2)).alloc (bx d1 d2)) a1 a2 b1 b2 c1 c2 d1 d2 := by
  obtain ⟨h1, h2, h3, h4, h5⟩ := boxed3 w a1 a2 b1 b2 c1 c2
  refine ⟨h1.alloc _ (by omega), h2.alloc _ (by omega), h3.alloc _ (by omega), ?_, h4.alloc (by omega) _, by simp⟩
  have := PtAt.new (w := ((w.alloc (bx a1 a2)).alloc (bx b1 b2)).alloc (bx c1 c2)) (x := d1) (y := d2) (t := 27)
  rwa [World.size_alloc, World.size_alloc, World.size_alloc] at this

end Go.Proofs.Ytffjonpajjioaaa

/- Do two segments meet? The reference's function, by its plain twin. -/
namespace Go.Proofs.Ytffjonpajjioaaa
open Go.RowKit Go.Sort
attribute [local go_sem ↓] run_min_mn run_max_mx

end Go.Proofs.Ytffjonpajjioaaa

/- Polygons: the reference's functions on slices of points. -/
namespace Go.Proofs.Ytffjonpajjioaaa
open Go.RowKit Go.Sort
attribute [local go_sem ↓] run_min_mn run_max_mx

/-- The points of a list lie one after the other in a block. -/
def PtsIn (w : World) (b off : Nat) (l : List Pt) : Prop :=
  ∀ i p, l[i]? = some p → w.cell? ⟨b, off + i * 2, none⟩ = some (.int .i64 p.1) ∧ w.cell? ⟨b, off + i * 2 + 1, none⟩ = some (.int .i64 p.2)
theorem PtsIn.below {w w' : World} {B b off : Nat} {l : List Pt} (h : PtsIn w b off l) (hb : Below B w w') (hB : b < B) : PtsIn w' b off l :=
  fun i p hp => ⟨(hb.cell (p := ⟨b, _, none⟩) hB).trans (h i p hp).1, (hb.cell (p := ⟨b, _, none⟩) hB).trans (h i p hp).2⟩

end Go.Proofs.Ytffjonpajjioaaa

/- Package shape: the points of a slice, its edges, its area. -/
namespace Go.Proofs.Ytffjonpajjioaaa
open Go.RowKit Go.Sort
attribute [local go_sem ↓] run_min_mn run_max_mx

set_option maxRecDepth 100000 in
set_option maxHeartbeats 1000000 in
theorem edge_any (b off n c : Nat) (l : List Pt) (i : Nat) (w : World) (hl : l.length = n) (hn : 0 < n) (hn' : n ≤ 1000000) (hi : i ≤ 1000000) (h : PtsIn w b off l) :
    Calls Try.prog 33 #[.slice (some ⟨b, off, none⟩) n c, .int .i64 i] w fun e w' =>
      e = .returned (.tuple #[.agg #[.int .i64 (gt l (i % n)).1, .int .i64 (gt l (i % n)).2], .agg #[.int .i64 (nx l i).1, .int .i64 (nx l i).2]]) ∧ Below w.heap.size w w' := by
  have hm : (i + 1) % n < n := Nat.mod_lt _ hn
  have hm0 : i % n < n := Nat.mod_lt _ hn
  have hx : l[(i + 1) % n]? = some (nx l i) := by
    unfold nx; subst hl
    rw [List.getD_eq_getElem?_getD, List.getElem?_eq_getElem hm]; rfl
  have hx0 : l[i % n]? = some (gt l (i % n)) := by
    unfold gt; subst hl
    rw [List.getD_eq_getElem?_getD, List.getElem?_eq_getElem hm0]; rfl
  obtain ⟨h1, h2⟩ := h _ _ hx
  obtain ⟨h3, h4⟩ := h _ _ hx0
  generalize nx l i = p at *
  generalize gt l (i % n) = q at *
  obtain ⟨x, y⟩ := p
  obtain ⟨u, v⟩ := q
  clear hl h hx hx0
  have B1 : b < w.heap.size := block_lt_of_cell h1
  have t0 : ¬ n = 0 := by omega
  have t1 : (i : Int).tmod (n : Int) = ((i % n : Nat) : Int) := rfl
  have t2 : IntKind.i64.wrap ((i : Int) + 1) = ((i + 1 : Nat) : Int) := by rw [IntKind.wrap_i64]; omega
  have t3 : ((i + 1 : Nat) : Int).tmod (n : Int) = (((i + 1) % n : Nat) : Int) := rfl
  generalize i % n = k0 at *
  generalize (i + 1) % n = k1 at *
  generalize hj : i + 1 = j at *
  have HJ := Lib.hid hj
  clear hj
  go_enter Try.func33, Try.ntmps33
  go_wp2_with fail
  have n1 := World.new_ne w _ h1
  have n2 := World.new_ne w _ h2
  have n3 := World.new_ne w _ h3
  have n4 := World.new_ne w _ h4
  have nb1 : ¬ b = w.heap.size := by omega
  have nb2 : ¬ w.heap.size = b := by omega
  have nb3 : ¬ b = w.heap.size + 1 := by omega
  have nb4 : ¬ w.heap.size + 1 = b := by omega
  have nb5 : b < w.heap.size + 1 := by omega
  have lt2 : w.heap.size < w.heap.size + 1 + 1 := by omega
  go_region
  all_goals
    go_wp2
    refine bodyPost_ret (v := .tuple #[.agg #[.int .i64 u, .int .i64 v], .agg #[.int .i64 x, .int .i64 y]]) (by simp [results, Try.results33, go_sem]) rfl ⟨rfl, ?_⟩
    go_grown
end Go.Proofs.Ytffjonpajjioaaa

/- Package shape: which slices are polygons. -/
namespace Go.Proofs.Ytffjonpajjioaaa
open Go.RowKit Go.Sort
attribute [local go_sem ↓] run_min_mn run_max_mx

/-- A slice reads as a list of points. -/
def PtsAt (w : World) (A : Option Addr) (l : List Pt) : Prop := l ≠ [] → ∃ b off, A = some ⟨b, off, none⟩ ∧ b < w.heap.size ∧ PtsIn w b off l
theorem PtsAt.below {w w' : World} {A : Option Addr} {l : List Pt} (h : PtsAt w A l) (hb : Below w.heap.size w w') : PtsAt w' A l := fun hne => by
  obtain ⟨b, off, e, hlt, hp⟩ := h hne
  exact ⟨b, off, e, Nat.lt_of_lt_of_le hlt hb.size, hp.below hb hlt⟩
theorem PtsAt.belows {w w' : World} {A : Option Addr} {l : List Pt} {B : Nat} (h : PtsAt w A l) (hb : Below B w w') (hB : w.heap.size ≤ B) : PtsAt w' A l := fun hne => by
  obtain ⟨b, off, e, hlt, hp⟩ := h hne
  exact ⟨b, off, e, Nat.lt_of_lt_of_le hlt hb.size, hp.below hb (by omega)⟩
theorem PtsAt.nil (w : World) (A : Option Addr) : PtsAt w A [] := fun h => absurd rfl h

def farP (p : Pt) : Bool := !okP p
def anyFar (l : List Pt) : Bool := l.any farP

theorem isFar_any (x y : Int) (w : World) :
    Calls Try.prog 40 #[.agg #[.int .i64 x, .int .i64 y]] w fun e w' => e = .returned (.bool (farP (x, y))) ∧ Below w.heap.size w w' := by
  have N := fun W => Lib.hid (isNear_any x y 10000 (by omega) W)
  have e : farP (x, y) = !validB x y 10000 := rfl
  have H := Lib.hid e
  clear e
  generalize farP (x, y) = r at *
  generalize validB x y 10000 = v at *
  go_enter Try.func40, Try.ntmps40
  go_wp2_with fail
  refine ((N _).out).mono ?_
  rintro e w1 ⟨rfl, hb⟩
  go_wp2
  go_ret
  exact ⟨ret_bool H.out.symm, (Below.refl _ _).alloc (Nat.le_refl _) _ |>.trans (hb.mono (by simp))⟩

/-- Is one found that is far? -/
def FoundFar (l : List Pt) (w : World) (e : Ending) (w' : World) : Prop := ∃ i : Int, e = .returned (.int .i64 i) ∧ decide (0 ≤ i) = anyFar l ∧ Below w.heap.size w w'

set_option maxHeartbeats 800000 in
theorem indexFar_any (A : Option Addr) (n c : Nat) (l : List Pt) (w : World) (hn : l.length = n) (hbig : n ≤ 1000000) (hx : PtsAt w A l) :
    Calls Try.prog 54 #[.slice A n c, .func (.func 40) #[] #[]] w (FoundFar l w) := by
  have HN := Lib.hid hn
  have HX := Lib.hid hx
  clear hn hx
  go_enter Try.func54, Try.ntmps54
  go_wp2
  go_loopw [8] (fun i wr => ∃ k : Nat, k ≤ n ∧ i = .int .i64 k ∧ anyFar (l.take k) = false ∧ Below w.heap.size w wr) (fun i _ => n - (intOf i).toNat)
  case atStart => exact ⟨0, Nat.zero_le _, rfl, rfl, Below.refl _ _⟩
  case round =>
    obtain ⟨k, hk, rfl, hz, hbw⟩ := hrel
    have HZ := Lib.hid hz
    clear hz
    by_cases hlt : k < n
    · have hl : k < l.length := by have := HN.out; omega
      obtain ⟨b, off, rfl, hbl, hp⟩ := HX.out (by intro e; subst e; simp at hl)
      obtain ⟨h1, h2⟩ := (hp.below hbw hbl) k _ (List.getElem?_eq_getElem hl)
      have hs : anyFar (l.take (k + 1)) = farP l[k] := by
        rw [List.take_succ_eq_append_getElem hl]
        unfold anyFar at *
        rw [List.any_append, HZ.out]; simp
      have hall : farP l[k] = true → anyFar l = true := fun h => by
        unfold anyFar
        exact List.any_eq_true.2 ⟨_, List.getElem_mem hl, h⟩
      have HS := Lib.hid hs
      have HA := Lib.hid hall
      clear hs hall hp
      generalize l[k] = p at *
      obtain ⟨x, y⟩ := p
      have F := fun W => Lib.hid (isFar_any x y W)
      generalize farP (x, y) = r at *
      go_wp2_with fail
      refine ((F _).out).mono ?_
      rintro e w1 ⟨rfl, hb1⟩
      have hbw1 := hbw.trans (hb1.mono hbw.size)
      clear hb1 h1 h2
      cases r
      · go_wp2_with fail
        go_roundw
        case rel => exact ⟨k + 1, by omega, by go_num, HS.out, hbw1⟩
        case measure => simp [intOf]; omega
      · go_wp2_with fail
        go_ret
        exact ⟨_, rfl, by rw [HA.out trivial]; simp, hbw1⟩
    · have hfull : anyFar l = false := by
        have := HZ.out
        rw [List.take_of_length_le (by have := HN.out; omega)] at this
        exact this
      have HF := Lib.hid hfull
      clear hfull
      go_wp2
      go_ret
      exact ⟨_, rfl, by rw [HF.out]; rfl, hbw⟩

theorem containsFar_any (A : Option Addr) (n c : Nat) (l : List Pt) (w : World) (hn : l.length = n) (hbig : n ≤ 1000000) (hx : PtsAt w A l) :
    Calls Try.prog 41 #[.slice A n c, .func (.func 40) #[] #[]] w fun e w' => e = .returned (.bool (anyFar l)) ∧ Below w.heap.size w w' := by
  have K := Lib.hid (indexFar_any A n c l w hn hbig hx)
  clear hn hx
  go_enter Try.func41, Try.ntmps41
  go_wp2_with fail
  refine (K.out).mono ?_
  rintro e w' ⟨i, rfl, hi, hb⟩
  have HI := Lib.hid hi
  clear hi
  go_wp2
  go_ret
  exact ⟨ret_bool HI.out, hb⟩

/-- As many points as a polygon may have, all of them valid. -/
def ptsB (l : List Pt) (least : Nat) : Bool := decide (least ≤ l.length) && decide (l.length ≤ 32) && l.all okP
theorem anyFar_not (l : List Pt) : (!anyFar l) = l.all okP := by
  unfold anyFar
  induction l with
  | nil => rfl
  | cons p l ih => simp only [List.any_cons, List.all_cons, Bool.not_or, ih]; simp [farP]

theorem arePoints_any (A : Option Addr) (n c least : Nat) (l : List Pt) (w : World) (hn : l.length = n) (hbig : n ≤ 1000000) (h1 : least ≤ 100) (hx : PtsAt w A l) :
    Calls Try.prog 26 #[.slice A n c, .int .i64 least] w fun e w' => e = .returned (.bool (ptsB l least)) ∧ Below w.heap.size w w' := by
  have K := Lib.hid (containsFar_any A n c l w hn hbig hx)
  have HS : Hid (ptsB l least = (decide (least ≤ n) && decide (n ≤ 32) && !anyFar l)) := by rw [anyFar_not]; subst hn; exact Lib.hid rfl
  clear hn hx
  generalize ptsB l least = r at *
  generalize anyFar l = f at *
  by_cases g1 : least ≤ n
  · by_cases g2 : n ≤ 32
    · go_enter Try.func26, Try.ntmps26
      go_wp2_with fail
      refine (K.out).mono ?_
      rintro e w' ⟨rfl, hb⟩
      go_wp2
      go_ret
      exact ⟨ret_bool (by rw [HS.out]; simp [g1, g2]), hb⟩
    · go_enter Try.func26, Try.ntmps26
      go_wp2
      go_ret
      exact ⟨ret_bool (by rw [HS.out]; simp; omega), Below.refl _ _⟩
  · go_enter Try.func26, Try.ntmps26
    go_wp2
    go_ret
    exact ⟨ret_bool (by rw [HS.out]; simp; omega), Below.refl _ _⟩

theorem polyB_pts (l : List Pt) : ptsB l 3 = polyB l := by
  rw [Bool.eq_iff_iff]
  simp only [ptsB, polyB, inB, Bool.and_eq_true, decide_eq_true_eq]
  constructor
  · rintro ⟨⟨a, b⟩, c⟩; exact ⟨c, by omega, by omega⟩
  · rintro ⟨c, a, b⟩; exact ⟨⟨by omega, by omega⟩, c⟩

theorem isPolygon_any (A : Option Addr) (n c : Nat) (l : List Pt) (w : World) (hn : l.length = n) (hbig : n ≤ 1000000) (hx : PtsAt w A l) :
    Calls Try.prog 15 #[.slice A n c] w fun e w' => e = .returned (.bool (polyB l)) ∧ Below w.heap.size w w' := by
  have K := Lib.hid (arePoints_any A n c 3 l w hn hbig (by omega) hx)
  rw [polyB_pts] at K
  clear hn hx
  generalize polyB l = r at *
  go_enter Try.func15, Try.ntmps15
  go_wp2_with fail
  refine (K.out).mono ?_
  rintro e w' ⟨rfl, hb⟩
  go_wp2
  go_ret
  exact ⟨rfl, hb⟩

set_option maxHeartbeats 800000 in
theorem area2D_any (b off n c : Nat) (l : List Pt) (w : World) (hl : l.length = n) (hn : 0 < n) (hn' : n ≤ 100) (h : PtsIn w b off l) (hb : b < w.heap.size) (hok : l.all okP = true) :
    Calls Try.prog 16 #[.slice (some ⟨b, off, none⟩) n c] w fun e w' =>
      e = .returned (.int .i64 (area2 l)) ∧ Below w.heap.size w w' := by
  have HE : Hid (area2To l n = area2 l) := Lib.hid (by rw [← hl]; rfl)
  have HP := Lib.hid h
  have HL := Lib.hid hl
  have HOK := Lib.hid hok
  clear h hl hok
  go_enter Try.func16, Try.ntmps16
  go_wp2
  go_loopw [3, 7] (fun s i wr => ∃ k : Nat, k ≤ n ∧ i = .int .i64 k ∧ s = .int .i64 (area2To l k) ∧ Below w.heap.size w wr) (fun _ i _ => n - (intOf i).toNat)
  case atStart => exact ⟨0, Nat.zero_le _, rfl, rfl, Below.refl _ _⟩
  case round =>
    obtain ⟨k, hk, rfl, rfl, hbw⟩ := hrel
    by_cases hlt : k < n
    · have N := fun W hW => Lib.hid (edge_any b off n c l k W HL.out hn (by omega) (by omega) ((HP.out.below hbw hb).below (B := wr.heap.size) hW (Nat.lt_of_lt_of_le hb hbw.size)))
      rw [Nat.mod_eq_of_lt hlt] at N
      have e1 : area2To l (k + 1) = area2To l k + ((gt l k).1 * (nx l k).2 - (nx l k).1 * (gt l k).2) := rfl
      have okp : okP (gt l k) = true := getD_ok HOK.out k
      have okq := nx_ok HOK.out k
      have sb := area2To_bd HOK.out k
      have tb := term_bd okp okq
      have E1 := Lib.hid e1
      obtain ⟨x1, x2⟩ := okP_bd okp
      obtain ⟨x3, x4⟩ := okP_bd okq
      clear e1 okp okq
      generalize nx l k = q at *
      generalize gt l k = p at *
      generalize area2To l k = s at *
      obtain ⟨x, y⟩ := p
      obtain ⟨qx, qy⟩ := q
      have C := fun W => Lib.hid (crossD_any x y qx qy W (by omega) (by omega) (by omega) (by omega))
      go_wp2_with fail
      refine ((N _ (Below.refl _ _)).out).mono ?_
      rintro e w1 ⟨rfl, hb1⟩
      have hbw1 := hbw.trans (hb1.mono hbw.size)
      clear N hb1
      go_wp2_with fail
      refine ((C _).out).mono ?_
      rintro e w2 ⟨rfl, hb2⟩
      have hbw2 := hbw1.trans (hb2.mono hbw1.size)
      generalize x * qy - qx * y = t at *
      go_wp2_with fail
      go_roundw
      case rel => exact ⟨k + 1, by omega, by go_num, by rw [E1.out], hbw2⟩
      case measure => simp [intOf]; omega
    · obtain rfl : k = n := by omega
      go_wp2
      go_ret
      exact ⟨ret_int HE.out, hbw⟩
end Go.Proofs.Ytffjonpajjioaaa

/- Slices of points, and points, that came in: what they read as. -/
namespace Go.Proofs.Ytffjonpajjioaaa
open Go.ChangeShapes Go.WideShapes Go.ChangeAt Go.RowKit Go.Deep

theorem cells_pt : Try.prog.cellsOf 27 = 2 := by kernel_rfl
theorem cells_int1 : Try.prog.cellsOf 3 = 1 := by kernel_rfl

set_option maxRecDepth 100000 in
theorem fields_pt : ∃ f0 f1 : Field, Try.prog.underlying 27 = some (.struct #[f0, f1]) ∧ f0.offset = 0 ∧ f1.offset = 1 ∧ f0.type = 3 ∧ f1.type = 3 := by
  have h : Try.prog.underlying 27 = some (.struct (Try.prog.fieldsOf 27)) := by kernel_rfl
  have k : (Try.prog.fieldsOf 27).toList.map (fun f => (f.type, f.offset)) = [(3, 0), (3, 1)] := by kernel_rfl
  generalize Try.prog.fieldsOf 27 = fs at *
  obtain ⟨l⟩ := fs
  match l, k with
  | [f0, f1], k =>
    simp only [List.map_cons, List.map_nil, List.cons.injEq, Prod.mk.injEq, and_true] at k
    exact ⟨f0, f1, h, k.1.2, k.2.2, k.1.1, k.2.1⟩

set_option maxRecDepth 100000 in
theorem pts_open {H : Type} {enc : TypeId × Value → H} {W : World} {A : Option Addr} {n c : Nat} {d : DataW H} {p : List MemPlace} (h : DataW.Trod enc Try.prog W 0 (fun _ => true) true 24 (.slice A n c) d p) :
    ∃ xs : List Pt, xs.length = n ∧ n ≤ c ∧ n ≤ 9223372036854775807 ∧ (∀ x ∈ xs, (-9223372036854775808 ≤ x.1 ∧ x.1 ≤ 9223372036854775807) ∧ (-9223372036854775808 ≤ x.2 ∧ x.2 ≤ 9223372036854775807)) ∧ PtsAt W A xs := by
  obtain ⟨fuel, hf⟩ := h
  obtain ⟨f0, f1, hs, o0, o1, t0, t1⟩ := fields_pt
  rcases open_slice_pairs Try.underlying24 hs cells_pt o0 o1 (by rw [t0]; exact cells_int1) (by rw [t1]; exact cells_int1) hf with ⟨hcs, hx⟩ | ⟨a, len, cap, m, n', V0, V1, D0, D1, P0, P1, hcs, hb, hl, hm, hmm, hx, hi⟩
  · simp [Value.cells] at hcs
    obtain ⟨rfl, rfl, rfl⟩ := hcs
    exact ⟨[], rfl, Nat.le_refl _, by omega, by simp, PtsAt.nil _ _⟩
  · simp [Value.cells] at hcs
    obtain ⟨e0, e1, e2⟩ := hcs
    subst e0
    have e1' : n = len := by first | exact e1 | exact e1.symm
    have e2' : c = cap := by first | exact e2 | exact e2.symm
    clear e1 e2
    subst e1' e2'
    simp only [if_true] at hmm
    subst m
    simp only [maxLen] at hm
    rw [t0, t1] at hi
    have each : ∀ i, i < c → ∃ q : Pt, W.cell? (a.add (i * 2)) = some (.int .i64 q.1) ∧ W.cell? (a.add (i * 2 + 1)) = some (.int .i64 q.2) ∧ ((-9223372036854775808 ≤ q.1 ∧ q.1 ≤ 9223372036854775807) ∧ (-9223372036854775808 ≤ q.2 ∧ q.2 ≤ 9223372036854775807)) := by
      intro i hic
      obtain ⟨c0, c1, d0, d1⟩ := hi i hic
      obtain ⟨x, e0, _, w0⟩ := DataW.trod_int Try.underlying3 d0
      obtain ⟨y, e1, _, w1⟩ := DataW.trod_int Try.underlying3 d1
      simp only [List.cons.injEq, and_true] at e0 e1
      rw [e0] at c0
      rw [e1] at c1
      exact ⟨(x, y), c0, c1, bounds_i64 w0, bounds_i64 w1⟩
    obtain ⟨q, hq⟩ := choose_lt each
    refine ⟨(List.range n).map q, by simp, hl, by omega, fun x hx => ?_, fun hne => ?_⟩
    · obtain ⟨i, hi', rfl⟩ := List.mem_map.1 hx
      exact (hq i (by have := List.mem_range.1 hi'; omega)).2.2
    · have hn : 0 < n := by
        rcases Nat.eq_zero_or_pos n with h0 | h0
        · subst h0; simp at hne
        · exact h0
      obtain ⟨b, off, key⟩ := a
      have hk : key = none := by simpa [Addr.add] using World.cell?_spot ((hq 0 (by omega)).1)
      subst hk
      have e : ∀ j, (⟨b, off, none⟩ : Addr).add j = ⟨b, off + j, none⟩ := fun j => by unfold Addr.add; split <;> simp_all
      refine ⟨b, off, rfl, ?_, fun i p hp => ?_⟩
      · have := (hq 0 (by omega)).1
        rw [e] at this
        exact World.block_lt_of_cell? W _ this
      · rw [List.getElem?_map] at hp
        have hin : i < n := by
          rcases Nat.lt_or_ge i n with g | g
          · exact g
          · rw [List.getElem?_eq_none (by simpa using g)] at hp; cases hp
        rw [List.getElem?_range hin] at hp
        obtain rfl : q i = p := by simpa using hp
        obtain ⟨c0, c1, _⟩ := hq i (by omega)
        rw [e] at c0 c1
        exact ⟨by simpa [Nat.add_assoc] using c0, by simpa [Nat.add_assoc] using c1⟩

set_option maxRecDepth 100000 in
theorem pt_open {H : Type} {enc : TypeId × Value → H} {W : World} {r : Reach} {b0 : Nat} {v : Value} {d : DataW H} {p : List MemPlace} (hv : Value.okWide Try.prog W r b0 27 v) (h : DataW.Trod enc Try.prog W 0 (fun _ => true) true 27 v d p) :
    ∃ a b : Int, v = .agg #[.int .i64 a, .int .i64 b] ∧ d = .agg [.lit (.int .i64 a), .lit (.int .i64 b)] ∧ p = [] ∧ (Lit.int .i64 a).wf = true ∧ (Lit.int .i64 b).wf = true := by
  obtain ⟨f0, f1, hs, o0, o1, t0, t1⟩ := fields_pt
  have hone : oneCellFields Try.prog #[f0, f1] = true := by
    have : (Try.prog.underlying 27).map (fun u => match u with | .struct fs => oneCellFields Try.prog fs | _ => false) = some true := by kernel_rfl
    rw [hs] at this
    simpa using this
  obtain ⟨v0, v1, y0, y1, n, rfl, rfl, rfl, g0, g1⟩ := Go.Joins.open_agg2 hs hone cells_pt hv h
  rw [t0] at g0
  rw [t1] at g1
  obtain ⟨x, e0, k0, w0⟩ := DataW.trod_int Try.underlying3 g0
  obtain ⟨y, e1, k1, w1⟩ := DataW.trod_int Try.underlying3 g1
  simp only [List.cons.injEq, and_true] at e0 e1
  subst e0 e1 k0 k1
  exact ⟨x, y, rfl, rfl, rfl, w0, w1⟩
end Go.Proofs.Ytffjonpajjioaaa

/- Slices of slices of points that came in: what they read as. -/
namespace Go.Proofs.Ytffjonpajjioaaa
open Go.ChangeShapes Go.WideShapes Go.ChangeAt Go.RowKit Go.Deep

theorem cells_sl : Try.prog.cellsOf 24 = 1 := by kernel_rfl

/-- A slice of lists of points, as it came in. -/
def PolysW (w : World) (A : Option Addr) (L : List (List Pt)) : Prop := L ≠ [] → ∃ b off, A = some ⟨b, off, none⟩ ∧ b < w.heap.size ∧
  ∀ (i : Nat) (l : List Pt), L[i]? = some l → ∃ (A1 : Option Addr) (n1 c1 : Nat), w.cell? ⟨b, off + i, none⟩ = some (.slice A1 n1 c1) ∧ l.length = n1 ∧ n1 ≤ c1 ∧ n1 ≤ 9223372036854775807 ∧
    (∀ x ∈ l, (-9223372036854775808 ≤ x.1 ∧ x.1 ≤ 9223372036854775807) ∧ (-9223372036854775808 ≤ x.2 ∧ x.2 ≤ 9223372036854775807)) ∧ PtsAt w A1 l
theorem PolysW.below {w w' : World} {A : Option Addr} {L : List (List Pt)} (h : PolysW w A L) (hb : Below w.heap.size w w') : PolysW w' A L := fun hne => by
  obtain ⟨b, off, e, hlt, hp⟩ := h hne
  refine ⟨b, off, e, Nat.lt_of_lt_of_le hlt hb.size, fun i l hi => ?_⟩
  obtain ⟨A1, n1, c1, h1, h2, h3, h4, h5, h6⟩ := hp i l hi
  exact ⟨A1, n1, c1, (hb.cell (p := ⟨b, _, none⟩) hlt).trans h1, h2, h3, h4, h5, h6.below hb⟩

set_option maxRecDepth 100000 in
theorem polys_open {H : Type} {enc : TypeId × Value → H} {W : World} {A : Option Addr} {n c : Nat} {d : DataW H} {p : List MemPlace} (h : DataW.Trod enc Try.prog W 0 (fun _ => true) true 23 (.slice A n c) d p) :
    ∃ L : List (List Pt), L.length = n ∧ n ≤ c ∧ n ≤ 9223372036854775807 ∧ PolysW W A L := by
  obtain ⟨fuel, hf⟩ := h
  rcases open_slice1 Try.underlying23 cells_sl hf with ⟨hcs, hx⟩ | ⟨a, len, cap, m, n', V, D, Pl, hcs, hb, hl, hm, hmm, hx, hi⟩
  · simp [Value.cells] at hcs
    obtain ⟨rfl, rfl, rfl⟩ := hcs
    exact ⟨[], rfl, Nat.le_refl _, by omega, fun hne => absurd rfl hne⟩
  · simp [Value.cells] at hcs
    obtain ⟨e0, e1, e2⟩ := hcs
    subst e0
    have e1' : n = len := by first | exact e1 | exact e1.symm
    have e2' : c = cap := by first | exact e2 | exact e2.symm
    clear e1 e2
    subst e1' e2'
    simp only [if_true] at hmm
    subst m
    simp only [maxLen] at hm
    have each : ∀ i, i < c → ∃ q : (Option Addr × Nat × Nat) × List Pt, W.cell? (a.add i) = some (.slice q.1.1 q.1.2.1 q.1.2.2) ∧ q.2.length = q.1.2.1 ∧ q.1.2.1 ≤ q.1.2.2 ∧ q.1.2.1 ≤ 9223372036854775807 ∧
        (∀ x ∈ q.2, (-9223372036854775808 ≤ x.1 ∧ x.1 ≤ 9223372036854775807) ∧ (-9223372036854775808 ≤ x.2 ∧ x.2 ≤ 9223372036854775807)) ∧ PtsAt W q.1.1 q.2 := by
      intro i hic
      obtain ⟨c0, d0⟩ := hi i hic
      have hv : ∃ A1 n1 c1, V i = .slice A1 n1 c1 := by
        rcases open_slice Try.underlying24 d0 with ⟨h1, -⟩ | ⟨a1, len1, cap1, _, _, _, _, h1, _⟩
        · exact ⟨none, 0, 0, by simpa using h1⟩
        · exact ⟨some a1, len1, cap1, by simpa using h1⟩
      obtain ⟨A1, n1, c1, hv⟩ := hv
      rw [hv] at c0 d0
      obtain ⟨xs, h1, h2, h3, h4, h5⟩ := pts_open (enc := enc) (d := D i) (p := Pl i) (A := A1) (n := n1) (c := c1) ⟨n', d0⟩
      exact ⟨((A1, n1, c1), xs), c0, h1, h2, h3, h4, h5⟩
    obtain ⟨q, hq⟩ := choose_lt each
    refine ⟨(List.range n).map fun i => (q i).2, by simp, hl, by omega, fun hne => ?_⟩
    have hn : 0 < n := by
      rcases Nat.eq_zero_or_pos n with h0 | h0
      · subst h0; simp at hne
      · exact h0
    obtain ⟨b, off, key⟩ := a
    have hk : key = none := by simpa [Addr.add] using World.cell?_spot ((hq 0 (by omega)).1)
    subst hk
    have e : ∀ j, (⟨b, off, none⟩ : Addr).add j = ⟨b, off + j, none⟩ := fun j => by unfold Addr.add; split <;> simp_all
    refine ⟨b, off, rfl, ?_, fun i l hil => ?_⟩
    · have := (hq 0 (by omega)).1
      rw [e] at this
      exact World.block_lt_of_cell? W _ this
    · rw [List.getElem?_map] at hil
      have hin : i < n := by
        rcases Nat.lt_or_ge i n with g | g
        · exact g
        · rw [List.getElem?_eq_none (by simpa using g)] at hil; cases hil
      rw [List.getElem?_range hin] at hil
      obtain rfl : (q i).2 = l := by simpa using hil
      obtain ⟨h1, h2, h3, h4, h5, h6⟩ := hq i (by omega)
      rw [e] at h1
      exact ⟨_, _, _, h1, h2, h3, h4, h5, h6⟩
end Go.Proofs.Ytffjonpajjioaaa

/- Arrays of two integers that came in: what they read as. -/
namespace Go.Proofs.Ytffjonpajjioaaa
open Go.ChangeShapes Go.WideShapes Go.ChangeAt Go.RowKit Go.Deep

theorem arr2_open {H : Type} {enc : TypeId × Value → H} {P : Program} {W : World} {r : Reach} {b0 : Nat} {t e : TypeId} {q : IntKind} {v : Value} {d : DataW H} {p : List MemPlace} (hu : P.underlying t = some (.array 2 e)) (he : P.underlying e = some (.int q))
    (h1 : P.cellsOf e = 1) (h2 : P.cellsOf t = 2) (hv : Value.okWide P W r b0 t v) (h : DataW.Trod enc P W 0 (fun _ => true) true t v d p) :
    ∃ a b : Int, v = .agg #[.int q a, .int q b] ∧ d = .agg [.lit (.int q a), .lit (.int q b)] ∧ p = [] ∧ (Lit.int q a).wf = true ∧ (Lit.int q b).wf = true := by
  have hv' : ∃ cs : Array Value, v = .agg cs ∧ cs.size = 2 := by
    simp only [Value.okWide, hu] at hv
    obtain ⟨cs, e1, e2, _⟩ := hv
    exact ⟨cs, e1, by rw [e2, h2]⟩
  obtain ⟨cs, rfl, hsz⟩ := hv'
  obtain ⟨l⟩ := cs
  match l, hsz with
  | [c0, c1], _ =>
    obtain ⟨fuel, hf⟩ := h
    cases fuel with
    | zero => simp [DataW.trod] at hf
    | succ m =>
      rw [DataW.trod_step] at hf
      unfold DataW.trodStep at hf
      simp only [hu, Value.cells, h1] at hf
      rw [if_pos (by rw [h2]; rfl)] at hf
      simp only [Option.map_eq_some_iff] at hf
      obtain ⟨ys, hy, e1⟩ := hf
      simp only [List.range_succ, List.range_zero, List.nil_append, List.cons_append, List.mapM_cons, List.mapM_nil, bind, Option.bind_eq_some_iff, pure, Option.some.injEq] at hy
      obtain ⟨y0, hy0, ys', ⟨y1, hy1, ys'', rfl, rfl⟩, rfl⟩ := hy
      obtain ⟨a, ea, rfl, wa⟩ := DataW.trod_int he hy0
      obtain ⟨b, eb, rfl, wb⟩ := DataW.trod_int he hy1
      simp at ea eb e1
      obtain ⟨rfl, rfl⟩ := e1
      exact ⟨a, b, by rw [ea, eb], rfl, rfl, wa, wb⟩
end Go.Proofs.Ytffjonpajjioaaa

/- The frame of TopPlaced: the statement, if the call returns true and nothing turns. -/
namespace Go.Proofs.Ytffjonpajjioaaa.topPlaced
open Go.ChangeShapes Go.WideShapes Go.ChangeAt Go.RowKit

theorem own : ownKnob Try.prog.godebug = none := by kernel_rfl

/-- What a walk has to give. -/
def Walked : Prop := ∀ (a0 b0 : Int) (A1 : Option Addr) (n1 c1 : Nat) (xs1 : List (List Pt)) (w : World), (Lit.int .u8 a0).wf = true → (Lit.int .u8 b0).wf = true → xs1.length = n1 → n1 ≤ c1 → n1 ≤ 9223372036854775807 → PolysW w A1 xs1 →
  Calls Try.prog 3 #[.agg #[.int .u8 a0, .int .u8 b0], .slice A1 n1 c1] w fun e w' => e = .returned (.bool true) ∧ Below w.heap.size w w'

theorem laidOut : laidOutB Try.prog = true := by kernel_rfl
set_option maxRecDepth 100000 in
theorem lifted (hwalk : Walked) (os : Os) (started : os.Started) (H : Type) (enc : TypeId × Value → H) :
    ReturnsInHanded {} Try.checked os 3 .any (Rows.topPlacedSpec.pre6 enc Try.prog Try.f3 Rows.topPlacedRow.domain false) (Rows.topPlacedSpec.post enc Try.prog Try.f3 false true false false) := by
  refine returnsInHanded_of_change (C := Try.checked) own started (by kernel_rfl) Try.func3
    (ChangeSpec.witness6 (enc := enc) (C := Try.checked) false ⟨#[], #[.agg #[.int .u8 0, .int .u8 0], .slice none 0 0], []⟩ 8 (by kernel_rfl) (by kernel_rfl) (by kernel_rfl) (by kernel_rfl)) ?_
  intro W base args ds gs before hval0 hW hcnd _
  have hval : ∀ (j : Nat) t v, Try.f3.params[j]? = some t → args[j]? = some v → Value.okWide Try.prog W .any base t v := hval0
  have hW' := hW
  obtain ⟨p, q, hA0, hV, rfl, hfz, hnd⟩ := hW
  have hA : DataW.TrodAll enc Try.prog W 0 (fun _ => true) true Try.f3.params.toList args.toList ds p := hA0
  rw [Try.params3] at hA hval
  obtain ⟨v0, vs0, d0, ds0, p0, q0, hargs, rfl, rfl, h0, r0⟩ := trodAll_cons hA
  obtain ⟨v1, vs1, d1, ds1, p1, q1, rfl, rfl, rfl, h1, r1⟩ := trodAll_cons r0
  obtain ⟨rfl, rfl, rfl⟩ := trodAll_nil r1
  obtain rfl : args = #[v0, v1] := by cases args; simp_all
  obtain ⟨rfl, rfl⟩ := trodVars_none hV
  have k0 := h0
  obtain ⟨a0, b0, rfl, rfl, rfl, w0, z0⟩ := arr2_open Try.underlying22 Try.underlying5 (by kernel_rfl) (by kernel_rfl) (hval 0 22 v0 rfl rfl) h0
  obtain ⟨A1, n1, c1, rfl⟩ := okWide_slice Try.underlying23 (hval 1 23 v1 rfl rfl)
  have k1 := h1
  obtain ⟨xs1, y11, y12, y13, y14⟩ := polys_open k1
  clear hA0 hval0
  simp only [List.append_nil] at hW'
  have hlt : ∀ x ∈ p1, x.block < W.heap.size := fun x hx => by simpa using hW'.lt x (by simpa using hx)
  have l1 : ∀ x ∈ p1, x.block < W.heap.size := fun x hx => hlt x (by simp [hx])
  refine (hwalk a0 b0 A1 n1 c1 xs1 W w0 z0 y11 y12 y13 y14).mono fun e W' ⟨he, hg⟩ => ?_
  subst he
  have e1 : Rows.topPlacedSpec.fn H ([(.agg [.lit (.int .u8 a0), .lit (.int .u8 b0)]), d1] ++ []) = { results := [.lit (.bool true)], args := [(.agg [.lit (.int .u8 a0), .lit (.int .u8 b0)]), d1] } := by simp [Rows.topPlacedSpec]
  refine ⟨_, rfl, _, _, _, [], p1, [], by simpa using hW', ?_, ?_, ?_, hg.frame _, fun h => by cases h⟩
  · rw [e1]; exact trodAll_cons_mk (shut_bool Try.underlying4 true) trodAll_mk0
  · rw [e1]
    have t := (trodAll_cons_mk (Below.trod laidOut (by kernel_rfl) (of_decide_eq_true (by kernel_rfl)) k0 hg (by simp)) (trodAll_cons_mk (Below.trod laidOut (by kernel_rfl) (of_decide_eq_true (by kernel_rfl)) k1 hg l1) trodAll_mk0))
    simp only [List.append_nil, List.nil_append, ← List.append_assoc] at t
    exact t
  · rw [e1]; rfl

theorem inst : Try.f3.isInstance Try.prog Rows.topPlacedRow.origin Rows.topPlacedRow.targs := of_decide_eq_true (by kernel_rfl)
theorem wrapper : Try.f3.isWrapper Try.prog Rows.topPlacedRow.wrapper Rows.topPlacedRow.mainSum := by
  unfold Func.isWrapper
  first | (rw [if_pos (by decide +kernel)]; kernel_rfl) | (rw [if_neg (by decide +kernel)]; exact ⟨rfl, rfl⟩)
theorem named : Try.prog.funcNamed "cracknel/crackneltop.TopPlaced" = some 3 := by kernel_rfl

theorem over (joined : joinedFacts Try.prog 3 Try.f3 Rows.topPlacedSpec Rows.topPlacedRow = true) (hwalk : Walked) : Rows.TopPlacedSaid :=
  OpenClaim.holds_of_wide 3 Try.f3 rfl rfl rfl rfl rfl rfl rfl ⟨rfl, rfl, rfl, rfl, rfl⟩ rfl rfl rfl rfl rfl named Try.func3 joined inst wrapper
    (fun os started H enc _ => lifted hwalk os started H enc)
#print axioms over
end Go.Proofs.Ytffjonpajjioaaa.topPlaced

/- Points in slices of a call's own, which grow by append; the law's cut. -/
namespace Go.Proofs.Ytffjonpajjioaaa
open Go.RowKit Go.Sort
attribute [local go_sem ↓] run_min_mn run_max_mx

def ptsV : List Pt → List Value
  | [] => []
  | p :: l => .int .i64 p.1 :: .int .i64 p.2 :: ptsV l
theorem ptsV_length : ∀ l, (ptsV l).length = l.length * 2
  | [] => rfl
  | p :: l => by simp only [ptsV, List.length_cons, ptsV_length l]; omega
theorem ptsV_append : ∀ a b, ptsV (a ++ b) = ptsV a ++ ptsV b
  | [], _ => rfl
  | p :: a, b => by simp only [ptsV, List.cons_append, ptsV_append a b]
theorem ptsV_get : ∀ (l : List Pt) (i : Nat) (p : Pt), l[i]? = some p → (ptsV l)[i * 2]? = some (.int .i64 p.1) ∧ (ptsV l)[i * 2 + 1]? = some (.int .i64 p.2)
  | [], _, _, h => by simp at h
  | q :: l, 0, p, h => by
    obtain rfl : q = p := by simpa using h
    exact ⟨rfl, rfl⟩
  | q :: l, i + 1, p, h => by
    have := ptsV_get l i p (by simpa using h)
    rw [show (i + 1) * 2 = i * 2 + 1 + 1 by omega]
    simpa only [ptsV, List.getElem?_cons_succ] using this
theorem ptsV_cell : ∀ (l : List Pt), ∀ u ∈ ptsV l, u.oneCell' = true
  | [], u, h => by cases h
  | p :: l, u, h => by
    simp only [ptsV, List.mem_cons] at h
    rcases h with rfl | rfl | h
    · rfl
    · rfl
    · exact ptsV_cell l u h
theorem ptsV_at {w : World} {b : Nat} : ∀ (l : List Pt) (off : Nat), PtsIn w b off l → ∀ j u, (ptsV l)[j]? = some u → w.cell? ⟨b, off + j, none⟩ = some u
  | [], _, _, _, _, h => by simp [ptsV] at h
  | p :: l, off, hp, 0, u, h => by
    have := (hp 0 p rfl).1
    obtain rfl : Value.int .i64 p.1 = u := by simpa [ptsV] using h
    simpa using this
  | p :: l, off, hp, 1, u, h => by
    have := (hp 0 p rfl).2
    obtain rfl : Value.int .i64 p.2 = u := by simpa [ptsV] using h
    simpa using this
  | p :: l, off, hp, j + 2, u, h => by
    have hq : PtsIn w b (off + 2) l := fun i q hq => by
      have := hp (i + 1) q (by simpa using hq)
      rw [show off + (i + 1) * 2 = off + 2 + i * 2 by omega] at this
      exact this
    have := ptsV_at l (off + 2) hq j u (by simpa [ptsV] using h)
    rw [show off + (j + 2) = off + 2 + j by omega]
    exact this

theorem PtsIn.take {w : World} {b off : Nat} {l : List Pt} (h : PtsIn w b off l) (k : Nat) : PtsIn w b off (l.take k) := fun i p hp => by
  rw [List.getElem?_take] at hp
  split at hp
  · exact h i p hp
  · cases hp
theorem PtsAt.take {w : World} {A : Option Addr} {l : List Pt} (h : PtsAt w A l) (k : Nat) : PtsAt w A (l.take k) := fun hne => by
  obtain ⟨b, off, e, hlt, hc⟩ := h (by intro e; subst e; simp at hne)
  exact ⟨b, off, e, hlt, hc.take k⟩

/-- A slice of the call's own: blocks from base on. -/
def PtsOwn (w : World) (base : Nat) (v : Value) (l : List Pt) : Prop := w.ownsRow base 27 2 v l.length (ptsV l)

theorem PtsOwn.slice {w : World} {base : Nat} {v : Value} {l : List Pt} (h : PtsOwn w base v l) :
    ∃ A c, v = .slice A l.length c ∧ l.length ≤ c ∧ PtsAt w A l ∧ (∀ a, A = some a → base ≤ a.block) := by
  rcases h.2 with ⟨rfl, hn⟩ | ⟨g, cap, cur, rfl, hb, hg, hnc, _, hsz, ht⟩
  · refine ⟨none, 0, by rw [hn], by omega, fun hne => absurd (List.eq_nil_of_length_eq_zero hn) hne, fun a ha => by cases ha⟩
  · refine ⟨_, cap, rfl, hnc, fun _ => ⟨g, 0, rfl, (Array.getElem?_eq_some_iff.1 hg).1, fun i p hp => ?_⟩, fun a ha => by cases ha; exact hb⟩
    obtain ⟨h1, h2⟩ := ptsV_get l i p hp
    rw [← ht, List.getElem?_take] at h1 h2
    constructor
    · rw [Nat.zero_add, cell_of_row w g _ cur _ (0, 0) hg]
      split at h1
      · simpa using h1
      · cases h1
    · rw [Nat.zero_add, cell_of_row w g _ cur _ (0, 0) hg]
      split at h2
      · simpa using h2
      · cases h2

theorem PtsOwn.empty (w : World) : PtsOwn (w.alloc (.cells #[] 27)) w.heap.size (.slice (some ⟨w.heap.size, 0, none⟩) 0 0) [] :=
  World.ownsRow_made w #[] 0 (Nat.le_refl _) (by simp [maxLen]) rfl

theorem info_pt : (Try.prog.info? 27).map (fun i => (i.zero, i.size, i.bytes)) = some (some (.agg #[.int .i64 0, .int .i64 0]), 2, 16) := by kernel_rfl
theorem info_pparts {o : Option TypeInfo} {z : Value} {s b : Nat} (h : o.map (fun i => (i.zero, i.size, i.bytes)) = some (some z, s, b)) : ∃ i, o = some i ∧ i.zero = some z ∧ i.size = s ∧ i.bytes = b := by
  cases o with
  | none => cases h
  | some i =>
    have e : (i.zero, i.size, i.bytes) = (some z, s, b) := by simpa using h
    simp only [Prod.mk.injEq] at e
    exact ⟨i, rfl, e.1, e.2.1, e.2.2⟩

/-- An append. -/
theorem papp_run {w : World} {base : Nat} {v : Value} {xs ys : List Pt} (h : PtsOwn w base v xs) {A : Option Addr} (c : Nat) (hy : PtsAt w A ys) (hlen : xs.length + ys.length ≤ 100000) (hb : base ≤ w.heap.size) (ty : TypeId) :
    ∃ v' w', (Builtin.append_ #[24, 24] ty #[v, .slice A ys.length c]).run Try.prog w = .ok v' w' ∧ PtsOwn w' base v' (xs ++ ys) ∧ w.grownBy w' v.ownBlock ∧
      (v'.ownBlock = v.ownBlock ∨ v'.ownBlock = some w.heap.size) := by
  obtain ⟨i0, hi0, hz0, hz1, hz2⟩ := info_pparts info_pt
  have e2 : (xs ++ ys).length = xs.length + ys.length := by simp
  have fin : ∀ ad : Addr, A = some ad → (∀ j u, (ptsV ys)[j]? = some u → w.cell? (ad.add j) = some u) →
      ∃ v' w', (Builtin.append_ #[24, 24] ty #[v, .slice A ys.length c]).run Try.prog w = .ok v' w' ∧ PtsOwn w' base v' (xs ++ ys) ∧ w.grownBy w' v.ownBlock ∧ (v'.ownBlock = v.ownBlock ∨ v'.ownBlock = some w.heap.size) := by
    intro ad e hc
    subst e
    obtain ⟨v', w', hr, h2, h3, _, h5⟩ := run_append_own_at (P := Try.prog) w base 24 ty 27 i0 _ 2 16 Try.underlying24 hi0 hz0 hz1 hz2 rfl (by omega) v xs.length (ptsV xs) h ad ys.length c (ptsV ys) (ptsV_length ys) hc (ptsV_cell ys) (by simp [maxLen]; omega) (by omega) hb
    exact ⟨v', w', hr, by unfold PtsOwn; rw [e2, ptsV_append]; exact h2, h3, h5⟩
  cases ys with
  | nil =>
    cases A with
    | none =>
      refine ⟨v, w, ?_, by simpa using h, World.grownBy.refl w _, .inl rfl⟩
      rcases h.2 with ⟨rfl, hn⟩ | ⟨g, cap, cur, rfl, _, _, hnc, _⟩
      · simp [Builtin.append_, run_underlying Try.underlying24, sizeOf, typeInfo, hi0, Builtin.lenOf, Builtin.firstCells]
      · simp [Builtin.append_, run_underlying Try.underlying24, sizeOf, typeInfo, hi0, Builtin.lenOf, Builtin.firstCells, hnc, storeCells]
    | some ad => exact fin ad rfl (fun j u hu => by simp [ptsV] at hu)
  | cons y ys =>
    obtain ⟨b, off, rfl, _, hc⟩ := hy (by simp)
    refine fin _ rfl fun j u hu => ?_
    have e : (⟨b, off, none⟩ : Addr).add j = ⟨b, off + j, none⟩ := by unfold Addr.add; split <;> simp_all
    rw [e]
    exact ptsV_at _ _ hc j u hu

theorem wpList_papp {w : World} {ops : Array Oper} {rest : List Oper} {o : Oper} {a : Act} {Q : Exit → Act → World → Prop} (hgd : o.guard = none) (s x : Operand)
    (ho : o.op = .call { callee := .builtin .append, args := #[s, x], argTypes := #[24, 24] }) (base : Nat) (v : Value) (xs ys : List Pt) (A : Option Addr) (m c : Nat)
    (hs : a.eval s = v) (hx : a.eval x = .slice A m c) (hown : PtsOwn w base v xs) (hm : ys.length = m) (hy : PtsAt w A ys) (hlen : xs.length + ys.length ≤ 100000) (hb : base ≤ w.heap.size)
    (h : ∀ v' w', PtsOwn w' base v' (xs ++ ys) → w.grownBy w' v.ownBlock → (v'.ownBlock = v.ownBlock ∨ v'.ownBlock = some w.heap.size) → wpList Try.prog ops Q rest (a.put o.dst v') w') : wpList Try.prog ops Q (o :: rest) a w :=
  wpList_plain hgd fun _ hK => by
    subst hm
    obtain ⟨v', w', hr, h2, h3, h4⟩ := papp_run hown c hy hlen hb o.type
    unfold Oper.wp execOp
    simp only [ho, resolve, invoke, builtin, Sem.run_bind, Sem.run_pure, Result.andThen_ok, List.map_toArray, List.map_cons, List.map_nil, hs, hx, hr]
    exact hK _ _ (h v' w' h2 h3 h4)
end Go.Proofs.Ytffjonpajjioaaa

/- The law's cut of a slice of points. -/
namespace Go.Proofs.Ytffjonpajjioaaa
open Go.RowKit Go.Sort
attribute [local go_sem ↓] run_min_mn run_max_mx

theorem mn_nat (a b : Nat) : mn (a : Int) b = ((min a b : Nat) : Int) := by unfold mn; split <;> omega

/-- How many points are left. -/
def cutN (n k : Nat) : Nat := if 32 < n then 33 else k
/-- What the cut hands back. -/
def PCutTo (w : World) (xs : List Pt) (e : Ending) (w' : World) : Prop := ∃ v, e = .returned v ∧ PtsOwn w' w.heap.size v xs ∧ Below w.heap.size w w'

end Go.Proofs.Ytffjonpajjioaaa

/- Twice the area: the reference's function. -/
namespace Go.Proofs.Ytffjonpajjioaaa
open Go.RowKit Go.Sort
attribute [local go_sem ↓] run_min_mn run_max_mx Go.wp_at_zero Go.wp_at_succ

/-- Two variables that hold points. -/
def TwoPts (wr : World) (x y qx qy : Int) (s t : Value) (wx : World) : Prop :=
  ∃ g h : Nat, s = .pointer (some ⟨g, 0, none⟩) ∧ t = .pointer (some ⟨h, 0, none⟩) ∧ PtAt wx g x y ∧ PtAt wx h qx qy ∧ Below wr.heap.size wr wx

end Go.Proofs.Ytffjonpajjioaaa

/- turnsBack: have two edges more in common than their corner? -/
namespace Go.Proofs.Ytffjonpajjioaaa
open Go.RowKit Go.Sort
attribute [local go_sem ↓] run_min_mn run_max_mx

section
variable {wr W w' : World} {N b : Nat} {v1 v2 v3 v4 v5 v6 : Value} {a c : Nat}
/-- Three points stay. -/
theorem keep3_call (p : Below wr.heap.size wr W ∧ W.cell? ⟨a, 0, none⟩ = some v1 ∧ W.cell? ⟨a, 1, none⟩ = some v2 ∧ W.cell? ⟨b, 0, none⟩ = some v3 ∧ W.cell? ⟨b, 1, none⟩ = some v4 ∧ W.cell? ⟨c, 0, none⟩ = some v5 ∧ W.cell? ⟨c, 1, none⟩ = some v6)
    (hB : a < wr.heap.size ∧ b < wr.heap.size ∧ c < wr.heap.size) (hb : Below W.heap.size W w') :
    Below wr.heap.size wr w' ∧ w'.cell? ⟨a, 0, none⟩ = some v1 ∧ w'.cell? ⟨a, 1, none⟩ = some v2 ∧ w'.cell? ⟨b, 0, none⟩ = some v3 ∧ w'.cell? ⟨b, 1, none⟩ = some v4 ∧ w'.cell? ⟨c, 0, none⟩ = some v5 ∧ w'.cell? ⟨c, 1, none⟩ = some v6 := by
  have hs := p.1.size
  obtain ⟨p0, p1, p2, p3, p4, p5, p6⟩ := p
  obtain ⟨h1, h2, h3⟩ := hB
  exact ⟨p0.trans (hb.mono hs), (hb.cell (p := ⟨a, _, none⟩) (Nat.lt_of_lt_of_le h1 hs)).trans p1, (hb.cell (p := ⟨a, _, none⟩) (Nat.lt_of_lt_of_le h1 hs)).trans p2,
    (hb.cell (p := ⟨b, _, none⟩) (Nat.lt_of_lt_of_le h2 hs)).trans p3, (hb.cell (p := ⟨b, _, none⟩) (Nat.lt_of_lt_of_le h2 hs)).trans p4,
    (hb.cell (p := ⟨c, _, none⟩) (Nat.lt_of_lt_of_le h3 hs)).trans p5, (hb.cell (p := ⟨c, _, none⟩) (Nat.lt_of_lt_of_le h3 hs)).trans p6⟩
theorem keep3_alloc (p : Below wr.heap.size wr W ∧ W.cell? ⟨a, 0, none⟩ = some v1 ∧ W.cell? ⟨a, 1, none⟩ = some v2 ∧ W.cell? ⟨b, 0, none⟩ = some v3 ∧ W.cell? ⟨b, 1, none⟩ = some v4 ∧ W.cell? ⟨c, 0, none⟩ = some v5 ∧ W.cell? ⟨c, 1, none⟩ = some v6)
    (hB : a < wr.heap.size ∧ b < wr.heap.size ∧ c < wr.heap.size) (o : Obj) :
    Below wr.heap.size wr (W.alloc o) ∧ (W.alloc o).cell? ⟨a, 0, none⟩ = some v1 ∧ (W.alloc o).cell? ⟨a, 1, none⟩ = some v2 ∧ (W.alloc o).cell? ⟨b, 0, none⟩ = some v3 ∧ (W.alloc o).cell? ⟨b, 1, none⟩ = some v4 ∧ (W.alloc o).cell? ⟨c, 0, none⟩ = some v5 ∧ (W.alloc o).cell? ⟨c, 1, none⟩ = some v6 :=
  keep3_call p hB ((Below.refl _ _).alloc (Nat.le_refl _) o)
theorem keep3_drew (p : Below wr.heap.size wr W ∧ W.cell? ⟨a, 0, none⟩ = some v1 ∧ W.cell? ⟨a, 1, none⟩ = some v2 ∧ W.cell? ⟨b, 0, none⟩ = some v3 ∧ W.cell? ⟨b, 1, none⟩ = some v4 ∧ W.cell? ⟨c, 0, none⟩ = some v5 ∧ W.cell? ⟨c, 1, none⟩ = some v6) :
    Below wr.heap.size wr W.drew ∧ W.drew.cell? ⟨a, 0, none⟩ = some v1 ∧ W.drew.cell? ⟨a, 1, none⟩ = some v2 ∧ W.drew.cell? ⟨b, 0, none⟩ = some v3 ∧ W.drew.cell? ⟨b, 1, none⟩ = some v4 ∧ W.drew.cell? ⟨c, 0, none⟩ = some v5 ∧ W.drew.cell? ⟨c, 1, none⟩ = some v6 :=
  ⟨p.1.drew, p.2⟩
theorem keep3_set (p : Below wr.heap.size wr W ∧ W.cell? ⟨a, 0, none⟩ = some v1 ∧ W.cell? ⟨a, 1, none⟩ = some v2 ∧ W.cell? ⟨b, 0, none⟩ = some v3 ∧ W.cell? ⟨b, 1, none⟩ = some v4 ∧ W.cell? ⟨c, 0, none⟩ = some v5 ∧ W.cell? ⟨c, 1, none⟩ = some v6)
    (hB : a < wr.heap.size ∧ b < wr.heap.size ∧ c < wr.heap.size) (q : Addr) (hq : wr.heap.size ≤ q.block) (u : Value) :
    Below wr.heap.size wr (W.setCell q u) ∧ (W.setCell q u).cell? ⟨a, 0, none⟩ = some v1 ∧ (W.setCell q u).cell? ⟨a, 1, none⟩ = some v2 ∧ (W.setCell q u).cell? ⟨b, 0, none⟩ = some v3 ∧ (W.setCell q u).cell? ⟨b, 1, none⟩ = some v4 ∧ (W.setCell q u).cell? ⟨c, 0, none⟩ = some v5 ∧ (W.setCell q u).cell? ⟨c, 1, none⟩ = some v6 := by
  obtain ⟨p0, p1, p2, p3, p4, p5, p6⟩ := p
  obtain ⟨h1, h2, h3⟩ := hB
  have f : ∀ (g o : Nat), g < wr.heap.size → (W.setCell q u).cell? ⟨g, o, none⟩ = W.cell? ⟨g, o, none⟩ := fun g o hg => World.cell?_setCell_other W q _ u (fun e => by subst e; simp at hq; omega)
  exact ⟨p0.setCell hq u, (f a 0 h1).trans p1, (f a 1 h1).trans p2, (f b 0 h2).trans p3, (f b 1 h2).trans p4, (f c 0 h3).trans p5, (f c 1 h3).trans p6⟩
end

def backB (ax ay bx by' cx cy : Int) : Bool :=
  ((ax - bx) * (cy - by') - (cx - bx) * (ay - by') == 0) && decide (0 < (ax - bx) * (cx - bx) + (ay - by') * (cy - by'))

set_option maxHeartbeats 2000000 in
theorem turnsBack_any (ax ay bx by' cx cy : Int) (w : World)
    (h1 : -60000 ≤ ax ∧ ax ≤ 60000) (h2 : -60000 ≤ ay ∧ ay ≤ 60000) (h3 : -60000 ≤ bx ∧ bx ≤ 60000) (h4 : -60000 ≤ by' ∧ by' ≤ 60000) (h5 : -60000 ≤ cx ∧ cx ≤ 60000) (h6 : -60000 ≤ cy ∧ cy ≤ 60000) :
    Calls Try.prog 50 #[.agg #[.int .i64 ax, .int .i64 ay], .agg #[.int .i64 bx, .int .i64 by'], .agg #[.int .i64 cx, .int .i64 cy]] w fun e w' =>
      e = .returned (.bool (backB ax ay bx by' cx cy)) ∧ Below w.heap.size w w' := by
  have C := fun W => Lib.hid (crossD_any (ax - bx) (ay - by') (cx - bx) (cy - by') W (by omega) (by omega) (by omega) (by omega))
  have q1 : -14400000000 ≤ (ax - bx) * (cx - bx) ∧ (ax - bx) * (cx - bx) ≤ 14400000000 := mul_le_of_abs (K := 120000) (L := 120000) (by omega) (by omega)
  have q2 : -14400000000 ≤ (ay - by') * (cy - by') ∧ (ay - by') * (cy - by') ≤ 14400000000 := mul_le_of_abs (K := 120000) (L := 120000) (by omega) (by omega)
  go_enter Try.func50, Try.ntmps50
  go_wp2_with fail
  have B := boxed3 w ax ay bx by' cx cy
  generalize ((w.alloc (Go.Proofs.Ytffjonpajjioaaa.bx ax ay)).alloc (Go.Proofs.Ytffjonpajjioaaa.bx bx by')).alloc (Go.Proofs.Ytffjonpajjioaaa.bx cx cy) = wr at *
  obtain ⟨⟨a1, a2⟩, ⟨b1, b2⟩, ⟨c1, c2⟩, hb, hz⟩ := B
  have HB := Lib.hid hb
  have hB : w.heap.size < wr.heap.size ∧ w.heap.size + 1 < wr.heap.size ∧ w.heap.size + 1 + 1 < wr.heap.size := by omega
  clear hb hz
  have n1 := World.new_ne wr _ a1
  have n2 := World.new_ne wr _ a2
  have n3 := World.new_ne wr _ b1
  have n4 := World.new_ne wr _ b2
  have n5 := World.new_ne wr _ c1
  have n6 := World.new_ne wr _ c2
  go_cut [7, 8] (fun s t wx => TwoPts wr (ax - bx) (ay - by') (cx - bx) (cy - by') s t wx)
  case first =>
    have lt2 : wr.heap.size < wr.heap.size + 1 + 1 := by omega
    go_region_held3 (fun w' => Below wr.heap.size wr w' ∧ w'.cell? ⟨w.heap.size, 0, none⟩ = some (.int .i64 ax) ∧ w'.cell? ⟨w.heap.size, 1, none⟩ = some (.int .i64 ay) ∧ w'.cell? ⟨w.heap.size + 1, 0, none⟩ = some (.int .i64 bx) ∧ w'.cell? ⟨w.heap.size + 1, 1, none⟩ = some (.int .i64 by') ∧ w'.cell? ⟨w.heap.size + 1 + 1, 0, none⟩ = some (.int .i64 cx) ∧ w'.cell? ⟨w.heap.size + 1 + 1, 1, none⟩ = some (.int .i64 cy))
      (((repeat (first | refine keep3_drew ?_ | refine keep3_alloc ?_ hB _ | refine keep3_set ?_ hB _ (by simp; try omega) _)); (first | assumption | exact hS | exact ⟨Below.refl _ _, a1, a2, b1, b2, c1, c2⟩)))
      (first
        | (go_at_call 30; have hS0 := hS; clear hS; refine (minus_any _ _ _ _ _ (by omega) (by omega) (by omega) (by omega)).mono ?_; rintro e w2 ⟨rfl, hb2⟩; have hS := keep3_call (by assumption) hB hb2; obtain ⟨hc2, hf2⟩ := old_cells hb2; have hz2 := hb2.size; (try simp at hz2); (try have zz0 : w2.heap.size < w2.heap.size + 1 + 1 := by omega); (try have zz1 : wr.heap.size < w2.heap.size := by omega); (try have zz2 : ¬ wr.heap.size = w2.heap.size := by omega); (try have zz3 : ¬ w2.heap.size = wr.heap.size := by omega); (try have zz4 : wr.heap.size < w2.heap.size + 1 := by omega); (try have zz5 : ¬ wr.heap.size = w2.heap.size + 1 := by omega); (try have zz6 : ¬ w2.heap.size + 1 = wr.heap.size := by omega); (try have zz7 : wr.heap.size < w2.heap.size + 1 + 1 := by omega); (try have zz8 : ¬ wr.heap.size = w2.heap.size + 1 + 1 := by omega); (try have zz9 : ¬ w2.heap.size + 1 + 1 = wr.heap.size := by omega); (try have zz10 : wr.heap.size + 1 < w2.heap.size := by omega); (try have zz11 : ¬ wr.heap.size + 1 = w2.heap.size := by omega); (try have zz12 : ¬ w2.heap.size = wr.heap.size + 1 := by omega); (try have zz13 : wr.heap.size + 1 < w2.heap.size + 1 := by omega); (try have zz14 : ¬ wr.heap.size + 1 = w2.heap.size + 1 := by omega); (try have zz15 : ¬ w2.heap.size + 1 = wr.heap.size + 1 := by omega); (try have zz16 : wr.heap.size + 1 < w2.heap.size + 1 + 1 := by omega); (try have zz17 : ¬ wr.heap.size + 1 = w2.heap.size + 1 + 1 := by omega); (try have zz18 : ¬ w2.heap.size + 1 + 1 = wr.heap.size + 1 := by omega); (try have zz19 : w1.heap.size < w2.heap.size := by omega); (try have zz20 : ¬ w1.heap.size = w2.heap.size := by omega); (try have zz21 : ¬ w2.heap.size = w1.heap.size := by omega); (try have zz22 : w1.heap.size < w2.heap.size + 1 := by omega); (try have zz23 : ¬ w1.heap.size = w2.heap.size + 1 := by omega); (try have zz24 : ¬ w2.heap.size + 1 = w1.heap.size := by omega); (try have zz25 : w1.heap.size < w2.heap.size + 1 + 1 := by omega); (try have zz26 : ¬ w1.heap.size = w2.heap.size + 1 + 1 := by omega); (try have zz27 : ¬ w2.heap.size + 1 + 1 = w1.heap.size := by omega); (try have zz28 : w1.heap.size + 1 < w2.heap.size := by omega); (try have zz29 : ¬ w1.heap.size + 1 = w2.heap.size := by omega); (try have zz30 : ¬ w2.heap.size = w1.heap.size + 1 := by omega); (try have zz31 : w1.heap.size + 1 < w2.heap.size + 1 := by omega); (try have zz32 : ¬ w1.heap.size + 1 = w2.heap.size + 1 := by omega); (try have zz33 : ¬ w2.heap.size + 1 = w1.heap.size + 1 := by omega); (try have zz34 : w1.heap.size + 1 < w2.heap.size + 1 + 1 := by omega); (try have zz35 : ¬ w1.heap.size + 1 = w2.heap.size + 1 + 1 := by omega); (try have zz36 : ¬ w2.heap.size + 1 + 1 = w1.heap.size + 1 := by omega))
        | (go_at_call 30; refine (minus_any _ _ _ _ _ (by omega) (by omega) (by omega) (by omega)).mono ?_; rintro e w1 ⟨rfl, hb1⟩; have hS := keep3_call (by assumption) hB hb1; obtain ⟨hc1, hf1⟩ := old_cells hb1; have hz1 := hb1.size; (try simp at hz1); (try have yy0 : w1.heap.size < w1.heap.size + 1 + 1 := by omega); (try have yy1 : wr.heap.size < w1.heap.size := by omega); (try have yy2 : ¬ wr.heap.size = w1.heap.size := by omega); (try have yy3 : ¬ w1.heap.size = wr.heap.size := by omega); (try have yy4 : wr.heap.size < w1.heap.size + 1 := by omega); (try have yy5 : ¬ wr.heap.size = w1.heap.size + 1 := by omega); (try have yy6 : ¬ w1.heap.size + 1 = wr.heap.size := by omega); (try have yy7 : wr.heap.size < w1.heap.size + 1 + 1 := by omega); (try have yy8 : ¬ wr.heap.size = w1.heap.size + 1 + 1 := by omega); (try have yy9 : ¬ w1.heap.size + 1 + 1 = wr.heap.size := by omega); (try have yy10 : wr.heap.size + 1 < w1.heap.size := by omega); (try have yy11 : ¬ wr.heap.size + 1 = w1.heap.size := by omega); (try have yy12 : ¬ w1.heap.size = wr.heap.size + 1 := by omega); (try have yy13 : wr.heap.size + 1 < w1.heap.size + 1 := by omega); (try have yy14 : ¬ wr.heap.size + 1 = w1.heap.size + 1 := by omega); (try have yy15 : ¬ w1.heap.size + 1 = wr.heap.size + 1 := by omega); (try have yy16 : wr.heap.size + 1 < w1.heap.size + 1 + 1 := by omega); (try have yy17 : ¬ wr.heap.size + 1 = w1.heap.size + 1 + 1 := by omega); (try have yy18 : ¬ w1.heap.size + 1 + 1 = wr.heap.size + 1 := by omega)))
    all_goals (go_wp2_with fail; go_meet)
    all_goals
      have hS1 := hS.1
      refine ⟨_, _, rfl, rfl, ?_, ?_, ?_⟩
      · constructor <;> (first | (go_simp; done))
      · constructor <;> (first | (go_simp; done))
      · go_grown
  case rest =>
    obtain ⟨g, h, rfl, rfl, P1, P2, hbc⟩ := hcut
    have hgb : g < wc.heap.size := block_lt_of_cell P1.1
    have hhb : h < wc.heap.size := block_lt_of_cell P2.1
    obtain ⟨g1, g2⟩ := P1
    obtain ⟨k1, k2⟩ := P2
    clear a1 a2 b1 b2 c1 c2 n1 n2 n3 n4 n5 n6
    go_wp2_with fail
    refine ((C _).out).mono ?_
    rintro e w3 ⟨rfl, hb3⟩
    obtain ⟨g1, g2⟩ := PtAt.below hb3 hgb ⟨g1, g2⟩
    obtain ⟨k1, k2⟩ := PtAt.below hb3 hhb ⟨k1, k2⟩
    have hbw : Below w.heap.size w w3 := HB.out.trans ((hbc.trans (hb3.mono hbc.size)).mono HB.out.size)
    have hd : backB ax ay bx by' cx cy = (((ax - bx) * (cy - by') - (cx - bx) * (ay - by') == 0) && decide (0 < (ax - bx) * (cx - bx) + (ay - by') * (cy - by'))) := rfl
    have HD := Lib.hid hd
    clear hd C
    clear h1 h2 h3 h4 h5 h6
    obtain ⟨q1, q1'⟩ := q1
    obtain ⟨q2, q2'⟩ := q2
    cases hz : ((ax - bx) * (cy - by') - (cx - bx) * (ay - by') == 0)
    · go_wp2
      go_ret
      exact ⟨ret_bool (by rw [HD.out, hz]; rfl), hbw⟩
    · go_wp2
      go_ret
      exact ⟨ret_bool (by rw [HD.out, hz]; simp), hbw⟩
end Go.Proofs.Ytffjonpajjioaaa

/- Do two edges meet? Package shape's way: by boxes and sides. -/
namespace Go.Proofs.Ytffjonpajjioaaa
open Go.RowKit Go.Sort
attribute [local go_sem ↓] run_min_mn run_max_mx

def boxB (ax ay bx by' cx cy dx dy : Int) : Bool :=
  decide (mx (mn ax bx) (mn cx dx) ≤ mn (mx ax bx) (mx cx dx)) && decide (mx (mn ay by') (mn cy dy) ≤ mn (mx ay by') (mx cy dy))
def reachB (ax ay bx by' cx cy dx dy : Int) : Bool :=
  decide (mn (cross ax ay bx by' cx cy) (cross ax ay bx by' dx dy) ≤ 0) && decide (0 ≤ mx (cross ax ay bx by' cx cy) (cross ax ay bx by' dx dy))
def meet2B (ax ay bx by' cx cy dx dy : Int) : Bool := (boxB ax ay bx by' cx cy dx dy && reachB ax ay bx by' cx cy dx dy) && reachB cx cy dx dy ax ay bx by'

set_option maxHeartbeats 1000000 in
theorem box_any (ax ay bx by' cx cy dx dy : Int) (w : World) :
    Calls Try.prog 52 #[.agg #[.int .i64 ax, .int .i64 ay], .agg #[.int .i64 bx, .int .i64 by'], .agg #[.int .i64 cx, .int .i64 cy], .agg #[.int .i64 dx, .int .i64 dy]] w fun e w' =>
      e = .returned (.bool (boxB ax ay bx by' cx cy dx dy)) ∧ Below w.heap.size w w' := by
  have e : boxB ax ay bx by' cx cy dx dy = (decide (mx (mn ax bx) (mn cx dx) ≤ mn (mx ax bx) (mx cx dx)) && decide (mx (mn ay by') (mn cy dy) ≤ mn (mx ay by') (mx cy dy))) := rfl
  have H := Lib.hid e
  clear e
  generalize boxB ax ay bx by' cx cy dx dy = r at *
  go_enter Try.func52, Try.ntmps52
  go_wp2
  all_goals
    go_ret
    refine ⟨ret_bool ?_, by go_grown⟩
    rw [H.out]
    simp
    try omega

set_option maxHeartbeats 1000000 in
theorem reach_any (ax ay bx by' cx cy dx dy : Int) (w : World)
    (h1 : -60000 ≤ ax ∧ ax ≤ 60000) (h2 : -60000 ≤ ay ∧ ay ≤ 60000) (h3 : -60000 ≤ bx ∧ bx ≤ 60000) (h4 : -60000 ≤ by' ∧ by' ≤ 60000) (h5 : -60000 ≤ cx ∧ cx ≤ 60000) (h6 : -60000 ≤ cy ∧ cy ≤ 60000) (h7 : -60000 ≤ dx ∧ dx ≤ 60000) (h8 : -60000 ≤ dy ∧ dy ≤ 60000) :
    Calls Try.prog 60 #[.agg #[.int .i64 ax, .int .i64 ay], .agg #[.int .i64 bx, .int .i64 by'], .agg #[.int .i64 cx, .int .i64 cy], .agg #[.int .i64 dx, .int .i64 dy]] w fun e w' =>
      e = .returned (.bool (reachB ax ay bx by' cx cy dx dy)) ∧ Below w.heap.size w w' := by
  have C1 := fun W => Lib.hid (turn_any ax ay bx by' cx cy W h1 h2 h3 h4 h5 h6)
  have C2 := fun W => Lib.hid (turn_any ax ay bx by' dx dy W h1 h2 h3 h4 h7 h8)
  have e : reachB ax ay bx by' cx cy dx dy = (decide (mn (cross ax ay bx by' cx cy) (cross ax ay bx by' dx dy) ≤ 0) && decide (0 ≤ mx (cross ax ay bx by' cx cy) (cross ax ay bx by' dx dy))) := rfl
  have H := Lib.hid e
  clear e h1 h2 h3 h4 h5 h6 h7 h8
  generalize reachB ax ay bx by' cx cy dx dy = r at *
  generalize cross ax ay bx by' cx cy = u at *
  generalize cross ax ay bx by' dx dy = v at *
  go_enter Try.func60, Try.ntmps60
  go_wp2_with fail
  have B := boxed4 w ax ay bx by' cx cy dx dy
  generalize (((w.alloc (Go.Proofs.Ytffjonpajjioaaa.bx ax ay)).alloc (Go.Proofs.Ytffjonpajjioaaa.bx bx by')).alloc (Go.Proofs.Ytffjonpajjioaaa.bx cx cy)).alloc (Go.Proofs.Ytffjonpajjioaaa.bx dx dy) = wr at *
  obtain ⟨⟨a1, a2⟩, ⟨b1, b2⟩, ⟨c1, c2⟩, ⟨d1, d2⟩, hb, hz⟩ := B
  have HB := Lib.hid hb
  clear hz hb
  have K1 := fun d os => Lib.hid (Calls.regrown_of ((C1 (grow (redrawn wr d) os)).out))
  have K2 := fun d os => Lib.hid (Calls.regrown_of ((C2 (grow (redrawn wr d) os)).out))
  have t1 := cell_regrown a1
  have t2 := cell_regrown a2
  have t3 := cell_regrown b1
  have t4 := cell_regrown b2
  have t5 := cell_regrown c1
  have t6 := cell_regrown c2
  have t7 := cell_regrown d1
  have t8 := cell_regrown d2
  clear a1 a2 b1 b2 c1 c2 d1 d2 C1 C2
  refine wp_region_quiet_below (by kernel_rfl) (by kernel_rfl) ?_
  repeat (go_big_quiet_step (first | (with_reducible exact (K1 _ _).out) | (with_reducible exact (K2 _ _).out)))
  refine wpQuiet_nil ?_
  intro _ hw'
  obtain ⟨⟨dq, osq⟩, hw''⟩ := hw'
  subst hw''
  go_wp2
  all_goals
    go_ret
    refine ⟨ret_bool ?_, HB.out.trans ((below_regrown wr dq osq).mono HB.out.size)⟩
    rw [H.out]
    simp
    try omega

set_option maxHeartbeats 1000000 in
theorem meetD_any (ax ay bx by' cx cy dx dy : Int) (w : World)
    (h1 : -60000 ≤ ax ∧ ax ≤ 60000) (h2 : -60000 ≤ ay ∧ ay ≤ 60000) (h3 : -60000 ≤ bx ∧ bx ≤ 60000) (h4 : -60000 ≤ by' ∧ by' ≤ 60000) (h5 : -60000 ≤ cx ∧ cx ≤ 60000) (h6 : -60000 ≤ cy ∧ cy ≤ 60000) (h7 : -60000 ≤ dx ∧ dx ≤ 60000) (h8 : -60000 ≤ dy ∧ dy ≤ 60000) :
    Calls Try.prog 51 #[.agg #[.int .i64 ax, .int .i64 ay], .agg #[.int .i64 bx, .int .i64 by'], .agg #[.int .i64 cx, .int .i64 cy], .agg #[.int .i64 dx, .int .i64 dy]] w fun e w' =>
      e = .returned (.bool (meet2B ax ay bx by' cx cy dx dy)) ∧ Below w.heap.size w w' := by
  have C0 := fun W => Lib.hid (box_any ax ay bx by' cx cy dx dy W)
  have C1 := fun W => Lib.hid (reach_any ax ay bx by' cx cy dx dy W h1 h2 h3 h4 h5 h6 h7 h8)
  have C2 := fun W => Lib.hid (reach_any cx cy dx dy ax ay bx by' W h5 h6 h7 h8 h1 h2 h3 h4)
  have e : meet2B ax ay bx by' cx cy dx dy = ((boxB ax ay bx by' cx cy dx dy && reachB ax ay bx by' cx cy dx dy) && reachB cx cy dx dy ax ay bx by') := rfl
  have H := Lib.hid e
  clear e h1 h2 h3 h4 h5 h6 h7 h8
  generalize meet2B ax ay bx by' cx cy dx dy = r at *
  generalize boxB ax ay bx by' cx cy dx dy = x0 at *
  generalize reachB ax ay bx by' cx cy dx dy = x1 at *
  generalize reachB cx cy dx dy ax ay bx by' = x2 at *
  go_enter Try.func51, Try.ntmps51
  go_wp2_with fail
  have B := boxed4 w ax ay bx by' cx cy dx dy
  generalize (((w.alloc (Go.Proofs.Ytffjonpajjioaaa.bx ax ay)).alloc (Go.Proofs.Ytffjonpajjioaaa.bx bx by')).alloc (Go.Proofs.Ytffjonpajjioaaa.bx cx cy)).alloc (Go.Proofs.Ytffjonpajjioaaa.bx dx dy) = wr at *
  obtain ⟨P1, P2, P3, P4, hb, hz⟩ := B
  have l1 : w.heap.size < wr.heap.size ∧ w.heap.size + 1 < wr.heap.size ∧ w.heap.size + 1 + 1 < wr.heap.size ∧ w.heap.size + 1 + 1 + 1 < wr.heap.size := by omega
  refine ((C0 _).out).mono ?_
  rintro e w1 ⟨rfl, hb1⟩
  have Q1 := PtAt.below hb1 l1.1 P1
  have Q2 := PtAt.below hb1 l1.2.1 P2
  have Q3 := PtAt.below hb1 l1.2.2.1 P3
  have Q4 := PtAt.below hb1 l1.2.2.2 P4
  have hbw1 := hb.trans (hb1.mono hb.size)
  have hs1 := hb1.size
  clear P1 P2 P3 P4 hb1 hb hz
  cases x0
  · go_wp2
    go_ret
    exact ⟨ret_bool (by rw [H.out]; rfl), hbw1⟩
  · obtain ⟨a1, a2⟩ := Q1
    obtain ⟨b1, b2⟩ := Q2
    obtain ⟨c1, c2⟩ := Q3
    obtain ⟨d1, d2⟩ := Q4
    go_wp2_with fail
    refine ((C1 _).out).mono ?_
    rintro e w2 ⟨rfl, hb2⟩
    have Q1 := PtAt.below hb2 (by omega) ⟨a1, a2⟩
    have Q2 := PtAt.below hb2 (by omega) ⟨b1, b2⟩
    have Q3 := PtAt.below hb2 (by omega) ⟨c1, c2⟩
    have Q4 := PtAt.below hb2 (by omega) ⟨d1, d2⟩
    have hbw2 := hbw1.trans (hb2.mono hbw1.size)
    clear hb2 a1 a2 b1 b2 c1 c2 d1 d2
    cases x1
    · go_wp2
      go_ret
      exact ⟨ret_bool (by rw [H.out]; rfl), hbw2⟩
    · obtain ⟨a1, a2⟩ := Q1
      obtain ⟨b1, b2⟩ := Q2
      obtain ⟨c1, c2⟩ := Q3
      obtain ⟨d1, d2⟩ := Q4
      go_wp2_with fail
      refine ((C2 _).out).mono ?_
      rintro e w3 ⟨rfl, hb3⟩
      have hbw3 := hbw2.trans (hb3.mono hbw2.size)
      go_wp2
      go_ret
      exact ⟨ret_bool (by rw [H.out]; rfl), hbw3⟩
end Go.Proofs.Ytffjonpajjioaaa

/- Is a polygon simple? The reference's function. -/
namespace Go.Proofs.Ytffjonpajjioaaa
open Go.RowKit Go.Sort
attribute [local go_sem ↓] run_min_mn run_max_mx Go.wp_at_zero Go.wp_at_succ

theorem eq_pt (a b c d : Int) (w : World) : (Op.equalIn 10000 27 (.agg #[.int .i64 a, .int .i64 b]) (.agg #[.int .i64 c, .int .i64 d])).run Try.prog w = .ok (eqI a b c d) w := by
  have u3 := Try.underlying3
  have hS : Try.prog.underlying 27 = some (.struct (Try.prog.fieldsOf 27)) := by kernel_rfl
  have hp : Try.prog.stoodInHeld 27 = false := by kernel_rfl
  rw [show (10000 : Nat) = 9999 + 1 from rfl, run_equalIn_agg w 9999 _ _ _ hS hp]
  simp only [Program.fieldsOf, Try.underlying27]
  go_simp
  by_cases h1 : a = c <;> by_cases h2 : b = d <;> simp [eqI, h1, h2]
theorem guard_pt : Try.prog.eqGuardType Try.prog.depth 27 = false := by kernel_rfl

end Go.Proofs.Ytffjonpajjioaaa

/- Is a polygon simple? Package shape's function. -/
namespace Go.Proofs.Ytffjonpajjioaaa
open Go.RowKit Go.Sort
attribute [local go_sem ↓] run_min_mn run_max_mx Go.wp_at_zero Go.wp_at_succ

def backP (a b c : Pt) : Bool := backB a.1 a.2 b.1 b.2 c.1 c.2
def meet2P (a b c d : Pt) : Bool := meet2B a.1 a.2 b.1 b.2 c.1 c.2 d.1 d.2
def backAt (l : List Pt) (i : Nat) : Bool := backP (gt l i) (nx l i) (nx l (i + 1))
def hit2At (l : List Pt) (i j : Nat) : Bool := !(i - j == l.length - 1) && meet2P (gt l i) (nx l i) (gt l j) (nx l j)
def simple2At (l : List Pt) (i : Nat) : Bool := !(zeroAt l i || backAt l i) && (List.range l.length).all fun j => decide (i < j + 2) || !hit2At l i j
def simple2B (l : List Pt) : Bool := (List.range l.length).all (simple2At l)

theorem simple2B_no {l : List Pt} {k : Nat} (hk : k < l.length) (h : simple2At l k = false) : simple2B l = false := by
  unfold simple2B
  rw [List.all_eq_false]; exact ⟨k, List.mem_range.2 hk, by simp [h]⟩
theorem simple2At_bad {l : List Pt} {k : Nat} (h : (zeroAt l k || backAt l k) = true) : simple2At l k = false := by simp [simple2At, h]
theorem simple2At_hit {l : List Pt} {k j : Nat} (hj : j < l.length) (h2 : j + 2 ≤ k) (h : hit2At l k j = true) : simple2At l k = false := by
  have : ((List.range l.length).all fun j => decide (k < j + 2) || !hit2At l k j) = false := by
    rw [List.all_eq_false]; refine ⟨j, List.mem_range.2 hj, ?_⟩
    rw [h, decide_eq_false (by omega)]; decide
  unfold simple2At
  rw [this, Bool.and_false]
theorem simple2At_yes {l : List Pt} {k : Nat} (h1 : (zeroAt l k || backAt l k) = false) (h2 : ∀ j, j + 2 ≤ k → hit2At l k j = false) : simple2At l k = true := by
  unfold simple2At
  rw [h1, Bool.not_false, Bool.true_and, List.all_eq_true]
  intro j _
  by_cases e : k < j + 2
  · rw [decide_eq_true e]; rfl
  · rw [h2 j (by omega)]; simp

theorem edge_any1 (b off n c : Nat) (l : List Pt) (i : Nat) (w : World) (hl : l.length = n) (hn : 0 < n) (hn' : n ≤ 1000000) (hi : i ≤ 10000) (h : PtsIn w b off l) :
    Calls Try.prog 33 #[.slice (some ⟨b, off, none⟩) n c, .int .i64 ((i : Int) + 1)] w fun e w' =>
      e = .returned (.tuple #[.agg #[.int .i64 (gt l ((i + 1) % n)).1, .int .i64 (gt l ((i + 1) % n)).2], .agg #[.int .i64 (nx l (i + 1)).1, .int .i64 (nx l (i + 1)).2]]) ∧ Below w.heap.size w w' := by
  have := edge_any b off n c l (i + 1) w hl hn hn' (by omega) h
  rwa [Int.natCast_add i 1] at this

set_option maxRecDepth 100000 in
set_option maxHeartbeats 2000000 in
theorem isSimple_any (b off n c : Nat) (l : List Pt) (w : World) (hl : l.length = n) (hn : 2 < n) (hn' : n ≤ 100) (h : PtsIn w b off l) (hb : b < w.heap.size) (hok : l.all okP = true) :
    Calls Try.prog 35 #[.slice (some ⟨b, off, none⟩) n c] w fun e w' =>
      e = .returned (.bool (simple2B l)) ∧ Below w.heap.size w w' := by
  have HL := Lib.hid hl
  have HP := Lib.hid h
  have HOK := Lib.hid hok
  clear hl h hok
  go_enter Try.func35, Try.ntmps35
  go_wp2
  go_loopw [14] (fun i wr => ∃ k : Nat, k ≤ n ∧ i = .int .i64 k ∧ (∀ j, j < k → simple2At l j = true) ∧ Below w.heap.size w wr) (fun i _ => n - (intOf i).toNat)
  case atStart => exact ⟨0, Nat.zero_le _, rfl, by omega, Below.refl _ _⟩
  case round =>
    obtain ⟨k, hk, rfl, hz, hbw⟩ := hrel
    have HZ := Lib.hid hz
    clear hz
    by_cases hlt : k < n
    · have HPw : Hid (PtsIn wr b off l) := Lib.hid (HP.out.below hbw hb)
      have hB : b < wr.heap.size := Nat.lt_of_lt_of_le hb hbw.size
      have N := fun W hW => Lib.hid (edge_any b off n c l k W HL.out (by omega) (by omega) (by omega) (HPw.out.below (B := wr.heap.size) hW hB))
      rw [Nat.mod_eq_of_lt hlt] at N
      have N1 := fun W hW => Lib.hid (edge_any1 b off n c l k W HL.out (by omega) (by omega) (by omega) (HPw.out.below (B := wr.heap.size) hW hB))
      have NJ := fun (j : Nat) (hj : j < n) W hW => Lib.hid (edge_any b off n c l j W HL.out (by omega) (by omega) (by omega) (HPw.out.below (B := wr.heap.size) hW hB))
      have okr := okP_bd (getD_ok HOK.out ((k + 1) % n))
      rw [show l.getD ((k + 1) % n) (0, 0) = gt l ((k + 1) % n) from rfl] at okr
      have okp := okP_bd (getD_ok HOK.out k)
      rw [show l.getD k (0, 0) = gt l k from rfl] at okp
      have okq := okP_bd (nx_ok HOK.out k)
      have oks := okP_bd (nx_ok HOK.out (k + 1))
      have EZ : Hid (zeroAt l k = eqP (gt l k) (nx l k)) := Lib.hid rfl
      have EB : Hid (backAt l k = backP (gt l k) (nx l k) (nx l (k + 1))) := Lib.hid rfl
      have EH : Hid (∀ j, hit2At l k j = (!(k - j == l.length - 1) && meet2P (gt l k) (nx l k) (gt l j) (nx l j))) := Lib.hid fun _ => rfl
      generalize gt l ((k + 1) % n) = r at *
      generalize gt l k = p at *
      generalize nx l k = q at *
      generalize nx l (k + 1) = s at *
      obtain ⟨x, y⟩ := p
      obtain ⟨qx, qy⟩ := q
      obtain ⟨rx, ry⟩ := r
      obtain ⟨sx, sy⟩ := s
      have gp := guard_pt
      have ep := eq_pt x y qx qy
      have TB := fun W => Lib.hid (turnsBack_any x y qx qy sx sy W (by omega) (by omega) (by omega) (by omega) (by omega) (by omega))
      go_wp2_with fail
      refine ((N _ (Below.refl _ _)).out).mono ?_
      rintro e w1 ⟨rfl, hb1⟩
      go_wp2_with fail
      have B := boxed2 w1 x y qx qy
      generalize (w1.alloc (Go.Proofs.Ytffjonpajjioaaa.bx x y)).alloc (Go.Proofs.Ytffjonpajjioaaa.bx qx qy) = w2 at *
      obtain ⟨P1, P2, hb2, hz2⟩ := B
      have hbr2 := hb1.trans (hb2.mono hb1.size)
      generalize w1.heap.size = g at *
      have hg2 : g + 1 < w2.heap.size := by omega
      clear hb2 hz2 N
      refine ((N1 _ hbr2).out).mono ?_
      rintro e w3 ⟨rfl, hb3⟩
      replace P1 := PtAt.below hb3 (by omega) P1
      replace P2 := PtAt.below hb3 (by omega) P2
      have hbr3 := hbr2.trans (hb3.mono hbr2.size)
      have hg3 : g + 1 < w3.heap.size := by have := hb3.size; omega
      clear hb3 hbr2 hg2 N1
      have B := boxed2 w3 rx ry sx sy
      go_upto_region 6 with (fail)
      generalize (w3.alloc (Go.Proofs.Ytffjonpajjioaaa.bx rx ry)).alloc (Go.Proofs.Ytffjonpajjioaaa.bx sx sy) = w4 at *
      obtain ⟨-, P3, hb4, hz4⟩ := B
      replace P1 := PtAt.below hb4 (by omega) P1
      replace P2 := PtAt.below hb4 (by omega) P2
      have hbr4 := hbr3.trans (hb4.mono hbr3.size)
      have hg4 : g + 1 < w4.heap.size ∧ w3.heap.size + 1 < w4.heap.size := by omega
      clear hb4 hz4 hbr3 hg3
      generalize w3.heap.size = g3 at *
      have hbw4 := hbw.trans (hbr4.mono hbw.size)
      obtain ⟨p1, p2⟩ := P1
      obtain ⟨p3, p4⟩ := P2
      obtain ⟨p5, p6⟩ := P3
      cases he : eqI x y qx qy
      · go_wp2_with fail
        refine ((TB _).out).mono ?_
        rintro e w5 ⟨rfl, hb5⟩
        obtain ⟨p1, p2⟩ := PtAt.below hb5 (by omega) ⟨p1, p2⟩
        obtain ⟨p3, p4⟩ := PtAt.below hb5 (by omega) ⟨p3, p4⟩
        have hbr5 := hbr4.trans (hb5.mono hbr4.size)
        have hbw5 := hbw.trans (hbr5.mono hbw.size)
        have hg5 : g + 1 < w5.heap.size := by have := hb5.size; omega
        clear hb5 hbr4 hbw4 hg4 p5 p6 TB
        cases hk2 : backB x y qx qy sx sy
        · have hbad : (zeroAt l k || backAt l k) = false := by rw [EZ.out, EB.out]; unfold eqP backP; rw [he, hk2]; rfl
          have HBAD := Lib.hid hbad
          clear hbad
          obtain ⟨wo, rfl⟩ : ∃ wo : World, wo = wr := ⟨_, rfl⟩
          go_wp2_with fail
          go_loopw [41] (fun i wr => ∃ q : Nat, i = .int .i64 q ∧ (q = 0 ∨ q + 1 ≤ k) ∧ (∀ j, j < q → hit2At l k j = false) ∧ PtAt wr g x y ∧ PtAt wr (g + 1) qx qy ∧ Below wo.heap.size wo wr ∧ g + 1 < wr.heap.size) (fun i _ => n - (intOf i).toNat)
          case atStart => exact ⟨0, rfl, .inl rfl, by omega, ⟨p1, p2⟩, ⟨p3, p4⟩, hbr5, hg5⟩
          case round =>
            clear p1 p2 p3 p4 hbr5 hg5 hbw5
            obtain ⟨q, rfl, hq, hits, P1, P2, hbr, hg5⟩ := hrel
            have HI := Lib.hid hits
            clear hits
            by_cases hlq : q + 1 < k
            · have NQ := NJ q (by omega) _ hbr
              rw [Nat.mod_eq_of_lt (by omega)] at NQ
              have okc := okP_bd (getD_ok HOK.out q)
              rw [show l.getD q (0, 0) = gt l q from rfl] at okc
              have okd := okP_bd (nx_ok HOK.out q)
              have EQ := Lib.hid (EH.out q)
              generalize gt l q = c1 at *
              generalize nx l q = c2 at *
              obtain ⟨cx, cy⟩ := c1
              obtain ⟨dx, dy⟩ := c2
              have TM := fun W => Lib.hid (meetD_any x y qx qy cx cy dx dy W (by omega) (by omega) (by omega) (by omega) (by omega) (by omega) (by omega) (by omega))
              have hnb : ((((k : Int) - (q : Int)) == ((n : Int) - 1)) = (k - q == l.length - 1)) := by
                rw [HL.out, Bool.eq_iff_iff, beq_iff_eq, beq_iff_eq]; omega
              have HNB := Lib.hid hnb
              clear hnb
              go_wp2_with fail
              refine (NQ.out).mono ?_
              rintro e w6 ⟨rfl, hb6⟩
              replace P1 := PtAt.below hb6 (by omega) P1
              replace P2 := PtAt.below hb6 (by omega) P2
              have hbr6 := hbr.trans (hb6.mono hbr.size)
              have hg6 : g + 1 < w6.heap.size := by have := hb6.size; omega
              clear hb6 hbr hg5
              have B := boxed2 w6 cx cy dx dy
              go_upto_region 13 with (fail)
              generalize (w6.alloc (Go.Proofs.Ytffjonpajjioaaa.bx cx cy)).alloc (Go.Proofs.Ytffjonpajjioaaa.bx dx dy) = w7 at *
              obtain ⟨P3, P4, hb7, hz7⟩ := B
              replace P1 := PtAt.below hb7 (by omega) P1
              replace P2 := PtAt.below hb7 (by omega) P2
              have hbr7 := hbr6.trans (hb7.mono hbr6.size)
              have hg7 : g + 1 < w7.heap.size := by omega
              clear hb7 hz7 hbr6 hg6
              generalize w6.heap.size = g6 at *
              have hbw7 := hbw.trans (hbr7.mono hbw.size)
              obtain ⟨p1, p2⟩ := P1
              obtain ⟨p3, p4⟩ := P2
              obtain ⟨p5, p6⟩ := P3
              obtain ⟨p7, p8⟩ := P4
              cases hg : (((k : Int) - (q : Int)) == ((n : Int) - 1))
              · go_wp2_with fail
                refine ((TM _).out).mono ?_
                rintro e w8 ⟨rfl, hb8⟩
                have P1 := PtAt.below hb8 (by omega) ⟨p1, p2⟩
                have P2 := PtAt.below hb8 (by omega) ⟨p3, p4⟩
                have hbr8 := hbr7.trans (hb8.mono hbr7.size)
                have hbw8 := hbw.trans (hbr8.mono hbw.size)
                have hg8 : g + 1 < w8.heap.size := by have := hb8.size; omega
                clear hb8 hbr7 hbw7 hg7 p1 p2 p3 p4 p5 p6 p7 p8 TM
                cases hm : meet2B x y qx qy cx cy dx dy
                · have hno : hit2At l k q = false := by rw [EQ.out, ← HNB.out]; unfold meet2P; rw [hm]; simp
                  have HNO := Lib.hid hno
                  clear hno
                  go_wp2_with fail
                  go_roundw
                  case rel =>
                    refine ⟨q + 1, by go_num, .inr (by omega), fun j hj => ?_, P1, P2, hbr8, hg8⟩
                    rcases Nat.lt_or_eq_of_le (Nat.le_of_lt_succ hj) with h' | h'
                    · exact HI.out j h'
                    · rw [h']; exact HNO.out
                  case measure => simp [intOf]; omega
                · have hno : simple2B l = false := simple2B_no (by rw [HL.out]; exact hlt) (simple2At_hit (j := q) (by rw [HL.out]; omega) (by omega) (by rw [EQ.out, ← HNB.out]; unfold meet2P; rw [hm, hg]; rfl))
                  have HNO := Lib.hid hno
                  clear hno
                  go_wp2_with fail
                  go_ret
                  exact ⟨ret_bool HNO.out.symm, hbw8⟩
              · have hno : hit2At l k q = false := by rw [EQ.out, ← HNB.out, hg]; rfl
                have HNO := Lib.hid hno
                clear hno
                go_wp2_with fail
                go_roundw
                case rel =>
                  refine ⟨q + 1, by go_num, .inr (by omega), fun j hj => ?_, ⟨p1, p2⟩, ⟨p3, p4⟩, hbr7, hg7⟩
                  rcases Nat.lt_or_eq_of_le (Nat.le_of_lt_succ hj) with h' | h'
                  · exact HI.out j h'
                  · rw [h']; exact HNO.out
                case measure => simp [intOf]; omega
            · have hbw6 := hbw.trans (hbr.mono hbw.size)
              go_wp2_with fail
              go_roundw
              case rel =>
                refine ⟨k + 1, by omega, by go_num, fun j hj => ?_, hbw6⟩
                rcases Nat.lt_or_eq_of_le (Nat.le_of_lt_succ hj) with h' | h'
                · exact HZ.out j h'
                · rw [h']; exact simple2At_yes HBAD.out (fun j hj => HI.out j (by omega))
              case measure => simp [intOf]; omega
        · have hno : simple2B l = false := simple2B_no (by rw [HL.out]; exact hlt) (simple2At_bad (by rw [EZ.out, EB.out]; unfold eqP backP; rw [hk2]; simp))
          have HNO := Lib.hid hno
          clear hno
          go_wp2_with fail
          go_ret
          exact ⟨ret_bool HNO.out.symm, hbw5⟩
      · have hno : simple2B l = false := simple2B_no (by rw [HL.out]; exact hlt) (simple2At_bad (by rw [EZ.out]; unfold eqP; rw [he]; rfl))
        have HNO := Lib.hid hno
        clear hno
        go_wp2_with fail
        go_ret
        exact ⟨ret_bool HNO.out.symm, hbw4⟩
    · obtain rfl : k = n := by omega
      have HF : Hid (simple2B l = true) := Lib.hid (by
        unfold simple2B
        rw [List.all_eq_true]
        intro i hi
        exact HZ.out i (by have := List.mem_range.1 hi; rw [HL.out] at this; exact this))
      go_wp2_with fail
      go_ret
      exact ⟨ret_bool HF.out.symm, hbw⟩
end Go.Proofs.Ytffjonpajjioaaa

/- How package shape compares points. -/
namespace Go.Proofs.Ytffjonpajjioaaa
open Go.RowKit Go.Sort
attribute [local go_sem ↓] run_min_mn run_max_mx

def cmpI (x y : Int) : Int := if x < y then -1 else if y < x then 1 else 0
def orI (x y : Int) : Int := if x = 0 then y else x
def cmpP (ax ay bx by' : Int) : Int := orI (cmpI ay by') (cmpI ax bx)

theorem nan_any (x : Int) (w : World) : Calls Try.prog 71 #[.int .i64 x] w fun e w' => e = .returned (.bool false) ∧ w = w' := by
  go_enter Try.func71, Try.ntmps71
  go_wp2
  go_ret
  exact ⟨rfl, rfl⟩

theorem cmpI_any (x y : Int) (w : World) : Calls Try.prog 58 #[.int .i64 x, .int .i64 y] w fun e w' => e = .returned (.int .i64 (cmpI x y)) ∧ w = w' := by
  go_enter Try.func58, Try.ntmps58
  go_wp2_with (go_at_call 71; refine (nan_any _ _).mono ?_; rintro e w' ⟨rfl, rfl⟩)
  · rename_i h
    go_ret
    exact ⟨ret_int (by rw [cmpI, if_pos h]), rfl⟩
  · rename_i h h'
    go_ret
    exact ⟨ret_int (by rw [cmpI, if_neg (by omega), if_pos (by omega)]), rfl⟩
  · rename_i h h'
    go_ret
    exact ⟨ret_int (by rw [cmpI, if_neg (by omega), if_neg (by omega)]), rfl⟩

theorem or_any (g : Nat) (u v : Int) (w : World) (h0 : w.cell? ⟨g, 0, none⟩ = some (.int .i64 u)) (h1 : w.cell? ⟨g, 1, none⟩ = some (.int .i64 v)) :
    Calls Try.prog 57 #[.slice (some ⟨g, 0, none⟩) 2 2] w fun e w' => e = .returned (.int .i64 (orI u v)) ∧ w = w' := by
  by_cases hu : u = 0
  · subst hu
    by_cases hv : v = 0
    · subst hv
      go_enter Try.func57, Try.ntmps57
      go_wp2
      refine wp_loop_rounds 3 ?_; rw [rounds_succ]
      go_wp2
      rw [rounds_succ]
      go_wp2
      try (rw [rounds_succ]; go_wp2)
      go_ret
      exact ⟨ret_int rfl, rfl⟩
    · have hv' : (v != 0) = true := by simpa using hv
      clear hv
      go_enter Try.func57, Try.ntmps57
      go_wp2
      refine wp_loop_rounds 3 ?_; rw [rounds_succ]
      go_wp2
      rw [rounds_succ]
      go_wp2
      try (rw [rounds_succ]; go_wp2)
      go_ret
      exact ⟨ret_int rfl, rfl⟩
  · have hu' : (u != 0) = true := by simpa using hu
    have H : Hid (orI u v = u) := Lib.hid (by rw [orI, if_neg hu])
    clear hu
    go_enter Try.func57, Try.ntmps57
    go_wp2
    refine wp_loop_rounds 2 ?_; rw [rounds_succ]
    go_wp2
    go_ret
    exact ⟨ret_int H.out.symm, rfl⟩

set_option maxRecDepth 100000 in
set_option maxHeartbeats 1000000 in
theorem compare_any (ax ay bx by' : Int) (w : World) :
    Calls Try.prog 44 #[.agg #[.int .i64 ax, .int .i64 ay], .agg #[.int .i64 bx, .int .i64 by']] w fun e w' =>
      e = .returned (.int .i64 (cmpP ax ay bx by')) ∧ Below w.heap.size w w' := by
  have C1 := fun W => Lib.hid ((cmpI_any ay by' W).mono fun _ _ h => And.intro h.1 h.2.symm)
  have C2 := fun W => Lib.hid ((cmpI_any ax bx W).mono fun _ _ h => And.intro h.1 h.2.symm)
  have H : Hid (cmpP ax ay bx by' = orI (cmpI ay by') (cmpI ax bx)) := Lib.hid rfl
  generalize cmpI ay by' = u at *
  generalize cmpI ax bx = v at *
  generalize cmpP ax ay bx by' = r at *
  go_enter Try.func44, Try.ntmps44
  go_wp2_with fail
  have B := boxed2 w ax ay bx by'
  generalize ((w.alloc (Go.Proofs.Ytffjonpajjioaaa.bx ax ay)).alloc (Go.Proofs.Ytffjonpajjioaaa.bx bx by')) = W0 at *
  obtain ⟨⟨a1, a2⟩, ⟨b1, b2⟩, hb, hz⟩ := B
  have HB := Lib.hid hb
  have hz' := hb.size
  clear hb hz
  refine wp_region_still_tail 10 (by kernel_rfl) (by kernel_rfl) ?_
  simp only [List.take_succ_cons, List.take_zero, List.drop_succ_cons, List.drop_zero]
  change wpStill _ _ W0.drew _ _ _
  replace a1 : W0.drew.cell? _ = _ := a1
  replace a2 : W0.drew.cell? _ = _ := a2
  replace b1 : W0.drew.cell? _ = _ := b1
  replace b2 : W0.drew.cell? _ = _ := b2
  iterate 4 still_step
  still_call (C1 _).out
  iterate 4 still_step
  still_call (C2 _).out
  refine wpStill_nil ?_
  change wpList _ _ _ _ _ W0.drew
  go_wp2_with fail
  refine (or_any _ u v _ (by go_simp) (by go_simp)).mono ?_
  rintro e w' ⟨rfl, rfl⟩
  go_wp2
  go_ret
  exact ⟨ret_int H.out.symm, HB.out.drew.alloc (by simpa using hz') _⟩

end Go.Proofs.Ytffjonpajjioaaa

/- Is a polygon convex in normal form? Package shape's function. -/
namespace Go.Proofs.Ytffjonpajjioaaa
open Go.RowKit Go.Sort
attribute [local go_sem ↓] run_min_mn run_max_mx Go.wp_at_zero Go.wp_at_succ

def cmpQ (a b : Pt) : Int := cmpP a.1 a.2 b.1 b.2
def convex2At (l : List Pt) (i : Nat) : Bool := !(decide (crossP (gt l i) (nx l i) (nx l (i + 1)) ≤ 0) || decide (cmpQ (gt l i) (gt l 0) < 0))
def convex2B (l : List Pt) : Bool := (List.range l.length).all (convex2At l) && simple2B l
theorem convex2B_no {l : List Pt} {k : Nat} (hk : k < l.length) (h : convex2At l k = false) : convex2B l = false := by
  have : (List.range l.length).all (convex2At l) = false := by
    rw [List.all_eq_false]; exact ⟨k, List.mem_range.2 hk, by simp [h]⟩
  simp [convex2B, this]

set_option maxRecDepth 100000 in
set_option maxHeartbeats 2000000 in
theorem isConvex_any (b off n c : Nat) (l : List Pt) (w : World) (hl : l.length = n) (hn : 2 < n) (hn' : n ≤ 100) (h : PtsIn w b off l) (hb : b < w.heap.size) (hok : l.all okP = true) :
    Calls Try.prog 28 #[.slice (some ⟨b, off, none⟩) n c] w fun e w' =>
      e = .returned (.bool (convex2B l)) ∧ Below w.heap.size w w' := by
  have HL := Lib.hid hl
  have HP := Lib.hid h
  have HOK := Lib.hid hok
  have S := fun W hW => Lib.hid (isSimple_any b off n c l W hl hn hn' (h.below (B := w.heap.size) hW hb) (Nat.lt_of_lt_of_le hb hW.size) hok)
  clear hl h hok
  go_enter Try.func28, Try.ntmps28
  go_wp2
  go_loopw [10] (fun i wr => ∃ k : Nat, k ≤ n ∧ i = .int .i64 k ∧ (∀ j, j < k → convex2At l j = true) ∧ Below w.heap.size w wr) (fun i _ => n - (intOf i).toNat)
  case atStart => exact ⟨0, Nat.zero_le _, rfl, by omega, Below.refl _ _⟩
  case round =>
    obtain ⟨k, hk, rfl, hz, hbw⟩ := hrel
    have HZ := Lib.hid hz
    clear hz
    by_cases hlt : k < n
    · have HPw : Hid (PtsIn wr b off l) := Lib.hid (HP.out.below hbw hb)
      have hB : b < wr.heap.size := Nat.lt_of_lt_of_le hb hbw.size
      have N := fun W hW => Lib.hid (edge_any b off n c l k W HL.out (by omega) (by omega) (by omega) (HPw.out.below (B := wr.heap.size) hW hB))
      rw [Nat.mod_eq_of_lt hlt] at N
      have N1 := fun W hW => Lib.hid (edge_any1 b off n c l k W HL.out (by omega) (by omega) (by omega) (HPw.out.below (B := wr.heap.size) hW hB))
      obtain ⟨q0, hq0⟩ : ∃ p, l[0]? = some p := ⟨l[0]'(by rw [HL.out]; omega), List.getElem?_eq_getElem _⟩
      have hqx0 : gt l 0 = q0 := by unfold gt; rw [List.getD_eq_getElem?_getD, hq0]; rfl
      have okp := okP_bd (getD_ok HOK.out k)
      rw [show l.getD k (0, 0) = gt l k from rfl] at okp
      have okq := okP_bd (nx_ok HOK.out k)
      have oks := okP_bd (nx_ok HOK.out (k + 1))
      obtain ⟨z1, z2⟩ := HPw.out 0 q0 hq0
      simp only [Nat.zero_mul, Nat.add_zero] at z1 z2
      have E1 : Hid (convex2At l k = !(decide (crossP (gt l k) (nx l k) (nx l (k + 1)) ≤ 0) || decide (cmpQ (gt l k) q0 < 0))) := Lib.hid (by rw [← hqx0]; rfl)
      clear hq0 hqx0
      generalize gt l ((k + 1) % n) = r at *
      generalize gt l k = p at *
      generalize nx l k = q at *
      generalize nx l (k + 1) = s at *
      obtain ⟨x, y⟩ := p
      obtain ⟨qx, qy⟩ := q
      obtain ⟨rx, ry⟩ := r
      obtain ⟨sx, sy⟩ := s
      obtain ⟨zx, zy⟩ := q0
      have TU := fun W => Lib.hid (turn_any x y qx qy sx sy W (by omega) (by omega) (by omega) (by omega) (by omega) (by omega))
      have TC := fun W => Lib.hid (compare_any x y zx zy W)
      clear okp okq oks
      go_wp2_with fail
      refine ((N _ (Below.refl _ _)).out).mono ?_
      rintro e w1 ⟨rfl, hb1⟩
      go_wp2_with fail
      have B := boxed2 w1 x y qx qy
      generalize (w1.alloc (Go.Proofs.Ytffjonpajjioaaa.bx x y)).alloc (Go.Proofs.Ytffjonpajjioaaa.bx qx qy) = w2 at *
      obtain ⟨P1, P2, hb2, hz2⟩ := B
      have hbr2 := hb1.trans (hb2.mono hb1.size)
      generalize w1.heap.size = g at *
      have hg2 : g + 1 < w2.heap.size := by omega
      clear hb2 hz2 N
      refine ((N1 _ hbr2).out).mono ?_
      rintro e w3 ⟨rfl, hb3⟩
      replace P1 := PtAt.below hb3 (by omega) P1
      replace P2 := PtAt.below hb3 (by omega) P2
      have hbr3 := hbr2.trans (hb3.mono hbr2.size)
      have hg3 : g + 1 < w3.heap.size := by have := hb3.size; omega
      clear hb3 hbr2 hg2 N1
      have B := boxed2 w3 rx ry sx sy
      go_upto_region 6 with (fail)
      generalize (w3.alloc (Go.Proofs.Ytffjonpajjioaaa.bx rx ry)).alloc (Go.Proofs.Ytffjonpajjioaaa.bx sx sy) = w4 at *
      obtain ⟨-, P3, hb4, hz4⟩ := B
      replace P1 := PtAt.below hb4 (by omega) P1
      replace P2 := PtAt.below hb4 (by omega) P2
      have hbr4 := hbr3.trans (hb4.mono hbr3.size)
      replace z1 := (hbr4.cell (p := ⟨b, _, none⟩) hB).trans z1
      replace z2 := (hbr4.cell (p := ⟨b, _, none⟩) hB).trans z2
      clear hb4 hz4 hbr3 hg3
      generalize w3.heap.size = g3 at *
      have hbw4 := hbw.trans (hbr4.mono hbw.size)
      obtain ⟨p1, p2⟩ := P1
      obtain ⟨p3, p4⟩ := P2
      obtain ⟨p5, p6⟩ := P3
      have K1 := fun d os => Lib.hid (Calls.regrown_of ((TU (grow (redrawn w4 d) os)).out))
      have K2 := fun d os => Lib.hid (Calls.regrown_of ((TC (grow (redrawn w4 d) os)).out))
      have t1 := cell_regrown p1
      have t2 := cell_regrown p2
      have t3 := cell_regrown p3
      have t4 := cell_regrown p4
      have t5 := cell_regrown p5
      have t6 := cell_regrown p6
      have t7 := cell_regrown z1
      have t8 := cell_regrown z2
      clear p1 p2 p3 p4 p5 p6 z1 z2 TU TC
      have E1' : Hid (convex2At l k = !(decide (cross x y qx qy sx sy ≤ 0) || decide (cmpP x y zx zy < 0))) := E1
      clear E1
      generalize cross x y qx qy sx sy = u at *
      generalize cmpP x y zx zy = v at *
      cases g1 : decide (u ≤ 0)
      · cases g2 : decide (v < 0)
        · have hyes : convex2At l k = true := by rw [E1'.out, g1, g2]; rfl
          have HY := Lib.hid hyes
          clear hyes
          refine wp_region_quiet_below (by kernel_rfl) (by kernel_rfl) ?_
          repeat (go_big_quiet_step (first | (with_reducible exact (K1 _ _).out) | (with_reducible exact (K2 _ _).out)))
          refine wpQuiet_nil ?_
          intro _ hw'
          obtain ⟨⟨dq, osq⟩, hw''⟩ := hw'
          subst hw''
          go_wp2_with fail
          go_roundw
          case rel => exact ⟨k + 1, by omega, by go_num, fun j hj => by
            rcases Nat.lt_or_eq_of_le (Nat.le_of_lt_succ hj) with h' | h'
            · exact HZ.out j h'
            · rw [h']; exact HY.out, hbw4.trans ((below_regrown w4 dq osq).mono hbw4.size)⟩
          case measure => simp [intOf]; omega
        · have hno : convex2B l = false := convex2B_no (by rw [HL.out]; exact hlt) (by rw [E1'.out, g2]; simp)
          have HNO := Lib.hid hno
          clear hno
          refine wp_region_quiet_below (by kernel_rfl) (by kernel_rfl) ?_
          repeat (go_big_quiet_step (first | (with_reducible exact (K1 _ _).out) | (with_reducible exact (K2 _ _).out)))
          refine wpQuiet_nil ?_
          intro _ hw'
          obtain ⟨⟨dq, osq⟩, hw''⟩ := hw'
          subst hw''
          go_wp2_with fail
          go_ret
          exact ⟨ret_bool HNO.out.symm, hbw4.trans ((below_regrown w4 dq osq).mono hbw4.size)⟩
      · have hno : convex2B l = false := convex2B_no (by rw [HL.out]; exact hlt) (by rw [E1'.out, g1]; simp)
        have HNO := Lib.hid hno
        clear hno
        refine wp_region_quiet_below (by kernel_rfl) (by kernel_rfl) ?_
        repeat (go_big_quiet_step (first | (with_reducible exact (K1 _ _).out) | (with_reducible exact (K2 _ _).out)))
        refine wpQuiet_nil ?_
        intro _ hw'
        obtain ⟨⟨dq, osq⟩, hw''⟩ := hw'
        subst hw''
        go_wp2_with fail
        go_ret
        exact ⟨ret_bool HNO.out.symm, hbw4.trans ((below_regrown w4 dq osq).mono hbw4.size)⟩
    · obtain rfl : k = n := by omega
      have HF : Hid (convex2B l = simple2B l) := Lib.hid (by
        unfold convex2B
        have : (List.range l.length).all (convex2At l) = true := by
          rw [List.all_eq_true]
          intro i hi
          exact HZ.out i (by have := List.mem_range.1 hi; rw [HL.out] at this; exact this)
        rw [this, Bool.true_and])
      go_wp2_with fail
      refine ((S _ hbw).out).mono ?_
      rintro e w1 ⟨rfl, hb1⟩
      go_wp2_with fail
      go_ret
      exact ⟨ret_bool HF.out.symm, hbw.trans (hb1.mono hbw.size)⟩
end Go.Proofs.Ytffjonpajjioaaa
