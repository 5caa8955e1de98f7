/- Plain functions on points and lists of points, as chapter 4's reference computes them. -/
namespace Go.Proofs.Ytnijcdphmibjaaa

abbrev Pt := Int × Int

def inB (v lo hi : Int) : Bool := decide (lo ≤ v) && decide (v ≤ hi)
def validB (x y lim : Int) : Bool := inB x (-lim) lim && inB y (-lim) lim
def cross (ax ay bx by' cx cy : Int) : Int := (bx - ax) * (cy - ay) - (cx - ax) * (by' - ay)
def sgn (v : Int) : Int := if 0 < v then 1 else if v < 0 then -1 else 0
def mn (x y : Int) : Int := if y < x then y else x
def mx (x y : Int) : Int := if x < y then y else x
def onB (ax ay bx by' px py : Int) : Bool :=
  (cross ax ay bx by' px py == 0) && inB px (mn ax bx) (mx ax bx) && inB py (mn ay by') (mx ay by')
def meetB (ax ay bx by' cx cy dx dy : Int) : Bool :=
  (onB ax ay bx by' cx cy || onB ax ay bx by' dx dy || onB cx cy dx dy ax ay || onB cx cy dx dy bx by') ||
  (decide (sgn (cross ax ay bx by' cx cy) * sgn (cross ax ay bx by' dx dy) < 0) && decide (sgn (cross cx cy dx dy ax ay) * sgn (cross cx cy dx dy bx by') < 0))
def firstB (ax ay bx by' : Int) : Bool := decide (ay < by') || (ay == by' && decide (ax < bx))

/-- Polygons: a list of points. -/
def nx (l : List Pt) (i : Nat) : Pt := l.getD ((i + 1) % l.length) (0, 0)
def okP (p : Pt) : Bool := validB p.1 p.2 10000
def polyB (l : List Pt) : Bool := l.all okP && inB l.length 3 32

/-- The sum over the edges, up to the k-th. -/
def area2To (l : List Pt) : Nat → Int
  | 0 => 0
  | k + 1 => area2To l k + ((l.getD k (0, 0)).1 * (nx l k).2 - (nx l k).1 * (l.getD k (0, 0)).2)
def area2 (l : List Pt) : Int := area2To l l.length

/-- Simple polygons, as the reference finds them. -/
def gt (l : List Pt) (i : Nat) : Pt := l.getD i (0, 0)
def onP (a b p : Pt) : Bool := onB a.1 a.2 b.1 b.2 p.1 p.2
def meetP (a b c d : Pt) : Bool := meetB a.1 a.2 b.1 b.2 c.1 c.2 d.1 d.2
def eqI (x y x' y' : Int) : Bool := x == x' && y == y'
def eqP (a b : Pt) : Bool := eqI a.1 a.2 b.1 b.2
def zeroAt (l : List Pt) (i : Nat) : Bool := eqP (gt l i) (nx l i)
def foldAt (l : List Pt) (i : Nat) : Bool := onP (gt l i) (nx l i) (nx l (i + 1)) || onP (nx l i) (nx l (i + 1)) (gt l i)
def hitAt (l : List Pt) (i k : Nat) : Bool := !((k + 1) % l.length == i) && meetP (gt l i) (nx l i) (gt l k) (nx l k)
def simpleB (l : List Pt) : Bool :=
  (List.range l.length).all (fun i => !zeroAt l i) &&
    (List.range l.length).all (fun i => !foldAt l i && (List.range l.length).all fun k => decide (k < i + 2) || !hitAt l i k)

def crossP (a b c : Pt) : Int := cross a.1 a.2 b.1 b.2 c.1 c.2
def firstP (a b : Pt) : Bool := firstB a.1 a.2 b.1 b.2
def convexAt (l : List Pt) (i : Nat) : Bool := !decide (crossP (gt l i) (nx l i) (nx l (i + 1)) ≤ 0) && (i == 0 || firstP (gt l 0) (gt l i))
def convexB (l : List Pt) : Bool := simpleB l && (List.range l.length).all (convexAt l)

theorem inB_true {v lo hi : Int} : inB v lo hi = true ↔ lo ≤ v ∧ v ≤ hi := by simp [inB]
theorem inB_false {v lo hi : Int} : inB v lo hi = false ↔ v < lo ∨ hi < v := by
  simp [inB]; omega

/-- A product of two numbers of at most K. -/
theorem mul_le_of_abs {a b K L : Int} (ha : -K ≤ a ∧ a ≤ K) (hb : -L ≤ b ∧ b ≤ L) : -(K * L) ≤ a * b ∧ a * b ≤ K * L := by
  obtain ⟨a1, a2⟩ := ha
  obtain ⟨b1, b2⟩ := hb
  have hL : 0 ≤ L := by omega
  have h1 : 0 ≤ (K - a) * (L + b) := Int.mul_nonneg (by omega) (by omega)
  have h2 : 0 ≤ (K + a) * (L - b) := Int.mul_nonneg (by omega) (by omega)
  have h3 : 0 ≤ (K - a) * (L - b) := Int.mul_nonneg (by omega) (by omega)
  have h4 : 0 ≤ (K + a) * (L + b) := Int.mul_nonneg (by omega) (by omega)
  have e1 : (K - a) * (L + b) = K * L + K * b - a * L - a * b := by
    rw [Int.sub_mul, Int.mul_add, Int.mul_add]; omega
  have e2 : (K + a) * (L - b) = K * L - K * b + a * L - a * b := by
    rw [Int.add_mul, Int.mul_sub, Int.mul_sub]; omega
  have e3 : (K - a) * (L - b) = K * L - K * b - a * L + a * b := by
    rw [Int.sub_mul, Int.mul_sub, Int.mul_sub]; omega
  have e4 : (K + a) * (L + b) = K * L + K * b + a * L + a * b := by
    rw [Int.add_mul, Int.mul_add, Int.mul_add]; omega
  omega

theorem sgn_bd (v : Int) : -1 ≤ sgn v ∧ sgn v ≤ 1 := by
  unfold sgn; split
  · omega
  · split <;> omega

theorem okP_bd {p : Pt} (h : okP p = true) : (-10000 ≤ p.1 ∧ p.1 ≤ 10000) ∧ (-10000 ≤ p.2 ∧ p.2 ≤ 10000) := by
  simpa [okP, validB, inB] using h
theorem getD_ok {l : List Pt} (h : l.all okP = true) (i : Nat) : okP (l.getD i (0, 0)) = true := by
  rw [List.getD_eq_getElem?_getD]
  cases e : l[i]? with
  | none => rfl
  | some p => exact List.all_eq_true.1 h p (List.mem_of_getElem? e)
theorem nx_ok {l : List Pt} (h : l.all okP = true) (i : Nat) : okP (nx l i) = true := getD_ok h _
theorem term_bd {p q : Pt} (hp : okP p = true) (hq : okP q = true) : -200000000 ≤ p.1 * q.2 - q.1 * p.2 ∧ p.1 * q.2 - q.1 * p.2 ≤ 200000000 := by
  obtain ⟨p1, p2⟩ := okP_bd hp
  obtain ⟨q1, q2⟩ := okP_bd hq
  have a := mul_le_of_abs p1 q2
  have b := mul_le_of_abs q1 p2
  omega
theorem area2To_bd {l : List Pt} (h : l.all okP = true) : ∀ k : Nat, -(200000000 * (k : Int)) ≤ area2To l k ∧ area2To l k ≤ 200000000 * (k : Int)
  | 0 => by simp [area2To]
  | k + 1 => by
    have ih := area2To_bd h k
    have t := term_bd (getD_ok h k) (nx_ok h k)
    simp only [area2To]
    omega

theorem simpleB_zero {l : List Pt} {k : Nat} (hk : k < l.length) (h : zeroAt l k = true) : simpleB l = false := by
  have : (List.range l.length).all (fun i => !zeroAt l i) = false := by
    rw [List.all_eq_false]; exact ⟨k, List.mem_range.2 hk, by simp [h]⟩
  simp [simpleB, this]
theorem simpleB_fold {l : List Pt} {k : Nat} (hk : k < l.length) (h : foldAt l k = true) : simpleB l = false := by
  have : (List.range l.length).all (fun i => !foldAt l i && (List.range l.length).all fun k => decide (k < i + 2) || !hitAt l i k) = false := by
    rw [List.all_eq_false]; exact ⟨k, List.mem_range.2 hk, by simp [h]⟩
  simp only [simpleB, this, Bool.and_false]
theorem simpleB_hit {l : List Pt} {i k : Nat} (hi : i < l.length) (hk : k < l.length) (h2 : i + 2 ≤ k) (h : hitAt l i k = true) : simpleB l = false := by
  have : (List.range l.length).all (fun i => !foldAt l i && (List.range l.length).all fun k => decide (k < i + 2) || !hitAt l i k) = false := by
    rw [List.all_eq_false]; refine ⟨i, List.mem_range.2 hi, ?_⟩
    have : ((List.range l.length).all fun k => decide (k < i + 2) || !hitAt l i k) = false := by
      rw [List.all_eq_false]; refine ⟨k, List.mem_range.2 hk, ?_⟩
      rw [h, decide_eq_false (by omega)]; decide
    rw [this]; simp
  simp only [simpleB, this, Bool.and_false]
theorem simpleB_yes {l : List Pt} (h1 : ∀ j, j < l.length → zeroAt l j = false) (h2 : ∀ j, j < l.length → foldAt l j = false ∧ ∀ k, j + 2 ≤ k → k < l.length → hitAt l j k = false) : simpleB l = true := by
  unfold simpleB
  rw [Bool.and_eq_true, List.all_eq_true, List.all_eq_true]
  refine ⟨fun i hi => by rw [h1 i (List.mem_range.1 hi)]; rfl, fun i hi => ?_⟩
  obtain ⟨f, g⟩ := h2 i (List.mem_range.1 hi)
  rw [f, Bool.not_false, Bool.true_and, List.all_eq_true]
  intro k hk
  by_cases e : k < i + 2
  · rw [decide_eq_true e]; rfl
  · rw [g k (by omega) (List.mem_range.1 hk)]; simp

theorem convexB_no {l : List Pt} {k : Nat} (hk : k < l.length) (h : convexAt l k = false) : convexB l = false := by
  have : (List.range l.length).all (convexAt l) = false := by
    rw [List.all_eq_false]; exact ⟨k, List.mem_range.2 hk, by simp [h]⟩
  simp [convexB, this]
theorem convexB_yes {l : List Pt} (h0 : simpleB l = true) (h : ∀ j, j < l.length → convexAt l j = true) : convexB l = true := by
  unfold convexB
  rw [h0, Bool.true_and, List.all_eq_true]
  exact fun i hi => h i (List.mem_range.1 hi)

end Go.Proofs.Ytnijcdphmibjaaa
