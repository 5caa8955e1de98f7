/- Small words about worlds, used by all walks. -/
import Derived.Below
import Derived.Calls
import Derived.WalkKit
import Derived.Test.YtnijcdphmibjaaaPure
namespace Go.Proofs.Ytnijcdphmibjaaa
open Go.RowKit

/-- Old cells and old marks read as before. -/
theorem old_cells {W w1 : World} (hb : Below W.heap.size W w1) :
    (∀ b o, b < W.heap.size → w1.cell? ⟨b, o, none⟩ = W.cell? ⟨b, o, none⟩) ∧ (∀ b o, b < W.heap.size → w1.frozen? ⟨b, o, none⟩ = W.frozen? ⟨b, o, none⟩) :=
  ⟨fun b o h => hb.cell (p := ⟨b, o, none⟩) h, fun b o h => hb.frozen (p := ⟨b, o, none⟩) h⟩

theorem ret_bool {a b : Bool} (h : a = b) : Ending.returned (.bool a) = .returned (.bool b) := by rw [h]
theorem ret_int {k : IntKind} {a b : Int} (h : a = b) : Ending.returned (.int k a) = .returned (.int k b) := by rw [h]

theorem run_min_mn {P : Program} {w : World} (ts : Array TypeId) (t : TypeId) (k k' : IntKind) (x y : Int) :
    (Builtin.min_ ts t #[.int k x, .int k' y]).run P w = .ok (.int k (mn x y)) w := run_min_int2 (P := P) (w := w) ts t k k' x y
theorem run_max_mx {P : Program} {w : World} (ts : Array TypeId) (t : TypeId) (k k' : IntKind) (x y : Int) :
    (Builtin.max_ ts t #[.int k x, .int k' y]).run P w = .ok (.int k (mx x y)) w := run_max_int2 (P := P) (w := w) ts t k k' x y

/-- A point lies at the head of a block. -/
def PtAt (w : World) (b : Nat) (x y : Int) : Prop := w.cell? ⟨b, 0, none⟩ = some (.int .i64 x) ∧ w.cell? ⟨b, 1, none⟩ = some (.int .i64 y)
theorem PtAt.below {w w1 : World} {B b : Nat} {x y : Int} (hb : Below B w w1) (h : b < B) (p : PtAt w b x y) : PtAt w1 b x y :=
  ⟨(hb.cell (p := ⟨b, 0, none⟩) h).trans p.1, (hb.cell (p := ⟨b, 1, none⟩) h).trans p.2⟩
theorem PtAt.drew {w : World} {b : Nat} {x y : Int} (p : PtAt w b x y) : PtAt w.drew b x y := p
theorem PtAt.alloc {w : World} {b : Nat} {x y : Int} (o : Obj) (h : b < w.heap.size) (p : PtAt w b x y) : PtAt (w.alloc o) b x y :=
  ⟨(World.cell?_alloc_lt w o ⟨b, 0, none⟩ h).trans p.1, (World.cell?_alloc_lt w o ⟨b, 1, none⟩ h).trans p.2⟩

/-- Four points stay behind a call that only makes new blocks. -/
theorem keep_four {w4 W w' : World} {n : Nat} {a1 a2 b1 b2 c1 c2 d1 d2 : Value} (h4 : n + 1 + 1 + 1 < w4.heap.size)
    (p : Below w4.heap.size w4 W ∧ W.cell? ⟨n, 0, none⟩ = some a1 ∧ W.cell? ⟨n, 1, none⟩ = some a2 ∧ W.cell? ⟨n + 1, 0, none⟩ = some b1 ∧ W.cell? ⟨n + 1, 1, none⟩ = some b2 ∧
      W.cell? ⟨n + 1 + 1, 0, none⟩ = some c1 ∧ W.cell? ⟨n + 1 + 1, 1, none⟩ = some c2 ∧ W.cell? ⟨n + 1 + 1 + 1, 0, none⟩ = some d1 ∧ W.cell? ⟨n + 1 + 1 + 1, 1, none⟩ = some d2)
    (hb : Below W.heap.size W w') :
    Below w4.heap.size w4 w' ∧ w'.cell? ⟨n, 0, none⟩ = some a1 ∧ w'.cell? ⟨n, 1, none⟩ = some a2 ∧ w'.cell? ⟨n + 1, 0, none⟩ = some b1 ∧ w'.cell? ⟨n + 1, 1, none⟩ = some b2 ∧
      w'.cell? ⟨n + 1 + 1, 0, none⟩ = some c1 ∧ w'.cell? ⟨n + 1 + 1, 1, none⟩ = some c2 ∧ w'.cell? ⟨n + 1 + 1 + 1, 0, none⟩ = some d1 ∧ w'.cell? ⟨n + 1 + 1 + 1, 1, none⟩ = some d2 := by
  obtain ⟨p0, p1, p2, p3, p4, p5, p6, p7, p8⟩ := p
  have hs := p0.size
  exact ⟨p0.trans (hb.mono hs), (hb.cell (p := ⟨_, _, none⟩) (by show n < _; omega)).trans p1, (hb.cell (p := ⟨_, _, none⟩) (by show n < _; omega)).trans p2, (hb.cell (p := ⟨_, _, none⟩) (by show n + 1 < _; omega)).trans p3, (hb.cell (p := ⟨_, _, none⟩) (by show n + 1 < _; omega)).trans p4,
    (hb.cell (p := ⟨_, _, none⟩) (by show n + 1 + 1 < _; omega)).trans p5, (hb.cell (p := ⟨_, _, none⟩) (by show n + 1 + 1 < _; omega)).trans p6, (hb.cell (p := ⟨_, _, none⟩) (by show n + 1 + 1 + 1 < _; omega)).trans p7, (hb.cell (p := ⟨_, _, none⟩) (by show n + 1 + 1 + 1 < _; omega)).trans p8⟩

section
variable {wr W w' : World} {N b : Nat} {o1 o2 : Nat} {v1 v2 : Value}
/-- Two cells of an old block stay: behind a call that only makes new blocks, behind a new block, behind a store into a new block. -/
theorem keep_call (p : Below wr.heap.size wr W ∧ W.cell? ⟨b, o1, none⟩ = some v1 ∧ W.cell? ⟨b, o2, none⟩ = some v2) (hB : b < wr.heap.size) (hb : Below W.heap.size W w') :
    Below wr.heap.size wr w' ∧ w'.cell? ⟨b, o1, none⟩ = some v1 ∧ w'.cell? ⟨b, o2, none⟩ = some v2 :=
  have hs := p.1.size
  ⟨p.1.trans (hb.mono hs), (hb.cell (p := ⟨b, _, none⟩) (Nat.lt_of_lt_of_le hB hs)).trans p.2.1, (hb.cell (p := ⟨b, _, none⟩) (Nat.lt_of_lt_of_le hB hs)).trans p.2.2⟩
theorem keep_alloc (p : Below wr.heap.size wr W ∧ W.cell? ⟨b, o1, none⟩ = some v1 ∧ W.cell? ⟨b, o2, none⟩ = some v2) (hB : b < wr.heap.size) (o : Obj) :
    Below wr.heap.size wr (W.alloc o) ∧ (W.alloc o).cell? ⟨b, o1, none⟩ = some v1 ∧ (W.alloc o).cell? ⟨b, o2, none⟩ = some v2 :=
  keep_call p hB ((Below.refl _ _).alloc (Nat.le_refl _) o)
theorem keep_drew (p : Below wr.heap.size wr W ∧ W.cell? ⟨b, o1, none⟩ = some v1 ∧ W.cell? ⟨b, o2, none⟩ = some v2) :
    Below wr.heap.size wr W.drew ∧ W.drew.cell? ⟨b, o1, none⟩ = some v1 ∧ W.drew.cell? ⟨b, o2, none⟩ = some v2 :=
  ⟨p.1.drew, p.2.1, p.2.2⟩
theorem keep_set (p : Below wr.heap.size wr W ∧ W.cell? ⟨b, o1, none⟩ = some v1 ∧ W.cell? ⟨b, o2, none⟩ = some v2) (hB : b < wr.heap.size) (q : Addr) (hq : wr.heap.size ≤ q.block) (u : Value) :
    Below wr.heap.size wr (W.setCell q u) ∧ (W.setCell q u).cell? ⟨b, o1, none⟩ = some v1 ∧ (W.setCell q u).cell? ⟨b, o2, none⟩ = some v2 :=
  ⟨p.1.setCell hq u, (World.cell?_setCell_other W q _ u (fun e => by subst e; simp at hq; omega)).trans p.2.1, (World.cell?_setCell_other W q _ u (fun e => by subst e; simp at hq; omega)).trans p.2.2⟩
end

/-- Two cells at the head of a block, whatever they hold. -/
def PtRoom (w : World) (b : Nat) : Prop := (w.cell? ⟨b, 0, none⟩).isSome = true ∧ (w.cell? ⟨b, 1, none⟩).isSome = true
theorem PtRoom.new {w : World} {u v : Value} {t : TypeId} : PtRoom (w.alloc (.cells #[u, v] t)) w.heap.size := by
  constructor <;> simp [World.cell?_alloc_new]
theorem PtRoom.alloc {w : World} {b : Nat} {o : Obj} (h : b < w.heap.size) (r : PtRoom w b) : PtRoom (w.alloc o) b :=
  ⟨by rw [World.cell?_alloc_lt w o ⟨b, 0, none⟩ h]; exact r.1, by rw [World.cell?_alloc_lt w o ⟨b, 1, none⟩ h]; exact r.2⟩
theorem PtRoom.drew {w : World} {b : Nat} (r : PtRoom w b) : PtRoom w.drew b := r
theorem PtRoom.call {w w1 : World} {b : Nat} (hb : Below w.heap.size w w1) (h : b < w.heap.size) (r : PtRoom w b) : PtRoom w1 b :=
  ⟨by rw [hb.cell (p := ⟨b, 0, none⟩) h]; exact r.1, by rw [hb.cell (p := ⟨b, 1, none⟩) h]; exact r.2⟩
theorem PtRoom.set {w : World} {b : Nat} {q : Addr} {u : Value} (r : PtRoom w b) : PtRoom (w.setCell q u) b := by
  constructor
  · by_cases e : q = ⟨b, 0, none⟩
    · subst e; rw [World.cell?_setCell_same' _ _ _ r.1]; rfl
    · rw [World.cell?_setCell_other _ _ _ _ e]; exact r.1
  · by_cases e : q = ⟨b, 1, none⟩
    · subst e; rw [World.cell?_setCell_same' _ _ _ r.2]; rfl
    · rw [World.cell?_setCell_other _ _ _ _ e]; exact r.2
theorem room11 {w : World} {u v : Value} {t : TypeId} : PtRoom (w.alloc (.cells #[u, v] t)).drew w.heap.size := PtRoom.new
theorem room21 {w : World} {u v : Value} {t : TypeId} {o : Obj} : PtRoom ((w.alloc (.cells #[u, v] t)).alloc o).drew w.heap.size := PtRoom.alloc (by simp) PtRoom.new
theorem room22 {w : World} {u v : Value} {t : TypeId} {o : Obj} : PtRoom ((w.alloc o).alloc (.cells #[u, v] t)).drew (w.heap.size + 1) := by
  have := PtRoom.new (w := w.alloc o) (u := u) (v := v) (t := t); rw [World.size_alloc] at this; exact this
theorem PtAt.new {w : World} {x y : Int} {t : TypeId} : PtAt (w.alloc (.cells #[.int .i64 x, .int .i64 y] t)) w.heap.size x y := by
  constructor <;> simp [World.cell?_alloc_new]
theorem PtAt.stored {w : World} {b : Nat} (r : PtRoom w b) (x y : Int) : PtAt ((w.setCell ⟨b, 0, none⟩ (.int .i64 x)).setCell ⟨b, 1, none⟩ (.int .i64 y)) b x y := by
  constructor
  · rw [World.cell?_setCell_other _ _ _ _ (by simp), World.cell?_setCell_same' _ _ _ r.1]
  · rw [World.cell?_setCell_same' _ _ _ (PtRoom.set r).2]
theorem PtAt.set_far {w : World} {b : Nat} {x y : Int} {q : Addr} {u : Value} (h : q.block ≠ b) (p : PtAt w b x y) : PtAt (w.setCell q u) b x y :=
  ⟨(World.cell?_setCell_other _ _ _ _ (fun e => h (by rw [e]))).trans p.1, (World.cell?_setCell_other _ _ _ _ (fun e => h (by rw [e]))).trans p.2⟩

/-- What lies below the new blocks stays, when what comes after them stays. -/
theorem below_of2 {w w1 : World} {a b : Obj} (h : Below (w.heap.size + 1 + 1) ((w.alloc a).alloc b) w1) : Below w.heap.size w w1 :=
  ((Below.refl _ _).alloc (Nat.le_refl _) a |>.alloc (by simp) b).trans (h.mono (by omega))
theorem below_of3 {w w1 : World} {a b c : Obj} (h : Below (w.heap.size + 1 + 1 + 1) (((w.alloc a).alloc b).alloc c) w1) : Below w.heap.size w w1 :=
  ((Below.refl _ _).alloc (Nat.le_refl _) a |>.alloc (by simp) b |>.alloc (by simp; omega) c).trans (h.mono (by omega))
theorem below_of4 {w w1 : World} {a b c d : Obj} (h : Below (w.heap.size + 1 + 1 + 1 + 1) ((((w.alloc a).alloc b).alloc c).alloc d) w1) : Below w.heap.size w w1 :=
  ((Below.refl _ _).alloc (Nat.le_refl _) a |>.alloc (by simp) b |>.alloc (by simp; omega) c |>.alloc (by simp; omega) d).trans (h.mono (by omega))

end Go.Proofs.Ytnijcdphmibjaaa
