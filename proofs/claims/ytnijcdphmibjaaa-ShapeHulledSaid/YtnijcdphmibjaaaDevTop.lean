/- Package shape's exported functions Area2, Simple and Convex; the reference's Polygon, of any slice. -/
import Derived.Test.YtnijcdphmibjaaaDevConvex
import Derived.Test.YtnijcdphmibjaaaDevEq
import Derived.Test.YtnijcdphmibjaaaConvex
namespace Go.Proofs.Ytnijcdphmibjaaa
open Go.RowKit Go.Sort
attribute [local go_sem ↓] run_min_mn run_max_mx

/-- What a polygon's slice is. -/
structure PolyIn (w : World) (A : Option Addr) (n : Nat) (l : List Pt) (b off : Nat) : Prop where
  at_ : A = some ⟨b, off, none⟩
  lo : 2 < n
  hi : n ≤ 32
  here : b < w.heap.size
  pts : PtsIn w b off l
  ok : l.all okP = true

theorem PtsAt.poly {w : World} {A : Option Addr} {n : Nat} {l : List Pt} (h : PtsAt w A l) (hn : l.length = n) (hp : polyB l = true) : ∃ b off, PolyIn w A n l b off := by
  simp only [polyB, inB, Bool.and_eq_true, decide_eq_true_eq] at hp
  obtain ⟨h1, h2, h3⟩ := hp
  obtain ⟨b, off, e, hb, hi⟩ := h (by intro e; subst e; simp at h2)
  exact ⟨b, off, ⟨e, by omega, by omega, hb, hi, h1⟩⟩

def area2X (l : List Pt) : Int := if polyB l then area2 l else 0
def errX (l : List Pt) : Int := if polyB l then 0 else 1

theorem area2X_any (A : Option Addr) (n c : Nat) (l : List Pt) (w : World) (hn : l.length = n) (hbig : n ≤ 1000000) (hx : PtsAt w A l) :
    Calls Try.prog 20 #[.slice A n c] w fun e w' => e = .returned (.tuple #[.int .i64 (area2X l), .int .i64 (errX l)]) ∧ Below w.heap.size w w' := by
  have K := Lib.hid (isPolygon_any A n c l w hn hbig hx)
  cases hp : polyB l
  · have e1 : area2X l = 0 := by unfold area2X; rw [hp]; rfl
    have e2 : errX l = 1 := by unfold errX; rw [hp]; rfl
    rw [e1, e2]
    rw [hp] at K
    clear hn hx
    go_enter Try.func20, Try.ntmps20
    go_wp2_with fail
    refine (K.out).mono ?_
    rintro e w' ⟨rfl, hb⟩
    go_wp2
    go_ret2
    exact ⟨rfl, hb⟩
  · have e1 : area2X l = area2 l := by unfold area2X; rw [hp]; rfl
    have e2 : errX l = 0 := by unfold errX; rw [hp]; rfl
    rw [e1, e2]
    rw [hp] at K
    obtain ⟨b, off, rfl, h1, h2, h3, h4, h5⟩ := hx.poly hn hp
    have S := fun W hW => Lib.hid (area2D_any b off n c l W hn (by omega) (by omega) (h4.below (B := w.heap.size) hW h3) (Nat.lt_of_lt_of_le h3 hW.size) h5)
    clear hn hx h4 h5 e1 e2
    generalize area2 l = r at *
    go_enter Try.func20, Try.ntmps20
    go_wp2_with fail
    refine (K.out).mono ?_
    rintro e w1 ⟨rfl, hb⟩
    go_wp2_with fail
    refine ((S _ hb).out).mono ?_
    rintro e w2 ⟨rfl, hb2⟩
    go_wp2
    go_ret2
    exact ⟨rfl, hb.trans (hb2.mono hb.size)⟩

def simpleX (l : List Pt) : Bool := polyB l && simpleB l
theorem simpleX_any (A : Option Addr) (n c : Nat) (l : List Pt) (w : World) (hn : l.length = n) (hbig : n ≤ 1000000) (hx : PtsAt w A l) :
    Calls Try.prog 21 #[.slice A n c] w fun e w' => e = .returned (.tuple #[.bool (simpleX l), .int .i64 (errX l)]) ∧ Below w.heap.size w w' := by
  have K := Lib.hid (isPolygon_any A n c l w hn hbig hx)
  cases hp : polyB l
  · have e1 : simpleX l = false := by unfold simpleX; rw [hp]; rfl
    have e2 : errX l = 1 := by unfold errX; rw [hp]; rfl
    rw [e1, e2]
    rw [hp] at K
    clear hn hx
    go_enter Try.func21, Try.ntmps21
    go_wp2_with fail
    refine (K.out).mono ?_
    rintro e w' ⟨rfl, hb⟩
    go_wp2
    go_ret2
    exact ⟨rfl, hb⟩
  · have e1 : simpleX l = simpleB l := by unfold simpleX; rw [hp]; rfl
    have e2 : errX l = 0 := by unfold errX; rw [hp]; rfl
    rw [e1, e2]
    rw [hp] at K
    obtain ⟨b, off, rfl, h1, h2, h3, h4, h5⟩ := hx.poly hn hp
    have S := fun W hW => Lib.hid (isSimple_any b off n c l W hn (by omega) (by omega) (h4.below (B := w.heap.size) hW h3) (Nat.lt_of_lt_of_le h3 hW.size) h5)
    rw [simple_same] at S
    clear hn hx h4 h5 e1 e2
    generalize simpleB l = r at *
    go_enter Try.func21, Try.ntmps21
    go_wp2_with fail
    refine (K.out).mono ?_
    rintro e w1 ⟨rfl, hb⟩
    go_wp2_with fail
    refine ((S _ hb).out).mono ?_
    rintro e w2 ⟨rfl, hb2⟩
    go_wp2
    go_ret2
    exact ⟨rfl, hb.trans (hb2.mono hb.size)⟩

def convexX (l : List Pt) : Bool := polyB l && convexB l
theorem convexX_any (A : Option Addr) (n c : Nat) (l : List Pt) (w : World) (hn : l.length = n) (hbig : n ≤ 1000000) (hx : PtsAt w A l) :
    Calls Try.prog 22 #[.slice A n c] w fun e w' => e = .returned (.tuple #[.bool (convexX l), .int .i64 (errX l)]) ∧ Below w.heap.size w w' := by
  have K := Lib.hid (isPolygon_any A n c l w hn hbig hx)
  cases hp : polyB l
  · have e1 : convexX l = false := by unfold convexX; rw [hp]; rfl
    have e2 : errX l = 1 := by unfold errX; rw [hp]; rfl
    rw [e1, e2]
    rw [hp] at K
    clear hn hx
    go_enter Try.func22, Try.ntmps22
    go_wp2_with fail
    refine (K.out).mono ?_
    rintro e w' ⟨rfl, hb⟩
    go_wp2
    go_ret2
    exact ⟨rfl, hb⟩
  · have e1 : convexX l = convexB l := by unfold convexX; rw [hp]; rfl
    have e2 : errX l = 0 := by unfold errX; rw [hp]; rfl
    rw [e1, e2]
    rw [hp] at K
    obtain ⟨b, off, rfl, h1, h2, h3, h4, h5⟩ := hx.poly hn hp
    have S := fun W hW => Lib.hid (isConvex_any b off n c l W hn (by omega) (by omega) (h4.below (B := w.heap.size) hW h3) (Nat.lt_of_lt_of_le h3 hW.size) h5)
    rw [convex_same] at S
    clear hn hx h4 h5 e1 e2
    generalize convexB l = r at *
    go_enter Try.func22, Try.ntmps22
    go_wp2_with fail
    refine (K.out).mono ?_
    rintro e w1 ⟨rfl, hb⟩
    go_wp2_with fail
    refine ((S _ hb).out).mono ?_
    rintro e w2 ⟨rfl, hb2⟩
    go_wp2
    go_ret2
    exact ⟨rfl, hb.trans (hb2.mono hb.size)⟩

/-- The reference's Polygon, of any slice. -/
theorem polygonX_any (A : Option Addr) (n c : Nat) (l : List Pt) (w : World) (hn : l.length = n) (hbig : n ≤ 1000000) (hx : PtsAt w A l) :
    Calls Try.prog 23 #[.slice A n c] w fun e w' => e = .returned (.bool (polyB l)) ∧ Below w.heap.size w w' := by
  cases l with
  | nil =>
    obtain rfl : n = 0 := by simpa using hn.symm
    have hp : polyB [] = false := by rfl
    rw [hp]
    clear hn hx hp
    go_enter Try.func23, Try.ntmps23
    go_wp2
    refine wp_loop_rounds 1 ?_
    rw [rounds_succ]
    go_wp2_with (go_at_call 63; refine (in_any _ _ _ _).mono ?_; rintro e w' ⟨rfl, rfl⟩)
    go_ret
    exact ⟨rfl, Below.refl _ _⟩
  | cons p l =>
    obtain ⟨b, off, rfl, hb, hi⟩ := hx (by simp)
    exact polygon_any b off n c (p :: l) w hn (by subst hn; simp) hbig hi hb
end Go.Proofs.Ytnijcdphmibjaaa
