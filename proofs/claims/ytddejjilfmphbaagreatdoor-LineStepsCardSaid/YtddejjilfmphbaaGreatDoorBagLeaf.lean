/- Bags: contracts of the smallest functions. -/
import Derived.Test.YtddejjilfmphbaaGreatDoorInts
import Derived.Lib.QuietBelow
import Derived.BigQuiet
namespace Go.Proofs.YtddejjilfmphbaaGreatDoor
open Go.RowKit

def mn (a b : Int) : Int := if b < a then b else a
def mx (a b : Int) : Int := if a < b then b else a
theorem run_min_mn {P : Program} {w : World} (ts : Array TypeId) (t : TypeId) (k k' : IntKind) (x y : Int) :
    (Builtin.min_ ts t #[.int k x, .int k' y]).run P w = .ok (.int k (mn x y)) w := run_min_int2 (P := P) (w := w) ts t k k' x y
theorem run_max_mx {P : Program} {w : World} (ts : Array TypeId) (t : TypeId) (k k' : IntKind) (x y : Int) :
    (Builtin.max_ ts t #[.int k x, .int k' y]).run P w = .ok (.int k (mx x y)) w := run_max_int2 (P := P) (w := w) ts t k k' x y
attribute [local go_sem ↓] run_min_mn run_max_mx

def inB (v lo hi : Int) : Bool := decide (lo ≤ v ∧ v ≤ hi)
/-- A size that is none. -/
def wrongB (x : Int) : Bool := decide (x < 1 ∨ 2000 < x)
def anyB (xs : List Int) : Bool := xs.any wrongB
def sizesB (xs : List Int) : Bool := decide (1 ≤ xs.length ∧ xs.length ≤ 8) && !anyB xs

theorem anyB_cons (x : Int) (xs : List Int) : anyB (x :: xs) = (wrongB x || anyB xs) := rfl

/-- The first wrong size: is there one? -/
def Found (xs : List Int) (w : World) (e : Ending) (w' : World) : Prop := ∃ i : Int, e = .returned (.int .i64 i) ∧ decide (0 ≤ i) = anyB xs ∧ w = w'

end Go.Proofs.YtddejjilfmphbaaGreatDoor
