/- Disks: the document's own. -/
import Derived.Test.YtpeinngifknpkaaGreatDoorDiskClone
namespace Go.Proofs.YtpeinngifknpkaaGreatDoor
open Go.RowKit Go.Sort

/-- The document's disk. -/
structure Rk where
  s : ByteArray
  safe : Int
  down : Bool
  lost : Bool
  armed : Bool
  left : Int
def Rk.val (r : Rk) : Value := .agg #[.string r.s, .int .i64 r.safe, .bool r.down, .bool r.lost, .bool r.armed, .int .i64 r.left]
/-- A disk and an errno are handed back. -/
def AggTo (v x : Value) (w : World) (e : Ending) (w' : World) : Prop := e = .returned (.tuple #[v, x]) ∧ Below w.heap.size w w'
def AggOne (v : Value) (w : World) (e : Ending) (w' : World) : Prop := e = .returned v ∧ Below w.heap.size w w'
def Rk.off (r : Rk) : Int := if r.lost = true then 10 else if r.down = true then 9 else 0

theorem refOff_any (r : Rk) (w : World) : Calls Tryz.prog 59 #[r.val] w fun e w' => e = .returned (.int .i64 r.off) ∧ Below w.heap.size w w' := by
  obtain ⟨s, safe, down, lost, armed, left⟩ := r
  unfold Rk.val Rk.off
  dsimp only
  cases lost with
  | true =>
    go_enter Tryz.func59, Tryz.ntmps59
    go_wp2_with fail
    go_ret
    exact ⟨rfl, (Below.refl _ _).alloc (Nat.le_refl _) _⟩
  | false =>
    cases down with
    | true =>
      go_enter Tryz.func59, Tryz.ntmps59
      go_wp2_with fail
      go_ret
      exact ⟨rfl, (Below.refl _ _).alloc (Nat.le_refl _) _⟩
    | false =>
      go_enter Tryz.func59, Tryz.ntmps59
      go_wp2_with fail
      go_ret
      exact ⟨rfl, (Below.refl _ _).alloc (Nat.le_refl _) _⟩

def Rk.acted (r : Rk) : Rk := if r.armed = true then { r with left := r.left - 1, down := decide (r.left - 1 ≤ 0) } else r
def Rk.falls (r : Rk) : Bool := if r.armed = true then decide (r.left - 1 ≤ 0) else false

theorem refAct_any (r : Rk) (w : World) (hl : 1 ≤ r.left ∧ r.left ≤ 9223372036854775807 ∨ r.armed = false) : Calls Tryz.prog 60 #[r.val] w (AggTo r.acted.val (.bool r.falls) w) := by
  obtain ⟨s, safe, down, lost, armed, left⟩ := r
  dsimp only at hl
  cases armed with
  | false =>
    clear hl
    show Calls _ _ #[.agg #[.string s, .int .i64 safe, .bool down, .bool lost, .bool false, .int .i64 left]] w (AggTo (.agg #[.string s, .int .i64 safe, .bool down, .bool lost, .bool false, .int .i64 left]) (.bool false) w)
    go_enter Tryz.func60, Tryz.ntmps60
    go_wp2_with fail
    refine bodyPost_ret (v := .tuple #[.agg #[.string s, .int .i64 safe, .bool down, .bool lost, .bool false, .int .i64 left], .bool false]) (by simp [results, Tryz.results60, go_sem]) rfl ⟨rfl, ?_⟩
    go_grown
  | true =>
    replace hl : 1 ≤ left ∧ left ≤ 9223372036854775807 := by simpa using hl
    obtain ⟨h1, h2⟩ := hl
    show Calls _ _ #[.agg #[.string s, .int .i64 safe, .bool down, .bool lost, .bool true, .int .i64 left]] w (AggTo (.agg #[.string s, .int .i64 safe, .bool (decide (left - 1 ≤ 0)), .bool lost, .bool true, .int .i64 (left - 1)]) (.bool (decide (left - 1 ≤ 0))) w)
    go_enter Tryz.func60, Tryz.ntmps60
    go_wp2_with fail
    go_region
    all_goals (
      go_wp2_with fail
      refine bodyPost_ret (v := .tuple #[.agg #[.string s, .int .i64 safe, .bool (decide (left - 1 ≤ 0)), .bool lost, .bool true, .int .i64 (left - 1)], .bool (decide (left - 1 ≤ 0))]) (by simp [results, Tryz.results60, go_sem]) rfl ⟨rfl, ?_⟩
      go_grown)
end Go.Proofs.YtpeinngifknpkaaGreatDoor
