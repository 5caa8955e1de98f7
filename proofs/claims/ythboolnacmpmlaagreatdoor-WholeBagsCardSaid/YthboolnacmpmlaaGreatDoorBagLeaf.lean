/- Bags: contracts of the smallest functions. -/
import Derived.Test.YthboolnacmpmlaaGreatDoorInts
import Derived.Lib.QuietBelow
import Derived.BigQuiet
namespace Go.Proofs.YthboolnacmpmlaaGreatDoor
open Go.RowKit

def mn (a b : Int) : Int := if b < a then b else a
def mx (a b : Int) : Int := if a < b then b else a
theorem run_min_mn {P : Program} {w : World} (ts : Array TypeId) (t : TypeId) (k k' : IntKind) (x y : Int) :
    (Builtin.min_ ts t #[.int k x, .int k' y]).run P w = .ok (.int k (mn x y)) w := run_min_int2 (P := P) (w := w) ts t k k' x y
theorem run_max_mx {P : Program} {w : World} (ts : Array TypeId) (t : TypeId) (k k' : IntKind) (x y : Int) :
    (Builtin.max_ ts t #[.int k x, .int k' y]).run P w = .ok (.int k (mx x y)) w := run_max_int2 (P := P) (w := w) ts t k k' x y
attribute [local go_sem ↓] run_min_mn run_max_mx

def inB (v lo hi : Int) : Bool := decide (lo ≤ v ∧ v ≤ hi)
/-- A size that is none. -/
def wrongB (x : Int) : Bool := decide (x < 1 ∨ 2000 < x)
def anyB (xs : List Int) : Bool := xs.any wrongB
def sizesB (xs : List Int) : Bool := decide (1 ≤ xs.length ∧ xs.length ≤ 8) && !anyB xs

theorem in_any (v lo hi : Int) (w : World) :
    Calls Tryz.prog 25 #[.int .i64 v, .int .i64 lo, .int .i64 hi] w fun e w' => e = .returned (.bool (inB v lo hi)) ∧ w = w' := by
  go_enter Tryz.func25, Tryz.ntmps25
  go_wp2
  · rename_i h
    go_ret
    exact ⟨ret_bool (by simp [inB]; try omega), rfl⟩
  · rename_i h
    go_ret
    exact ⟨ret_bool (by simp [inB]; try omega), rfl⟩

theorem wrong_any (x : Int) (w : World) :
    Calls Tryz.prog 32 #[.int .i64 x] w fun e w' => e = .returned (.bool (wrongB x)) ∧ w = w' := by
  go_enter Tryz.func32, Tryz.ntmps32
  go_wp2
  · rename_i h
    go_ret
    exact ⟨ret_bool (by simp [wrongB]; try omega), rfl⟩
  · rename_i h
    go_ret
    exact ⟨ret_bool (by simp [wrongB]; try omega), rfl⟩

theorem anyB_cons (x : Int) (xs : List Int) : anyB (x :: xs) = (wrongB x || anyB xs) := rfl

/-- The first wrong size: is there one? -/
def Found (xs : List Int) (w : World) (e : Ending) (w' : World) : Prop := ∃ i : Int, e = .returned (.int .i64 i) ∧ decide (0 ≤ i) = anyB xs ∧ w = w'

theorem index_any (A : Option Addr) (n c : Nat) (xs : List Int) (w : World) (hn : xs.length = n) (hbig : n ≤ 1000000000000) (hx : Ints w A xs) :
    Calls Tryz.prog 39 #[.slice A n c, .func (.func 32) #[] #[]] w (Found xs w) := by
  have HN := Lib.hid hn
  have HX := Lib.hid hx
  clear hn hx
  go_enter Tryz.func39, Tryz.ntmps39
  go_wp2
  go_loop [8] (fun i => ∃ k : Nat, k ≤ n ∧ i = .int .i64 k ∧ anyB (xs.take k) = false) (fun i => n - (intOf i).toNat)
  case atStart => exact ⟨0, Nat.zero_le _, rfl, rfl⟩
  case round =>
    obtain ⟨k, hk, rfl, hz⟩ := hrel
    have HZ := Lib.hid hz
    clear hz
    by_cases hlt : k < n
    · have hl : k < xs.length := by have := HN.out; omega
      obtain ⟨b, off, rfl, hc⟩ := HX.out.at_ hl
      have hs : anyB (xs.take (k + 1)) = wrongB xs[k] := by
        rw [List.take_succ_eq_append_getElem hl]
        unfold anyB at *
        rw [List.any_append, HZ.out]; simp
      have hd : xs = xs.take (k + 1) ++ xs.drop (k + 1) := (List.take_append_drop _ _).symm
      have hall : wrongB xs[k] = true → anyB xs = true := fun h => by
        unfold anyB
        exact List.any_eq_true.2 ⟨_, List.getElem_mem hl, h⟩
      have HS := Lib.hid hs
      have HA := Lib.hid hall
      clear hs hd hall
      generalize xs[k] = x at *
      cases hw : wrongB x
      · have HW := Lib.hid hw
        clear hw
        go_wp2_with (go_at_call 32; refine (wrong_any _ _).mono ?_; rintro e w' ⟨rfl, rfl⟩; rw [HW.out])
        go_round
        case rel => exact ⟨k + 1, by omega, by go_num, by rw [HS.out, HW.out]⟩
        case measure => simp [intOf]; omega
      · have HW := Lib.hid hw
        clear hw
        go_wp2_with (go_at_call 32; refine (wrong_any _ _).mono ?_; rintro e w' ⟨rfl, rfl⟩; rw [HW.out])
        go_ret
        exact ⟨_, rfl, by rw [HA.out HW.out]; simp, rfl⟩
    · have hfull : anyB xs = false := by
        have := HZ.out
        rw [List.take_of_length_le (by have := HN.out; omega)] at this
        exact this
      have HF := Lib.hid hfull
      clear hfull
      go_wp2
      go_ret
      exact ⟨_, rfl, by rw [HF.out]; rfl, rfl⟩

theorem contains_any (A : Option Addr) (n c : Nat) (xs : List Int) (w : World) (hn : xs.length = n) (hbig : n ≤ 1000000000000) (hx : Ints w A xs) :
    Calls Tryz.prog 33 #[.slice A n c, .func (.func 32) #[] #[]] w fun e w' => e = .returned (.bool (anyB xs)) ∧ w = w' := by
  have K := Lib.hid (index_any A n c xs w hn hbig hx)
  clear hn hx
  go_enter Tryz.func33, Tryz.ntmps33
  go_wp2_with (go_at_call 39; refine (K.out).mono ?_; rintro e w' ⟨i, rfl, hi, rfl⟩; have HI := Lib.hid hi; clear hi)
  go_ret
  exact ⟨ret_bool HI.out, rfl⟩

theorem areSizes_any (A : Option Addr) (n c : Nat) (xs : List Int) (w : World) (hn : xs.length = n) (hbig : n ≤ 1000000000000) (hx : Ints w A xs) :
    Calls Tryz.prog 21 #[.slice A n c] w fun e w' => e = .returned (.bool (sizesB xs)) ∧ w = w' := by
  have K := Lib.hid (contains_any A n c xs w hn hbig hx)
  have HS : Hid (sizesB xs = (decide (1 ≤ n ∧ n ≤ 8) && !anyB xs)) := by subst hn; exact Lib.hid rfl
  clear hn hx
  by_cases h1 : 1 ≤ n
  · by_cases h2 : n ≤ 8
    · go_enter Tryz.func21, Tryz.ntmps21
      go_wp2_with (go_at_call 33; refine (K.out).mono ?_; rintro e w' ⟨rfl, rfl⟩)
      go_ret
      exact ⟨ret_bool (by rw [HS.out]; simp; omega), rfl⟩
    · go_enter Tryz.func21, Tryz.ntmps21
      go_wp2
      go_ret
      exact ⟨ret_bool (by rw [HS.out]; simp; omega), rfl⟩
  · go_enter Tryz.func21, Tryz.ntmps21
    go_wp2
    go_ret
    exact ⟨ret_bool (by rw [HS.out]; simp; omega), rfl⟩

end Go.Proofs.YthboolnacmpmlaaGreatDoor
