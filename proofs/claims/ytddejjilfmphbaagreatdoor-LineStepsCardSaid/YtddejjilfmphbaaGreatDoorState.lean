/- Valid states. -/
import Derived.Test.YtddejjilfmphbaaGreatDoorRun
import Derived.Test.YtddejjilfmphbaaGreatDoorBagLeaf
namespace Go.Proofs.YtddejjilfmphbaaGreatDoor
open Go.RowKit Go.Sort

def farB (x : Int) : Bool := decide (x < -1000000000000 ∨ 1000000000000 < x)
def anyFar (xs : List Int) : Bool := xs.any farB

theorem far_any (x : Int) (w : World) :
    Calls Tryz.prog 31 #[.int .i64 x] w fun e w' => e = .returned (.bool (farB x)) ∧ w = w' := by
  go_enter Tryz.func31, Tryz.ntmps31
  go_wp2
  · rename_i h
    go_ret
    exact ⟨ret_bool (by simp [farB]; try omega), rfl⟩
  · rename_i h
    go_ret
    exact ⟨ret_bool (by simp [farB]; try omega), rfl⟩

def FoundF (xs : List Int) (w : World) (e : Ending) (w' : World) : Prop := ∃ i : Int, e = .returned (.int .i64 i) ∧ decide (0 ≤ i) = anyFar xs ∧ w = w'

theorem indexFar_any (A : Option Addr) (n c : Nat) (xs : List Int) (w : World) (hn : xs.length = n) (hbig : n ≤ 1000000000000) (hx : Ints w A xs) :
    Calls Tryz.prog 44 #[.slice A n c, .func (.func 31) #[] #[]] w (FoundF xs w) := by
  have HN := Lib.hid hn
  have HX := Lib.hid hx
  clear hn hx
  go_enter Tryz.func44, Tryz.ntmps44
  go_wp2
  go_loop [8] (fun i => ∃ k : Nat, k ≤ n ∧ i = .int .i64 k ∧ anyFar (xs.take k) = false) (fun i => n - (intOf i).toNat)
  case atStart => exact ⟨0, Nat.zero_le _, rfl, rfl⟩
  case round =>
    obtain ⟨k, hk, rfl, hz⟩ := hrel
    have HZ := Lib.hid hz
    clear hz
    by_cases hlt : k < n
    · have hl : k < xs.length := by have := HN.out; omega
      obtain ⟨b, off, rfl, hc⟩ := HX.out.at_ hl
      have hs : anyFar (xs.take (k + 1)) = farB xs[k] := by
        rw [List.take_succ_eq_append_getElem hl]
        unfold anyFar at *
        rw [List.any_append, HZ.out]; simp
      have hall : farB xs[k] = true → anyFar xs = true := fun h => by
        unfold anyFar
        exact List.any_eq_true.2 ⟨_, List.getElem_mem hl, h⟩
      have HS := Lib.hid hs
      have HA := Lib.hid hall
      clear hs hall
      generalize xs[k] = x at *
      cases hw : farB x
      · have HW := Lib.hid hw
        clear hw
        go_wp2_with (go_at_call 31; refine (far_any _ _).mono ?_; rintro e w' ⟨rfl, rfl⟩; rw [HW.out])
        go_round
        case rel => exact ⟨k + 1, by omega, by go_num, by rw [HS.out, HW.out]⟩
        case measure => simp [intOf]; omega
      · have HW := Lib.hid hw
        clear hw
        go_wp2_with (go_at_call 31; refine (far_any _ _).mono ?_; rintro e w' ⟨rfl, rfl⟩; rw [HW.out])
        go_ret
        exact ⟨_, rfl, by rw [HA.out HW.out]; simp, rfl⟩
    · have hfull : anyFar xs = false := by
        have := HZ.out
        rw [List.take_of_length_le (by have := HN.out; omega)] at this
        exact this
      have HF := Lib.hid hfull
      clear hfull
      go_wp2
      go_ret
      exact ⟨_, rfl, by rw [HF.out]; rfl, rfl⟩

theorem containsFar_any (A : Option Addr) (n c : Nat) (xs : List Int) (w : World) (hn : xs.length = n) (hbig : n ≤ 1000000000000) (hx : Ints w A xs) :
    Calls Tryz.prog 32 #[.slice A n c, .func (.func 31) #[] #[]] w fun e w' => e = .returned (.bool (anyFar xs)) ∧ w = w' := by
  have K := Lib.hid (indexFar_any A n c xs w hn hbig hx)
  clear hn hx
  go_enter Tryz.func32, Tryz.ntmps32
  go_wp2_with (go_at_call 44; refine (K.out).mono ?_; rintro e w' ⟨i, rfl, hi, rfl⟩; have HI := Lib.hid hi; clear hi)
  go_ret
  exact ⟨ret_bool HI.out, rfl⟩

/-- Is it a state of so many nodes? -/
def stateB (gn : Int) (xs : List Int) : Bool := decide ((xs.length : Int) = gn) && !anyFar xs

theorem isState_any (gn : Int) (Ag : Option Addr) (ng cg : Nat) (A : Option Addr) (n c : Nat) (xs : List Int) (w : World) (hn : xs.length = n) (hbig : n ≤ 1000000000000) (hx : Ints w A xs) :
    Calls Tryz.prog 19 #[.agg #[.int .i64 gn, .slice Ag ng cg], .slice A n c] w fun e w' => e = .returned (.bool (stateB gn xs)) ∧ Below w.heap.size w w' := by
  have hba : Below w.heap.size w (w.alloc (.cells #[.int .i64 gn, .slice Ag ng cg] 45)) := (Below.refl _ _).alloc (Nat.le_refl _) _
  have K := Lib.hid (containsFar_any A n c xs (w.alloc (.cells #[.int .i64 gn, .slice Ag ng cg] 45)) hn hbig (hx.below hba))
  have HS : Hid (stateB gn xs = (decide ((n : Int) = gn) && !anyFar xs)) := by subst hn; exact Lib.hid rfl
  have HB := Lib.hid hba
  clear hn hx hba
  by_cases h1 : (n : Int) = gn
  · have h2 : ((n : Int) == gn) = true := by simp [h1]
    have H1 := Lib.hid h1
    clear h1
    go_enter Tryz.func19, Tryz.ntmps19
    go_wp2_with (go_at_call 32; refine (K.out).mono ?_; rintro e w' ⟨rfl, rfl⟩)
    go_ret
    exact ⟨ret_bool (by rw [HS.out]; simp [H1.out]), HB.out⟩
  · have h2 : ((n : Int) == gn) = false := by simp [h1]
    have H1 := Lib.hid h1
    clear h1
    go_enter Tryz.func19, Tryz.ntmps19
    go_wp2
    go_ret
    exact ⟨ret_bool (by rw [HS.out]; simp [H1.out]), HB.out⟩
end Go.Proofs.YtddejjilfmphbaaGreatDoor
