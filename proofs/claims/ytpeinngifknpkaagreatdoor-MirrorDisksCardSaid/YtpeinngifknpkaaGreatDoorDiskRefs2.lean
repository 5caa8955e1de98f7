/- Disks: the document's own Arm, Restart, Lose. -/
import Derived.Test.YtpeinngifknpkaaGreatDoorDiskRefs
namespace Go.Proofs.YtpeinngifknpkaaGreatDoor
open Go.RowKit Go.Sort

def Rk.arm (r : Rk) (n : Int) : Rk := if r.down = false ∧ r.lost = false then { r with armed := decide (n ≥ 1), left := n } else r

theorem refArm_any (r : Rk) (n : Int) (w : World) : Calls Tryz.prog 21 #[r.val, .int .i64 n] w (AggOne (r.arm n).val w) := by
  obtain ⟨s, safe, down, lost, armed, left⟩ := r
  cases down with
  | true =>
    show Calls _ _ #[.agg #[.string s, .int .i64 safe, .bool true, .bool lost, .bool armed, .int .i64 left], _] w (AggOne (.agg #[.string s, .int .i64 safe, .bool true, .bool lost, .bool armed, .int .i64 left]) w)
    go_enter Tryz.func21, Tryz.ntmps21
    go_wp2_with fail
    refine bodyPost_ret (v := .agg #[.string s, .int .i64 safe, .bool true, .bool lost, .bool armed, .int .i64 left]) (by simp [results, Tryz.results21, go_sem]) rfl ⟨rfl, ?_⟩
    go_grown
  | false =>
    cases lost with
    | true =>
      show Calls _ _ #[.agg #[.string s, .int .i64 safe, .bool false, .bool true, .bool armed, .int .i64 left], _] w (AggOne (.agg #[.string s, .int .i64 safe, .bool false, .bool true, .bool armed, .int .i64 left]) w)
      go_enter Tryz.func21, Tryz.ntmps21
      go_wp2_with fail
      refine bodyPost_ret (v := .agg #[.string s, .int .i64 safe, .bool false, .bool true, .bool armed, .int .i64 left]) (by simp [results, Tryz.results21, go_sem]) rfl ⟨rfl, ?_⟩
      go_grown
    | false =>
      have e : (⟨s, safe, false, false, armed, left⟩ : Rk).arm n = ⟨s, safe, false, false, decide (n ≥ 1), n⟩ := by unfold Rk.arm; rw [if_pos ⟨rfl, rfl⟩]
      rw [e]
      clear e
      show Calls _ _ #[.agg #[.string s, .int .i64 safe, .bool false, .bool false, .bool armed, .int .i64 left], _] w (AggOne (.agg #[.string s, .int .i64 safe, .bool false, .bool false, .bool (decide (n ≥ 1)), .int .i64 n]) w)
      go_enter Tryz.func21, Tryz.ntmps21
      go_wp2_with fail
      refine bodyPost_ret (v := .agg #[.string s, .int .i64 safe, .bool false, .bool false, .bool (decide (n ≥ 1)), .int .i64 n]) (by simp [results, Tryz.results21, go_sem]) rfl ⟨rfl, ?_⟩
      go_grown

def Rk.none : Rk := ⟨⟨#[]⟩, 0, false, true, false, 0⟩
theorem refLose_any (r : Rk) (w : World) : Calls Tryz.prog 25 #[r.val] w (AggOne Rk.none.val w) := by
  obtain ⟨s, safe, down, lost, armed, left⟩ := r
  show Calls _ _ #[.agg #[.string s, .int .i64 safe, .bool down, .bool lost, .bool armed, .int .i64 left]] w (AggOne (.agg #[.string ⟨#[]⟩, .int .i64 0, .bool false, .bool true, .bool false, .int .i64 0]) w)
  go_enter Tryz.func25, Tryz.ntmps25
  go_wp2_with fail
  refine bodyPost_ret (v := .agg #[.string ⟨#[]⟩, .int .i64 0, .bool false, .bool true, .bool false, .int .i64 0]) (by simp [results, Tryz.results25, go_sem]) rfl ⟨rfl, ?_⟩
  go_grown

def Rk.up (r : Rk) (n : Int) : Rk := if r.lost = true then r else ⟨r.s.extract 0 (r.safe.toNat + min n.toNat (r.s.size - r.safe.toNat)), ((r.safe.toNat + min n.toNat (r.s.size - r.safe.toNat) : Nat) : Int), false, false, false, 0⟩
theorem refRestart_any (r : Rk) (n : Int) (w : World) (h0 : 0 ≤ r.safe) (h1 : r.safe ≤ (r.s.size : Int)) (h2 : r.s.size ≤ 1000000) : Calls Tryz.prog 23 #[r.val, .int .i64 n] w (AggOne (r.up n).val w) := by
  obtain ⟨s, safe, down, lost, armed, left⟩ := r
  dsimp only at h0 h1 h2
  cases lost with
  | true =>
    show Calls _ _ #[.agg #[.string s, .int .i64 safe, .bool down, .bool true, .bool armed, .int .i64 left], _] w (AggOne (.agg #[.string s, .int .i64 safe, .bool down, .bool true, .bool armed, .int .i64 left]) w)
    go_enter Tryz.func23, Tryz.ntmps23
    go_wp2_with fail
    refine bodyPost_ret (v := .agg #[.string s, .int .i64 safe, .bool down, .bool true, .bool armed, .int .i64 left]) (by simp [results, Tryz.results23, go_sem]) rfl ⟨rfl, ?_⟩
    go_grown
  | false =>
    have hk : ∀ k : Int, k = ((safe.toNat + min n.toNat (s.size - safe.toNat) : Nat) : Int) → (⟨s, safe, down, false, armed, left⟩ : Rk).up n = ⟨s.extract 0 k.toNat, k, false, false, false, 0⟩ := fun k hk => by
      unfold Rk.up; rw [if_neg (by simp)]; subst hk; rw [Int.toNat_natCast]
    rcases Int.lt_or_le 0 n with hn | hn
    · rcases Int.lt_or_le ((s.size : Int) - safe) n with hm | hm
      · rcases Int.lt_or_le 0 ((s.size : Int) - safe) with hp | hp
        · rw [hk (safe + ((s.size : Int) - safe)) (by omega)]
          clear hk
          show Calls _ _ #[.agg #[.string s, .int .i64 safe, .bool down, .bool false, .bool armed, .int .i64 left], _] w (AggOne (.agg #[.string (s.extract 0 (safe + ((s.size : Int) - safe)).toNat), .int .i64 (safe + ((s.size : Int) - safe)), .bool false, .bool false, .bool false, .int .i64 0]) w)
          go_enter Tryz.func23, Tryz.ntmps23
          go_wp2_with fail
          refine bodyPost_ret (v := .agg #[.string (s.extract 0 (safe + ((s.size : Int) - safe)).toNat), .int .i64 (safe + ((s.size : Int) - safe)), .bool false, .bool false, .bool false, .int .i64 0]) (by simp [results, Tryz.results23, go_sem]) rfl ⟨rfl, ?_⟩
          go_grown
        · rw [hk safe (by omega)]
          clear hk
          have hn2 : ¬ 0 < (s.size : Int) - safe := by omega
          show Calls _ _ #[.agg #[.string s, .int .i64 safe, .bool down, .bool false, .bool armed, .int .i64 left], _] w (AggOne (.agg #[.string (s.extract 0 safe.toNat), .int .i64 safe, .bool false, .bool false, .bool false, .int .i64 0]) w)
          go_enter Tryz.func23, Tryz.ntmps23
          go_wp2_with fail
          refine bodyPost_ret (v := .agg #[.string (s.extract 0 (safe).toNat), .int .i64 (safe), .bool false, .bool false, .bool false, .int .i64 0]) (by simp [results, Tryz.results23, go_sem]) rfl ⟨rfl, ?_⟩
          go_grown
      · rw [hk (safe + n) (by omega)]
        clear hk
        show Calls _ _ #[.agg #[.string s, .int .i64 safe, .bool down, .bool false, .bool armed, .int .i64 left], _] w (AggOne (.agg #[.string (s.extract 0 (safe + n).toNat), .int .i64 (safe + n), .bool false, .bool false, .bool false, .int .i64 0]) w)
        have hb1 : ¬ ((s.size : Int) - safe < n) := by omega
        go_enter Tryz.func23, Tryz.ntmps23
        go_wp2_with fail
        refine bodyPost_ret (v := .agg #[.string (s.extract 0 (safe + n).toNat), .int .i64 (safe + n), .bool false, .bool false, .bool false, .int .i64 0]) (by simp [results, Tryz.results23, go_sem]) rfl ⟨rfl, ?_⟩
        go_grown
    · rw [hk safe (by omega)]
      clear hk
      show Calls _ _ #[.agg #[.string s, .int .i64 safe, .bool down, .bool false, .bool armed, .int .i64 left], _] w (AggOne (.agg #[.string (s.extract 0 safe.toNat), .int .i64 safe, .bool false, .bool false, .bool false, .int .i64 0]) w)
      have hb1 : ¬ ((s.size : Int) - safe < n) := by omega
      go_enter Tryz.func23, Tryz.ntmps23
      go_wp2_with fail
      refine bodyPost_ret (v := .agg #[.string (s.extract 0 (safe).toNat), .int .i64 (safe), .bool false, .bool false, .bool false, .int .i64 0]) (by simp [results, Tryz.results23, go_sem]) rfl ⟨rfl, ?_⟩
      go_grown
end Go.Proofs.YtpeinngifknpkaaGreatDoor
