/- Disks: the document's and the program's go together. -/
import Derived.Test.YtpeinngifknpkaaGreatDoorDiskSame
namespace Go.Proofs.YtpeinngifknpkaaGreatDoor
open Go.RowKit Go.Sort

structure Rel (r : Rk) (d : Dk) : Prop where
  s : r.s = ofL d.bytes
  safe : r.safe = (d.safe : Int)
  down : r.down = d.down
  lost : r.lost = d.lost
  left : d.down = false → d.lost = false → (r.armed = true ∧ r.left = (d.left : Int) ∧ 1 ≤ d.left) ∨ (r.armed = false ∧ d.left = 0)

theorem Rel.off {r : Rk} {d : Dk} (h : Rel r d) : r.off = d.refusal := by
  unfold Rk.off Dk.refusal; rw [h.lost, h.down]
theorem Dk.up_of {d : Dk} (h : d.refusal = 0) : d.down = false ∧ d.lost = false := by
  unfold Dk.refusal at h
  split at h
  · omega
  · split at h
    · omega
    · rename_i h1 h2; exact ⟨by simpa using h2, by simpa using h1⟩
theorem Rel.hl {r : Rk} {d : Dk} (h : Rel r d) (hd : d.left ≤ 9223372036854775807) : r.off = 0 → 1 ≤ r.left ∧ r.left ≤ 9223372036854775807 ∨ r.armed = false := fun ho => by
  obtain ⟨h1, h2⟩ := Dk.up_of (h.off.symm.trans ho)
  rcases h.left h1 h2 with ⟨-, a, b⟩ | ⟨a, -⟩
  · exact .inl (by omega)
  · exact .inr a

theorem Rel.acted {r : Rk} {d : Dk} (h : Rel r d) (ho : d.refusal = 0) : Rel r.acted d.acted ∧ r.falls = d.falls := by
  obtain ⟨h1, h2⟩ := Dk.up_of ho
  rcases h.left h1 h2 with ⟨ha, hb, hc⟩ | ⟨ha, hb⟩
  · unfold Rk.acted Rk.falls Dk.falls
    rw [if_pos ha, if_pos ha]
    rcases (by omega : d.left = 1 ∨ 2 ≤ d.left) with h3 | h3
    · rw [(Dk.acted1 h3).1]
      refine ⟨⟨h.s, h.safe, by simp [hb, h3], h.lost, fun e => by simp at e⟩, by simp [hb, h3]⟩
    · rw [(Dk.acted2 h3).1]
      refine ⟨⟨h.s, h.safe, ?_, h.lost, fun _ _ => .inl ⟨ha, ?_, ?_⟩⟩, ?_⟩
      · simp only [h1]; simp; omega
      · show r.left - 1 = ((d.left - 1 : Nat) : Int); omega
      · show 1 ≤ d.left - 1; omega
      · have : ¬ (r.left - 1 ≤ 0) := by omega
        have h4 : ¬ d.left = 1 := by omega
        simp [this, h4]
  · unfold Rk.acted Rk.falls Dk.falls
    rw [if_neg (by rw [ha]; simp), if_neg (by rw [ha]; simp), (Dk.acted0 hb).1]
    exact ⟨h, by rw [hb]; rfl⟩

theorem ofL_size (xs : List UInt8) : (ofL xs).size = xs.length := by simp [ofL, ByteArray.size]
theorem ofL_append (xs ys : List UInt8) : ofL xs ++ ofL ys = ofL (xs ++ ys) := by
  apply ByteArray.ext
  simp [ofL]
theorem ofL_take (xs : List UInt8) (n : Nat) : (ofL xs).extract 0 n = ofL (xs.take n) := by
  apply ByteArray.ext
  simp [ofL]

theorem Rel.synced {r : Rk} {d : Dk} (h : Rel r d) : Rel r.synced d.synced ∧ r.syncedE = d.syncE := by
  by_cases ho : d.refusal = 0
  · have ho' := h.off.trans ho
    obtain ⟨hA, hF⟩ := h.acted ho
    cases hf : d.falls with
    | true =>
      rw [(Rk.synced_falls ho' (hF.trans hf)).1, (Rk.synced_falls ho' (hF.trans hf)).2, (Dk.synced_falls ho hf).1, (Dk.synced_falls ho hf).2]
      refine ⟨hA, ?_⟩
      unfold Dk.actE; rw [if_pos hf]
    | false =>
      rw [(Rk.synced_ok ho' (hF.trans hf)).1, (Rk.synced_ok ho' (hF.trans hf)).2, (Dk.synced_ok ho hf).1, (Dk.synced_ok ho hf).2]
      refine ⟨⟨hA.s, ?_, hA.down, hA.lost, hA.left⟩, ?_⟩
      · show (r.acted.s.size : Int) = (d.bytes.length : Int)
        rw [hA.s, ofL_size, (Dk.acted_bytes d).1]
      · unfold Dk.actE; rw [if_neg (by rw [hf]; simp)]
  · have ho' : r.off ≠ 0 := fun e => ho (h.off.symm.trans e)
    rw [(Rk.synced_no ho').1, (Rk.synced_no ho').2, (Dk.synced_ref ho).1, (Dk.synced_ref ho).2]
    exact ⟨h, h.off⟩

theorem Rel.cut {r : Rk} {d : Dk} (h : Rel r d) (n : Int) : Rel (r.cut n) (d.cut n) ∧ r.cutE n = d.cutE n := by
  by_cases ho : d.refusal = 0
  · have ho' := h.off.trans ho
    have hsz : (r.s.size : Int) = (d.bytes.length : Int) := by rw [h.s, ofL_size]
    by_cases hn : n < 0 ∨ (d.bytes.length : Int) < n
    · have hn' : n < 0 ∨ (r.s.size : Int) < n := by omega
      rw [(Rk.cut_arg ho' hn').1, (Rk.cut_arg ho' hn').2, (Dk.cut_arg ho hn).1, (Dk.cut_arg ho hn).2]
      exact ⟨h, rfl⟩
    · have hn' : ¬ (n < 0 ∨ (r.s.size : Int) < n) := by omega
      obtain ⟨hA, hF⟩ := h.acted ho
      cases hf : d.falls with
      | true =>
        rw [(Rk.cut_falls ho' hn' (hF.trans hf)).1, (Rk.cut_falls ho' hn' (hF.trans hf)).2, (Dk.cut_falls ho hn hf).1, (Dk.cut_falls ho hn hf).2]
        refine ⟨hA, ?_⟩
        unfold Dk.actE; rw [if_pos hf]
      | false =>
        rw [(Rk.cut_ok ho' hn' (hF.trans hf)).1, (Rk.cut_ok ho' hn' (hF.trans hf)).2, (Dk.cut_ok ho hn hf).1, (Dk.cut_ok ho hn hf).2]
        refine ⟨⟨?_, ?_, hA.down, hA.lost, hA.left⟩, ?_⟩
        · show r.acted.s.extract 0 n.toNat = ofL (d.bytes.take n.toNat)
          rw [hA.s, ofL_take, (Dk.acted_bytes d).1]
        · show (if n < r.acted.safe then n else r.acted.safe) = ((min d.safe n.toNat : Nat) : Int)
          rw [hA.safe, (Dk.acted_bytes d).2.1]
          split <;> omega
        · unfold Dk.actE; rw [if_neg (by rw [hf]; simp)]
  · have ho' : r.off ≠ 0 := fun e => ho (h.off.symm.trans e)
    rw [(Rk.cut_no n ho').1, (Rk.cut_no n ho').2, (Dk.cut_ref ho).1, (Dk.cut_ref ho).2]
    exact ⟨h, h.off⟩

theorem Rel.app {r : Rk} {d : Dk} (h : Rel r d) (xs : List UInt8) : Rel (r.app (ofL xs)) (d.app xs) ∧ r.appE (ofL xs) = d.appE xs := by
  by_cases ho : d.refusal = 0
  · have ho' := h.off.trans ho
    have hsz : r.s.size = d.bytes.length := by rw [h.s, ofL_size]
    have hsx := ofL_size xs
    by_cases hn : 65536 < d.bytes.length + xs.length
    · have hn' : 65536 < r.s.size + (ofL xs).size := by omega
      rw [(Rk.app_full ho' hn').1, (Rk.app_full ho' hn').2, (Dk.app_full ho hn).1, (Dk.app_full ho hn).2]
      exact ⟨h, rfl⟩
    · have hn' : ¬ 65536 < r.s.size + (ofL xs).size := by omega
      have hM : Rel (r.more (ofL xs)) { d with bytes := d.bytes ++ xs } := ⟨by show r.s ++ ofL xs = _; rw [h.s, ofL_append], h.safe, h.down, h.lost, h.left⟩
      have hoM : ({ d with bytes := d.bytes ++ xs } : Dk).refusal = 0 := ho
      obtain ⟨hA, hF⟩ := hM.acted hoM
      rw [(Dk.app_ok ho hn).1, (Dk.app_ok ho hn).2]
      cases hf : ({ d with bytes := d.bytes ++ xs } : Dk).falls with
      | true =>
        rw [(Rk.app_falls ho' hn' (hF.trans hf)).1, (Rk.app_falls ho' hn' (hF.trans hf)).2]
        refine ⟨hA, ?_⟩
        unfold Dk.actE; rw [if_pos hf]
      | false =>
        rw [(Rk.app_ok ho' hn' (hF.trans hf)).1, (Rk.app_ok ho' hn' (hF.trans hf)).2]
        refine ⟨hA, ?_⟩
        unfold Dk.actE; rw [if_neg (by rw [hf]; simp)]
  · have ho' : r.off ≠ 0 := fun e => ho (h.off.symm.trans e)
    rw [(Rk.app_no _ ho').1, (Rk.app_no _ ho').2, (Dk.app_ref ho).1, (Dk.app_ref ho).2]
    exact ⟨h, h.off⟩

theorem Rel.arm {r : Rk} {d : Dk} (h : Rel r d) (n : Int) : Rel (r.arm n) (d.armed n) := by
  unfold Rk.arm Dk.armed
  by_cases ho : d.refusal = 0
  · obtain ⟨h1, h2⟩ := Dk.up_of ho
    rw [if_pos ho, if_pos ⟨h.down.trans h1, h.lost.trans h2⟩]
    refine ⟨h.s, h.safe, h.down, h.lost, fun _ _ => ?_⟩
    rcases Int.lt_or_le 0 n with hn | hn
    · exact .inl ⟨by simp; omega, by show n = (n.toNat : Int); omega, by show 1 ≤ n.toNat; omega⟩
    · exact .inr ⟨by simp; omega, by show n.toNat = 0; omega⟩
  · rw [if_neg ho, if_neg (fun e => ho (by unfold Dk.refusal; rw [← h.lost, ← h.down, e.1, e.2]; rfl))]
    exact h

theorem Rel.up {r : Rk} {d : Dk} (h : Rel r d) (n : Int) : Rel (r.up n) (d.up n) := by
  unfold Rk.up Dk.up
  rw [h.lost]
  split
  · exact h
  · have e : r.safe.toNat + min n.toNat (r.s.size - r.safe.toNat) = d.safe + min n.toNat (d.bytes.length - d.safe) := by
      rw [h.safe, h.s, ofL_size]; simp
    rw [e]
    refine ⟨?_, rfl, rfl, rfl, fun _ _ => .inr ⟨rfl, rfl⟩⟩
    show r.s.extract 0 _ = ofL (d.bytes.take _)
    rw [h.s, ofL_take]

theorem Rel.gone : Rel Rk.none Dk.gone := ⟨rfl, rfl, rfl, rfl, fun _ h => by cases h⟩
theorem Rel.new : Rel ⟨⟨#[]⟩, 0, false, false, false, 0⟩ ⟨[], 0, false, false, 0⟩ := ⟨rfl, rfl, rfl, rfl, fun _ _ => .inr ⟨rfl, rfl⟩⟩
end Go.Proofs.YtpeinngifknpkaaGreatDoor
