/- Disks: cuts, arming, restarts, losses, appends. -/
import Derived.Test.YtpeinngifknpkaaGreatDoorDiskActs
namespace Go.Proofs.YtpeinngifknpkaaGreatDoor
open Go.RowKit Go.Sort

theorem size_by (W : World) : (sizeOf 5).run Tryz.prog W = .ok 1 W := by
  obtain ⟨i0, hi0, hz0, hz1, hz2⟩ := info_bparts info_by
  simp [sizeOf, typeInfo, hi0, hz1]
theorem elem_by : Tryz.prog.elem 28 = 5 := by kernel_rfl
/-- The first elements of a slice. -/
theorem slice_head (W : World) (A : Option Addr) (n c : Nat) (m : Int) (h0 : 0 ≤ m) (h : m ≤ (c : Int)) : (Instr.slice 28 (.slice A n c) none (some (.int .i64 m)) none).run Tryz.prog W = .ok (.slice A m.toNat c) W := by
  have hu : Tryz.prog.underlying 28 = some (.slice (Tryz.prog.elem 28)) := by rw [elem_by]; exact Tryz.underlying28
  rw [run_slice_h W _ A n c hu .i64 m h0 h, elem_by, size_by]
  cases A with
  | none => simp [sliced, Result.andThen]
  | some a => simp [sliced, Result.andThen, Addr.add]

theorem DiskAt.put_bytes {w : World} {base g : Nat} {v : Value} {d : Dk} (h : DiskAt w base g v d) {v' : Value} {xs : List UInt8} (ho : ByOwn w base v' xs) (hne : rowOf v' ≠ some g) (n : Nat) (hn : n ≤ xs.length) (hm : xs.length ≤ 65536) :
    DiskAt ((w.setCell ⟨g, 1, none⟩ v').setCell ⟨g, 2, none⟩ (.int .i64 (n : Int))) base g v' { d with bytes := xs, safe := n } := by
  refine ⟨h.low, ?_, ?_, hn, hm, h.left⟩
  · simp [World.setCell, Array.getElem?_modify, h.obj, Dk.cells]
  · refine ho.kept fun k hk => ?_
    rw [Below.heap_setCell _ _ _ _ (fun e => hne (by rw [hk, e])), Below.heap_setCell _ _ _ _ (fun e => hne (by rw [hk, e]))]
theorem rowOf_head {A : Option Addr} {n c m : Nat} : rowOf (.slice A m c) = rowOf (.slice A n c) := by
  cases A <;> cases c <;> rfl

/-- Cut. -/
def Dk.cut (d : Dk) (n : Int) : Dk := if d.refusal ≠ 0 then d else if n < 0 ∨ (d.bytes.length : Int) < n then d else if d.falls = true then d.acted else { d.acted with bytes := d.bytes.take n.toNat, safe := min d.safe n.toNat }
def Dk.cutE (d : Dk) (n : Int) : Int := if d.refusal ≠ 0 then d.refusal else if n < 0 ∨ (d.bytes.length : Int) < n then 1 else d.actE
/-- What an act leaves, bytes besides. -/
def ByTo (w : World) (base g : Nat) (v : Value) (d : Dk) (r : Int) (e : Ending) (w' : World) : Prop := e = .returned (.int .i64 r) ∧ ∃ v', (rowOf v' = rowOf v ∨ ∀ k, rowOf v' = some k → w.heap.size ≤ k) ∧ DiskAt w' base g v' d ∧ Turn w w' g (rowOf v)

theorem Dk.cut_ref {d : Dk} {n : Int} (h : d.refusal ≠ 0) : d.cut n = d ∧ d.cutE n = d.refusal := by
  unfold Dk.cut Dk.cutE; rw [if_pos h, if_pos h]; exact ⟨rfl, rfl⟩
theorem Dk.cut_arg {d : Dk} {n : Int} (h : d.refusal = 0) (hn : n < 0 ∨ (d.bytes.length : Int) < n) : d.cut n = d ∧ d.cutE n = 1 := by
  unfold Dk.cut Dk.cutE; rw [if_neg (show ¬ d.refusal ≠ 0 from fun e => e h), if_neg (show ¬ d.refusal ≠ 0 from fun e => e h), if_pos hn, if_pos hn]; exact ⟨rfl, rfl⟩
theorem Dk.cut_falls {d : Dk} {n : Int} (h : d.refusal = 0) (hn : ¬ (n < 0 ∨ (d.bytes.length : Int) < n)) (hf : d.falls = true) : d.cut n = d.acted ∧ d.cutE n = d.actE := by
  unfold Dk.cut Dk.cutE; rw [if_neg (show ¬ d.refusal ≠ 0 from fun e => e h), if_neg (show ¬ d.refusal ≠ 0 from fun e => e h), if_neg hn, if_neg hn, if_pos hf]; exact ⟨rfl, rfl⟩
theorem Dk.cut_ok {d : Dk} {n : Int} (h : d.refusal = 0) (hn : ¬ (n < 0 ∨ (d.bytes.length : Int) < n)) (hf : d.falls = false) : d.cut n = { d.acted with bytes := d.bytes.take n.toNat, safe := min d.safe n.toNat } ∧ d.cutE n = d.actE := by
  unfold Dk.cut Dk.cutE; rw [if_neg (show ¬ d.refusal ≠ 0 from fun e => e h), if_neg (show ¬ d.refusal ≠ 0 from fun e => e h), if_neg hn, if_neg hn, if_neg (show ¬ d.falls = true by rw [hf]; simp)]; exact ⟨rfl, rfl⟩

theorem ActTo.by {w w' : World} {base g : Nat} {v : Value} {d : Dk} {r : Int} {e : Ending} (h : ActTo w base g v d r e w') : ByTo w base g v d r e w' :=
  ⟨h.1, v, .inl rfl, h.2.1, ⟨h.2.2.os, h.2.2.tape, h.2.2.output, h.2.2.size, fun k hk h1 _ => h.2.2.block k hk h1 (by simp)⟩⟩

theorem cut_any {w : World} {base g : Nat} {v : Value} {d : Dk} (h : DiskAt w base g v d) (n : Int) : Calls Tryz.prog 18 #[.pointer (some ⟨g, 0, none⟩), .int .i64 n] w (ByTo w base g v (d.cut n) (d.cutE n)) := by
  have H := Lib.hid h
  have K := Lib.hid (refusal_any h)
  clear h
  by_cases hr : d.refusal = 0
  · have HA := Lib.hid (Dk.acted_bytes d)
    have hae := d.falls_or
    have hlen := H.out.most
    rw [hr] at K
    go_enter Tryz.func18, Tryz.ntmps18
    go_wp2_with fail
    refine (K.out).mono ?_
    rintro e w2 ⟨rfl, hb⟩
    have H2 := Lib.hid (H.out.below hb (Nat.le_refl _))
    have KA := Lib.hid (act_any H2.out)
    obtain ⟨-, c1, -⟩ := H2.out.six
    obtain ⟨A, c, hv, hc, -⟩ := H2.out.own.slice
    by_cases hn : n < 0 ∨ (d.bytes.length : Int) < n
    · have HE : Hid (ByTo w base g v (d.cut n) (d.cutE n) (.returned (.int .i64 1)) w2) := Lib.hid (by
        rw [(Dk.cut_arg hr hn).1, (Dk.cut_arg hr hn).2]
        exact ActTo.by ⟨rfl, H2.out, Turn.ofBelow hb _ _⟩)
      clear hb KA
      subst hv
      generalize d.bytes.length = m at *
      clear H H2 HA
      by_cases h0 : n < 0
      · go_wp2_with fail
        go_ret
        exact HE.out
      · have h1 : (m : Int) < n := by omega
        go_wp2_with fail
        go_ret
        exact HE.out
    · have hs := H2.out.safe
      have HB := Lib.hid hb
      clear hb
      rw [not_or] at hn
      have h0 : 0 ≤ n := by omega
      have h1 : n ≤ (d.bytes.length : Int) := by omega
      have hn' : Hid (¬ (n < 0 ∨ (d.bytes.length : Int) < n)) := Lib.hid (by omega)
      have hg0 : decide (n < 0) = false := by simp; omega
      have hg1 : decide ((d.bytes.length : Int) < n) = false := by simp; omega
      subst hv
      go_wp2_with fail
      refine (KA.out).mono ?_
      rintro e w3 hact
      have HACT := Lib.hid (hact.after HB.out)
      clear hact
      obtain rfl := HACT.out.1
      rcases hae with ⟨hf, ha⟩ | ⟨hf, ha⟩
      · have HE : Hid (ByTo w base g (.slice A d.bytes.length c) (d.cut n) (d.cutE n) (.returned (.int .i64 9)) w3) := Lib.hid (by
          rw [(Dk.cut_falls hr hn'.out hf).1, (Dk.cut_falls hr hn'.out hf).2, ha]
          exact ActTo.by ⟨rfl, HACT.out.2⟩)
        rw [ha]
        clear HACT
        go_wp2_with fail
        go_ret
        exact HE.out
      · have hD := HACT.out.2.1
        obtain ⟨-, c1', c2, -⟩ := hD.six
        have f1 := hD.frozen 1
        have f2 := hD.frozen 2
        rw [HA.out.2.1] at c2
        have hsl := fun W => slice_head W A d.bytes.length c n h0 (by omega)
        have HE : ∀ z : Int, z = ((min d.safe n.toNat : Nat) : Int) → Hid (ByTo w base g (.slice A d.bytes.length c) (d.cut n) (d.cutE n) (.returned (.int .i64 0)) ((w3.setCell ⟨g, 1, none⟩ (.slice A n.toNat c)).setCell ⟨g, 2, none⟩ (.int .i64 z))) := fun z hz => Lib.hid (by
          subst hz
          have := HACT.out
          rw [(Dk.cut_ok hr hn'.out hf).1, (Dk.cut_ok hr hn'.out hf).2, ha]
          have ho := this.2.1.own
          rw [HA.out.1] at ho
          have hne := this.2.1.row_ne
          refine ⟨rfl, .slice A n.toNat c, .inl rowOf_head, this.2.1.put_bytes (ho.take (by omega)) (by rw [rowOf_head (n := d.bytes.length)]; exact hne) _ (by simp; omega) (by simp; omega), ?_⟩
          exact ((ActTo.by this).2.choose_spec.2.2.trans (Turn.set _ _ _ _ _) (fun _ h => .inl h)).trans (Turn.set _ _ _ _ _) (fun _ h => .inl h))
        clear HACT hD H H2 HA
        rw [ha]
        rcases Int.lt_or_le n (d.safe : Int) with hlt | hlt
        · have HE := HE n (by omega)
          go_wp2_with fail
          go_ret
          exact HE.out
        · have HE := HE d.safe (by omega)
          have hlt' : ¬ n < (d.safe : Int) := by omega
          go_wp2_with fail
          go_ret
          exact HE.out
  · have HE : ∀ w', Below w.heap.size w w' → ByTo w base g v (d.cut n) (d.cutE n) (.returned (.int .i64 d.refusal)) w' := fun w' hb => by
      rw [(Dk.cut_ref hr).1, (Dk.cut_ref hr).2]
      exact ActTo.by ⟨rfl, H.out.below hb (Nat.le_refl _), Turn.ofBelow hb _ _⟩
    have HE := Lib.hid HE
    clear H
    go_enter Tryz.func18, Tryz.ntmps18
    go_wp2_with fail
    refine (K.out).mono ?_
    rintro e w2 ⟨rfl, hb⟩
    have HB := Lib.hid (HE.out _ hb)
    clear hb
    go_wp2_with fail
    go_ret
    exact HB.out
end Go.Proofs.YtpeinngifknpkaaGreatDoor
