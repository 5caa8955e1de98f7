/- Disks: arming, losses, restarts. -/
import Derived.ChangeAlike
import Derived.Test.YtpeinngifknpkaaGreatDoorDiskMore
namespace Go.Proofs.YtpeinngifknpkaaGreatDoor
open Go.RowKit Go.Sort

/-- What is left behind a call without an answer. -/
def TurnTo (w : World) (base g : Nat) (v : Value) (d : Dk) (e : Ending) (w' : World) : Prop := e = .returned (.tuple #[]) ∧ ∃ v', (rowOf v' = rowOf v ∨ rowOf v' = none) ∧ DiskAt w' base g v' d ∧ Turn w w' g none

def Dk.armed (d : Dk) (a : Int) : Dk := if d.refusal = 0 then { d with left := a.toNat } else d

theorem arm_any {w : World} {base g : Nat} {v : Value} {d : Dk} (h : DiskAt w base g v d) (a : Int) (ha : a ≤ 9223372036854775807) : Calls Tryz.prog 20 #[.pointer (some ⟨g, 0, none⟩), .int .i64 a] w (TurnTo w base g v (d.armed a)) := by
  have H := Lib.hid h
  have K := Lib.hid (refusal_any h)
  clear h
  by_cases hr : d.refusal = 0
  · rw [hr] at K
    go_enter Tryz.func20, Tryz.ntmps20
    go_wp2_with fail
    refine (K.out).mono ?_
    rintro e w2 ⟨rfl, hb⟩
    have H2 := Lib.hid (H.out.below hb (Nat.le_refl _))
    obtain ⟨-, -, -, -, -, c5⟩ := H2.out.six
    have f5 := H2.out.frozen 5
    have HE : ∀ z : Int, z = (a.toNat : Int) → Hid (TurnTo w base g v (d.armed a) (.returned (.tuple #[])) (w2.setCell ⟨g, 5, none⟩ (.int .i64 z))) := fun z hz => Lib.hid (by
      subst hz
      unfold Dk.armed; rw [if_pos hr]
      exact ⟨rfl, v, .inl rfl, H2.out.put_left _ (by omega), (Turn.ofBelow hb g none).trans (Turn.set _ _ _ _ none) (fun _ h => by cases h)⟩)
    clear H H2 hb K
    rcases Int.lt_or_le 0 a with hlt | hlt
    · have HE := HE a (by omega)
      have hlt' : ¬ (0 > a) := by omega
      go_wp2_with fail
      go_end0
      exact HE.out
    · rcases Int.lt_or_le a 0 with hl2 | hl2
      · have HE := HE 0 (by omega)
        go_wp2_with fail
        go_end0
        exact HE.out
      · have ha0 : a = 0 := by omega
        subst ha0
        have HE := HE 0 (by omega)
        go_wp2_with fail
        go_end0
        exact HE.out
  · have HE : ∀ w', Below w.heap.size w w' → TurnTo w base g v (d.armed a) (.returned (.tuple #[])) w' := fun w' hb => by
      unfold Dk.armed; rw [if_neg hr]
      exact ⟨rfl, v, .inl rfl, H.out.below hb (Nat.le_refl _), Turn.ofBelow hb _ _⟩
    have HE := Lib.hid HE
    clear H
    go_enter Tryz.func20, Tryz.ntmps20
    go_wp2_with fail
    refine (K.out).mono ?_
    rintro e w2 ⟨rfl, hb⟩
    have HB := Lib.hid (HE.out _ hb)
    clear hb
    go_wp2_with fail
    go_end0
    exact HB.out

def Dk.gone : Dk := ⟨[], 0, false, true, 0⟩

theorem lose_any {w : World} {base g : Nat} {v : Value} {d : Dk} (h : DiskAt w base g v d) : Calls Tryz.prog 24 #[.pointer (some ⟨g, 0, none⟩)] w (TurnTo w base g v Dk.gone) := by
  have H := Lib.hid h
  have K := Lib.hid (made_any h)
  clear h
  go_enter Tryz.func24, Tryz.ntmps24
  go_wp2_with fail
  refine (K.out).mono ?_
  rintro e w2 ⟨rfl, hb⟩
  have H2 := Lib.hid (H.out.below hb (Nat.le_refl _))
  obtain ⟨c0, c1, c2, c3, c4, c5⟩ := H2.out.six
  have f0 := H2.out.frozen 0
  have f1 := H2.out.frozen 1
  have f2 := H2.out.frozen 2
  have f3 := H2.out.frozen 3
  have f4 := H2.out.frozen 4
  have f5 := H2.out.frozen 5
  go_wp2_with fail
  go_end0
  refine ⟨rfl, .slice none 0 0, .inr rfl, ?_, (((((((Turn.ofBelow hb g none).trans (Turn.set _ _ _ _ none) (fun _ h => by cases h)).trans (Turn.set _ _ _ _ none) (fun _ h => by cases h)).trans (Turn.set _ _ _ _ none) (fun _ h => by cases h)).trans (Turn.set _ _ _ _ none) (fun _ h => by cases h)).trans (Turn.set _ _ _ _ none) (fun _ h => by cases h)).trans (Turn.set _ _ _ _ none) (fun _ h => by cases h))⟩
  refine ⟨H2.out.low, ?_, ByOwn.nil _ _, Nat.le_refl _, by simp [Dk.gone], by simp [Dk.gone]⟩
  have := H2.out.obj
  simp [World.setCell, Array.getElem?_modify, this, Dk.cells, Dk.gone]

def Dk.up (d : Dk) (keep : Int) : Dk := if d.lost = true then d else ⟨d.bytes.take (d.safe + min keep.toNat (d.bytes.length - d.safe)), d.safe + min keep.toNat (d.bytes.length - d.safe), false, false, 0⟩

theorem restart_any {w : World} {base g : Nat} {v : Value} {d : Dk} (h : DiskAt w base g v d) (keep : Int) : Calls Tryz.prog 22 #[.pointer (some ⟨g, 0, none⟩), .int .i64 keep] w (TurnTo w base g v (d.up keep)) := by
  have H := Lib.hid h
  have K := Lib.hid (made_any h)
  clear h
  cases hl : d.lost with
  | true =>
    have HE : ∀ w', Below w.heap.size w w' → TurnTo w base g v (d.up keep) (.returned (.tuple #[])) w' := fun w' hb => by
      unfold Dk.up; rw [if_pos hl]
      exact ⟨rfl, v, .inl rfl, H.out.below hb (Nat.le_refl _), Turn.ofBelow hb _ _⟩
    have HE := Lib.hid HE
    go_enter Tryz.func22, Tryz.ntmps22
    go_wp2_with fail
    refine (K.out).mono ?_
    rintro e w2 ⟨rfl, hb⟩
    have H2 := Lib.hid (H.out.below hb (Nat.le_refl _))
    obtain ⟨-, -, -, -, c4, -⟩ := H2.out.six
    rw [hl] at c4
    have HB := Lib.hid (HE.out _ hb)
    clear hb H H2
    go_wp2_with fail
    go_end0
    exact HB.out
  | false =>
    have hs := H.out.safe
    have hm := H.out.most
    obtain ⟨A, c, hv, hc, -⟩ := H.out.own.slice
    subst hv
    go_enter Tryz.func22, Tryz.ntmps22
    go_wp2_with fail
    refine (K.out).mono ?_
    rintro e w2 ⟨rfl, hb⟩
    have H2 := Lib.hid (H.out.below hb (Nat.le_refl _))
    obtain ⟨-, c1, c2, -, c4, -⟩ := H2.out.six
    have f1 := H2.out.frozen 1
    have f2 := H2.out.frozen 2
    have f3 := H2.out.frozen 3
    have f5 := H2.out.frozen 5
    rw [hl] at c4
    clear H
    have t1 := cell_regrown c1
    have t2 := cell_regrown c2
    go_wp2_with fail
    refine wp_region_quiet_below (by kernel_rfl) (by kernel_rfl) ?_
    repeat (go_big_quiet_step (fail))
    refine wpQuiet_nil ?_
    intro w3 hw3
    have hb3 : Below w2.heap.size w2 w3 := by
      obtain ⟨⟨dq, osq⟩, hw3⟩ := hw3
      subst hw3
      exact below_regrown _ _ _
    clear hw3 t1 t2
    have H3 := Lib.hid (H2.out.below hb3 (Nat.le_refl _))
    have HB := Lib.hid (hb.trans (hb3.mono hb.size))
    clear c1 c2 c4 f1 f2 f3 f5 H2 hb hb3
    obtain ⟨-, c1, c2, c3, -, c5⟩ := H3.out.six
    have f1 := H3.out.frozen 1
    have f2 := H3.out.frozen 2
    have f3 := H3.out.frozen 3
    have f5 := H3.out.frozen 5
    have HF : ∀ k : Nat, k = d.safe + min keep.toNat (d.bytes.length - d.safe) → Hid (TurnTo w base g (.slice A d.bytes.length c) (d.up keep) (.returned (.tuple #[])) ((((w3.setCell ⟨g, 1, none⟩ (.slice A k c)).setCell ⟨g, 2, none⟩ (.int .i64 (k : Int))).setCell ⟨g, 3, none⟩ (.bool false)).setCell ⟨g, 5, none⟩ (.int .i64 0)).drew) := fun k hk => Lib.hid (by
      have hkl : k ≤ d.bytes.length := by omega
      unfold Dk.up; rw [if_neg (show ¬ d.lost = true by rw [hl]; simp), ← hk]
      have ho := H3.out.own.take hkl
      have hne := H3.out.row_ne
      have hob := H3.out.obj
      have hdr : ∀ W : World, Turn W W.drew g none := fun W => Turn.ofBelow (Below.refl _ _).drew _ _
      refine ⟨rfl, .slice A k c, .inl rowOf_head, ⟨H3.out.low, ?_, ?_, ?_, ?_, by simp⟩, (((((Turn.ofBelow HB.out g none).trans (Turn.set _ _ _ _ none) (fun _ h => by cases h)).trans (Turn.set _ _ _ _ none) (fun _ h => by cases h)).trans (Turn.set _ _ _ _ none) (fun _ h => by cases h)).trans (Turn.set _ _ _ _ none) (fun _ h => by cases h)).trans (hdr _) (fun _ h => by cases h)⟩
      · simp [World.setCell, World.drew, Array.getElem?_modify, hob, Dk.cells, hl]
      · refine ho.kept fun j hj => ?_
        have hjg : j ≠ g := fun e => by rw [rowOf_head (n := d.bytes.length), e] at hj; exact hne hj
        show ((((w3.setCell ⟨g, 1, none⟩ (.slice A k c)).setCell ⟨g, 2, none⟩ (.int .i64 (k : Int))).setCell ⟨g, 3, none⟩ (.bool false)).setCell ⟨g, 5, none⟩ (.int .i64 0)).heap[j]? = _
        rw [Below.heap_setCell _ _ _ _ hjg, Below.heap_setCell _ _ _ _ hjg, Below.heap_setCell _ _ _ _ hjg, Below.heap_setCell _ _ _ _ hjg]
      · simp; omega
      · simp; omega)
    clear H3 HB
    generalize d.bytes.length = m at *
    go_wp2_with fail
    go_region
    generalize hz : ((d.safe : Int) + if (m : Int) - d.safe < (if keep < 0 then 0 else keep) then (m : Int) - d.safe else if keep < 0 then 0 else keep) = z
    have HE := HF z.toNat (by subst hz; split <;> split at * <;> omega)
    clear HF hz
    generalize z.toNat = k at *
    go_wp2_with fail
    all_goals (go_end0; exact HE.out)
end Go.Proofs.YtpeinngifknpkaaGreatDoor
