/- Disks: what turns them. -/
import Derived.Test.YtpeinngifknpkaaGreatDoorDiskRead
namespace Go.Proofs.YtpeinngifknpkaaGreatDoor
open Go.RowKit Go.Sort

theorem DiskAt.obj_put {w : World} {base g : Nat} {v : Value} {d : Dk} (h : DiskAt w base g v d) (i : Nat) (x : Value) : (w.setCell ⟨g, i, none⟩ x).heap[g]? = some (.cells ((d.cells g v).setIfInBounds i x) 92 (0, 0)) := by
  simp [World.setCell, Array.getElem?_modify, h.obj]
theorem DiskAt.own_put {w : World} {base g : Nat} {v : Value} {d : Dk} (h : DiskAt w base g v d) (i : Nat) (x : Value) : ByOwn (w.setCell ⟨g, i, none⟩ x) base v d.bytes :=
  h.own.kept fun k hk => Below.heap_setCell _ _ _ _ (fun e => h.row_ne (by rw [hk, e]))
theorem DiskAt.put_left {w : World} {base g : Nat} {v : Value} {d : Dk} (h : DiskAt w base g v d) (n : Nat) (hn : n ≤ 9223372036854775807) : DiskAt (w.setCell ⟨g, 5, none⟩ (.int .i64 (n : Int))) base g v { d with left := n } :=
  ⟨h.low, h.obj_put 5 _, h.own_put 5 _, h.safe, h.most, hn⟩
theorem DiskAt.put_down {w : World} {base g : Nat} {v : Value} {d : Dk} (h : DiskAt w base g v d) (b : Bool) : DiskAt (w.setCell ⟨g, 3, none⟩ (.bool b)) base g v { d with down := b } :=
  ⟨h.low, h.obj_put 3 _, h.own_put 3 _, h.safe, h.most, h.left⟩
theorem DiskAt.put_safe {w : World} {base g : Nat} {v : Value} {d : Dk} (h : DiskAt w base g v d) (n : Nat) (hn : n ≤ d.bytes.length) : DiskAt (w.setCell ⟨g, 2, none⟩ (.int .i64 (n : Int))) base g v { d with safe := n } :=
  ⟨h.low, h.obj_put 2 _, h.own_put 2 _, hn, h.most, h.left⟩
theorem Turn.refl (w : World) (g : Nat) (row : Option Nat) : Turn w w g row := ⟨rfl, rfl, rfl, Nat.le_refl _, fun _ _ _ _ => rfl⟩
theorem Turn.set (w : World) (g i : Nat) (x : Value) (row : Option Nat) : Turn w (w.setCell ⟨g, i, none⟩ x) g row := ⟨rfl, rfl, rfl, by simp, fun k _ h1 _ => Below.heap_setCell _ _ _ _ h1⟩
theorem Turn.ofBelow {w w' : World} (h : Below w.heap.size w w') (g : Nat) (row : Option Nat) : Turn w w' g row := ⟨h.os, h.tape, h.output, h.size, fun k hk _ _ => h.block k hk⟩
/-- One behind the other; the second one may turn what is new. -/
theorem Turn.trans {a b c : World} {g : Nat} {row row' : Option Nat} (h : Turn a b g row) (k : Turn b c g row') (hr : ∀ j, row' = some j → row = some j ∨ a.heap.size ≤ j) : Turn a c g row :=
  ⟨k.os.trans h.os, k.tape.trans h.tape, k.output.trans h.output, Nat.le_trans h.size k.size, fun j hj h1 h2 => (k.block j (Nat.lt_of_lt_of_le hj h.size) h1 (fun e => by
    rcases hr j e.symm with h3 | h3
    · exact h2 h3.symm
    · omega)).trans (h.block j hj h1 h2)⟩
theorem Turn.grown {w w' : World} {row : Option Nat} (h : w.grownBy w' row) (g : Nat) : Turn w w' g row := ⟨h.os, h.tape, h.output, h.size, fun k hk _ h2 => h.block k hk h2⟩

/-- An act is counted: does the disk go down in it? -/
def Dk.acted (d : Dk) : Dk := if d.left = 0 then d else if d.left = 1 then { d with left := 0, down := true } else { d with left := d.left - 1 }
def Dk.falls (d : Dk) : Bool := d.left == 1
def Dk.actE (d : Dk) : Int := if d.falls = true then 9 else 0

theorem Dk.acted0 {d : Dk} (h : d.left = 0) : d.acted = d ∧ d.actE = 0 := by
  unfold Dk.acted Dk.actE Dk.falls; rw [if_pos h, h]; exact ⟨rfl, rfl⟩
theorem Dk.acted1 {d : Dk} (h : d.left = 1) : d.acted = { d with left := 0, down := true } ∧ d.actE = 9 := by
  unfold Dk.acted Dk.actE Dk.falls; rw [h]; exact ⟨rfl, rfl⟩
theorem Dk.acted2 {d : Dk} (h : 2 ≤ d.left) : d.acted = { d with left := d.left - 1 } ∧ d.actE = 0 := by
  unfold Dk.acted Dk.actE Dk.falls
  rw [if_neg (by omega : ¬ d.left = 0), if_neg (by omega : ¬ d.left = 1)]
  exact ⟨rfl, by rw [show (d.left == 1) = false by simp; omega]; rfl⟩
theorem Dk.falls_or (d : Dk) : (d.falls = true ∧ d.actE = 9) ∨ (d.falls = false ∧ d.actE = 0) := by
  unfold Dk.actE
  cases d.falls with
  | true => exact .inl ⟨rfl, rfl⟩
  | false => exact .inr ⟨rfl, rfl⟩

/-- What an act leaves. -/
def ActTo (w : World) (base g : Nat) (v : Value) (d : Dk) (r : Int) (e : Ending) (w' : World) : Prop := e = .returned (.int .i64 r) ∧ DiskAt w' base g v d ∧ Turn w w' g none

theorem act_any {w : World} {base g : Nat} {v : Value} {d : Dk} (h : DiskAt w base g v d) : Calls Tryz.prog 58 #[.pointer (some ⟨g, 0, none⟩)] w (ActTo w base g v d.acted d.actE) := by
  have H := Lib.hid h
  have hl := h.left
  obtain ⟨-, -, -, c3, -, c5⟩ := h.six
  have f3 := h.frozen 3
  have f5 := h.frozen 5
  clear h
  rcases (by omega : d.left = 0 ∨ d.left = 1 ∨ 2 ≤ d.left) with h0 | h0 | h0
  · have HE : Hid (ActTo w base g v d.acted d.actE (.returned (.int .i64 0)) w) := Lib.hid (by
      rw [(Dk.acted0 h0).1, (Dk.acted0 h0).2]
      exact ⟨rfl, H.out, Turn.refl _ _ _⟩)
    rw [h0] at c5
    clear H
    go_enter Tryz.func58, Tryz.ntmps58
    go_wp2_with fail
    go_ret
    exact HE.out
  · have HE : Hid (ActTo w base g v d.acted d.actE (.returned (.int .i64 9)) ((w.setCell ⟨g, 5, none⟩ (.int .i64 0)).setCell ⟨g, 3, none⟩ (.bool true))) := Lib.hid (by
      rw [(Dk.acted1 h0).1, (Dk.acted1 h0).2]
      exact ⟨rfl, (H.out.put_left 0 (by omega)).put_down true, (Turn.set _ _ _ _ _).trans (Turn.set _ _ _ _ none) (fun _ h => by cases h)⟩)
    rw [h0] at c5
    clear H
    go_enter Tryz.func58, Tryz.ntmps58
    go_wp2_with fail
    go_ret
    exact HE.out
  · have HE : Hid (ActTo w base g v d.acted d.actE (.returned (.int .i64 0)) (w.setCell ⟨g, 5, none⟩ (.int .i64 ((d.left : Int) - 1)))) := Lib.hid (by
      rw [(Dk.acted2 h0).1, (Dk.acted2 h0).2, show (d.left : Int) - 1 = ((d.left - 1 : Nat) : Int) by omega]
      exact ⟨rfl, H.out.put_left (d.left - 1) (by omega), Turn.set _ _ _ _ _⟩)
    clear H
    go_enter Tryz.func58, Tryz.ntmps58
    go_wp2_with fail
    go_ret
    exact HE.out

/-- Sync. -/
def Dk.synced (d : Dk) : Dk := if d.refusal ≠ 0 then d else if d.falls = true then d.acted else { d.acted with safe := d.bytes.length }
def Dk.syncE (d : Dk) : Int := if d.refusal ≠ 0 then d.refusal else d.actE
theorem Dk.acted_bytes (d : Dk) : d.acted.bytes = d.bytes ∧ d.acted.safe = d.safe ∧ d.acted.lost = d.lost := by
  unfold Dk.acted; split
  · exact ⟨rfl, rfl, rfl⟩
  · split <;> exact ⟨rfl, rfl, rfl⟩
theorem ActTo.after {w w2 w' : World} {base g : Nat} {v : Value} {d : Dk} {r : Int} {e : Ending} (h : ActTo w2 base g v d r e w') (hb : Below w.heap.size w w2) : ActTo w base g v d r e w' :=
  ⟨h.1, h.2.1, (Turn.ofBelow hb g none).trans h.2.2 (fun _ h => by cases h)⟩
theorem Dk.refusal_cases (d : Dk) : d.refusal = 0 ∨ d.refusal = 9 ∨ d.refusal = 10 := by
  unfold Dk.refusal; split
  · exact .inr (.inr rfl)
  · split
    · exact .inr (.inl rfl)
    · exact .inl rfl

theorem Dk.synced_ref {d : Dk} (h : d.refusal ≠ 0) : d.synced = d ∧ d.syncE = d.refusal := by
  unfold Dk.synced Dk.syncE; rw [if_pos h, if_pos h]; exact ⟨rfl, rfl⟩
theorem Dk.synced_falls {d : Dk} (h : d.refusal = 0) (hf : d.falls = true) : d.synced = d.acted ∧ d.syncE = d.actE := by
  unfold Dk.synced Dk.syncE; rw [if_neg (show ¬ d.refusal ≠ 0 from fun e => e h), if_neg (show ¬ d.refusal ≠ 0 from fun e => e h), if_pos hf]; exact ⟨rfl, rfl⟩
theorem Dk.synced_ok {d : Dk} (h : d.refusal = 0) (hf : d.falls = false) : d.synced = { d.acted with safe := d.bytes.length } ∧ d.syncE = d.actE := by
  unfold Dk.synced Dk.syncE; rw [if_neg (show ¬ d.refusal ≠ 0 from fun e => e h), if_neg (show ¬ d.refusal ≠ 0 from fun e => e h), if_neg (show ¬ d.falls = true by rw [hf]; simp)]; exact ⟨rfl, rfl⟩

theorem sync_any {w : World} {base g : Nat} {v : Value} {d : Dk} (h : DiskAt w base g v d) : Calls Tryz.prog 16 #[.pointer (some ⟨g, 0, none⟩)] w (ActTo w base g v d.synced d.syncE) := by
  have H := Lib.hid h
  have K := Lib.hid (refusal_any h)
  clear h
  by_cases hr : d.refusal = 0
  · have HA := Lib.hid (Dk.acted_bytes d)
    have hae := d.falls_or
    rw [hr] at K
    go_enter Tryz.func16, Tryz.ntmps16
    go_wp2_with fail
    refine (K.out).mono ?_
    rintro e w2 ⟨rfl, hb⟩
    have H2 := Lib.hid (H.out.below hb (Nat.le_refl _))
    have KA := Lib.hid (act_any H2.out)
    have HB := Lib.hid hb
    clear hb
    go_wp2_with fail
    refine (KA.out).mono ?_
    rintro e w3 hact
    have HACT := Lib.hid (hact.after HB.out)
    clear hact
    obtain rfl := HACT.out.1
    rcases hae with ⟨hf, ha⟩ | ⟨hf, ha⟩
    · have HE : Hid (ActTo w base g v d.synced d.syncE (.returned (.int .i64 9)) w3) := Lib.hid (by
        rw [(Dk.synced_falls hr hf).1, (Dk.synced_falls hr hf).2, ha]
        exact ⟨rfl, HACT.out.2⟩)
      rw [ha]
      clear HACT
      go_wp2_with fail
      go_ret
      exact HE.out
    · have hD := HACT.out.2.1
      obtain ⟨-, c1, c2, -⟩ := hD.six
      have f2 := hD.frozen 2
      obtain ⟨A, c, hv, -, -⟩ := hD.own.slice
      rw [HA.out.1] at hv
      have HE : Hid (ActTo w base g v d.synced d.syncE (.returned (.int .i64 0)) (w3.setCell ⟨g, 2, none⟩ (.int .i64 (d.bytes.length : Int)))) := Lib.hid (by
        have := HACT.out
        rw [(Dk.synced_ok hr hf).1, (Dk.synced_ok hr hf).2, ha]
        exact ⟨rfl, this.2.1.put_safe d.bytes.length (by rw [HA.out.1]; exact Nat.le_refl _), this.2.2.trans (Turn.set _ _ _ _ none) (fun _ h => by cases h)⟩)
      rw [ha]
      subst hv
      clear HACT hD
      go_wp2_with fail
      go_ret
      exact HE.out
  · have HE : ∀ w', Below w.heap.size w w' → ActTo w base g v d.synced d.syncE (.returned (.int .i64 d.refusal)) w' := fun w' hb => by
      rw [(Dk.synced_ref hr).1, (Dk.synced_ref hr).2]
      exact ⟨rfl, H.out.below hb (Nat.le_refl _), Turn.ofBelow hb _ _⟩
    have HE := Lib.hid HE
    clear H
    go_enter Tryz.func16, Tryz.ntmps16
    go_wp2_with fail
    refine (K.out).mono ?_
    rintro e w2 ⟨rfl, hb⟩
    have HB := Lib.hid (HE.out _ hb)
    clear hb
    go_wp2_with fail
    go_ret
    exact HB.out
end Go.Proofs.YtpeinngifknpkaaGreatDoor
