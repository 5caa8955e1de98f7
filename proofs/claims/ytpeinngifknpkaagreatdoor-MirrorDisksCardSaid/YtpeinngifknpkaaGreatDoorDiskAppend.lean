/- Disks: appends. -/
import Derived.Test.YtpeinngifknpkaaGreatDoorDiskTurns
namespace Go.Proofs.YtpeinngifknpkaaGreatDoor
open Go.RowKit Go.Sort

/-- Append. -/
def Dk.app (d : Dk) (xs : List UInt8) : Dk := if d.refusal ≠ 0 then d else if 65536 < d.bytes.length + xs.length then d else { d.acted with bytes := d.bytes ++ xs }
def Dk.appE (d : Dk) (xs : List UInt8) : Int := if d.refusal ≠ 0 then d.refusal else if 65536 < d.bytes.length + xs.length then 8 else d.actE
theorem Dk.app_ref {d : Dk} {xs : List UInt8} (h : d.refusal ≠ 0) : d.app xs = d ∧ d.appE xs = d.refusal := by
  unfold Dk.app Dk.appE; rw [if_pos h, if_pos h]; exact ⟨rfl, rfl⟩
theorem Dk.app_full {d : Dk} {xs : List UInt8} (h : d.refusal = 0) (hn : 65536 < d.bytes.length + xs.length) : d.app xs = d ∧ d.appE xs = 8 := by
  unfold Dk.app Dk.appE; rw [if_neg (show ¬ d.refusal ≠ 0 from fun e => e h), if_neg (show ¬ d.refusal ≠ 0 from fun e => e h), if_pos hn, if_pos hn]; exact ⟨rfl, rfl⟩
theorem Dk.acted_of (d : Dk) (xs : List UInt8) : ({ d with bytes := xs } : Dk).acted = { d.acted with bytes := xs } ∧ ({ d with bytes := xs } : Dk).actE = d.actE := by
  refine ⟨?_, rfl⟩
  unfold Dk.acted
  dsimp only
  split
  · rfl
  · split <;> rfl
theorem Dk.app_ok {d : Dk} {xs : List UInt8} (h : d.refusal = 0) (hn : ¬ 65536 < d.bytes.length + xs.length) : d.app xs = ({ d with bytes := d.bytes ++ xs } : Dk).acted ∧ d.appE xs = ({ d with bytes := d.bytes ++ xs } : Dk).actE := by
  unfold Dk.app Dk.appE; rw [if_neg (show ¬ d.refusal ≠ 0 from fun e => e h), if_neg (show ¬ d.refusal ≠ 0 from fun e => e h), if_neg hn, if_neg hn]; exact ⟨(Dk.acted_of d _).1.symm, (Dk.acted_of d _).2.symm⟩

theorem DiskAt.put_app {w w' : World} {base g : Nat} {v v' : Value} {d : Dk} (h : DiskAt w base g v d) {xs : List UInt8} (ho : ByOwn w' base v' (d.bytes ++ xs)) (hg : w.grownBy w' (rowOf v)) (hl : rowOf v' = rowOf v ∨ rowOf v' = some w.heap.size ∨ rowOf v' = none) (hm : d.bytes.length + xs.length ≤ 65536) :
    DiskAt (w'.setCell ⟨g, 1, none⟩ v') base g v' { d with bytes := d.bytes ++ xs } ∧ Turn w (w'.setCell ⟨g, 1, none⟩ v') g (rowOf v) ∧ (rowOf v' = rowOf v ∨ ∀ k, rowOf v' = some k → w.heap.size ≤ k) := by
  have hlt := h.lt
  have hne : rowOf v' ≠ some g := fun e => by
    rcases hl with h1 | h1 | h1
    · exact h.row_ne (h1.symm.trans e)
    · rw [h1] at e; simp only [Option.some.injEq] at e; omega
    · rw [h1] at e; cases e
  refine ⟨⟨h.low, ?_, ho.kept fun k hk => Below.heap_setCell _ _ _ _ (fun e => hne (by rw [hk, e])), ?_, ?_, h.left⟩, (Turn.grown hg g).trans (Turn.set _ _ _ _ _) (fun _ h => .inl h), ?_⟩
  · have hob : w'.heap[g]? = _ := (hg.block g hlt (fun e => h.row_ne e.symm)).trans h.obj
    simp [World.setCell, Array.getElem?_modify, hob, Dk.cells]
  · have := h.safe; simp; omega
  · simp; omega
  · rcases hl with h1 | h1 | h1
    · exact .inl h1
    · exact .inr fun k hk => by rw [h1] at hk; simp only [Option.some.injEq] at hk; omega
    · exact .inr fun k hk => by rw [h1] at hk; cases hk

theorem DiskAt.app_cell {w w' : World} {base g : Nat} {v : Value} {d : Dk} (h : DiskAt w base g v d) (hg : w.grownBy w' (rowOf v)) : w'.frozen? ⟨g, 1, none⟩ = false ∧ w'.cell? ⟨g, 1, none⟩ = some v := by
  have hob : w'.heap[g]? = _ := (hg.block g h.lt (fun e => h.row_ne e.symm)).trans h.obj
  exact ⟨by simp [World.frozen?, hob], by rw [cell_of_row w' g 1 _ _ (0, 0) hob]; rfl⟩

theorem append_any {w : World} {base g : Nat} {v : Value} {d : Dk} (h : DiskAt w base g v d) (A : Option Addr) (n c : Nat) (xs : List UInt8) (hn : xs.length = n) (hx : ByAt w A xs) (hbase : base ≤ w.heap.size) :
    Calls Tryz.prog 26 #[.pointer (some ⟨g, 0, none⟩), .slice A n c] w (ByTo w base g v (d.app xs) (d.appE xs)) := by
  have H := Lib.hid h
  have K := Lib.hid (refusal_any h)
  have HX := Lib.hid hx
  have HN := Lib.hid hn
  clear h hx hn
  by_cases hr : d.refusal = 0
  · have hm := H.out.most
    rw [hr] at K
    go_enter Tryz.func26, Tryz.ntmps26
    go_wp2_with fail
    refine (K.out).mono ?_
    rintro e w2 ⟨rfl, hb⟩
    have H2 := Lib.hid (H.out.below hb (Nat.le_refl _))
    have HX2 := Lib.hid (HX.out.below hb)
    have KR := Lib.hid (room_any H2.out)
    have HB := Lib.hid hb
    clear hb
    generalize hmm : d.bytes.length = m at *
    have hmm := Lib.hid hmm
    go_wp2_with fail
    refine (KR.out).mono ?_
    rintro e w3 ⟨rfl, hb3⟩
    have H3 := Lib.hid (H2.out.below hb3 (Nat.le_refl _))
    have HX3 := Lib.hid (HX2.out.below hb3)
    have HB3 := Lib.hid (HB.out.trans (hb3.mono HB.out.size))
    have hz3 : base ≤ w3.heap.size := Nat.le_trans hbase HB3.out.size
    clear H2 HX2 HX hb3 HB KR
    obtain ⟨-, c1, -⟩ := H3.out.six
    have f1 := H3.out.frozen 1
    rcases Nat.lt_or_ge 65536 (m + n) with hfull | hfit
    · have HE : Hid (ByTo w base g v (d.app xs) (d.appE xs) (.returned (.int .i64 8)) w3) := Lib.hid (by
        have hfu : 65536 < d.bytes.length + xs.length := by rw [hmm.out, HN.out]; exact hfull
        rw [(Dk.app_full hr hfu).1, (Dk.app_full hr hfu).2]
        exact ActTo.by ⟨rfl, H3.out, Turn.ofBelow HB3.out _ _⟩)
      have hgd : decide ((n : Int) > 65536 - (m : Int)) = true := by simp; omega
      clear H H3 HX3 HB3
      go_wp2_with fail
      go_ret
      exact HE.out
    · have hfu : ¬ 65536 < d.bytes.length + xs.length := by rw [hmm.out, HN.out]; omega
      have hfu := Lib.hid hfu
      have hgd : decide ((n : Int) > 65536 - (m : Int)) = false := by simp; omega
      go_wp2_with (at_builtin; refine wpList_bapp rfl _ _ rfl base v d.bytes xs A n c rfl rfl H3.out.own HN.out HX3.out (by rw [hmm.out, HN.out]; omega) hz3 ?_; intro v4 w4 ho hg hl4; have HA := Lib.hid (H3.out.put_app ho hg hl4 (by rw [hmm.out, HN.out]; omega)); obtain ⟨f4, c4'⟩ := H3.out.app_cell hg; obtain ⟨A4, c4, rfl, -, -⟩ := ho.slice; clear ho hg hl4; generalize (d.bytes ++ xs).length = q at *)
      obtain ⟨hD, hT, hl⟩ := HA.out
      have KA := Lib.hid (act_any hD)
      have HT := Lib.hid ((Turn.ofBelow HB3.out g (rowOf v)).trans hT (fun _ h => .inl h))
      have HL := Lib.hid hl
      clear hD hT hl HA
      go_wp2_with fail
      refine (KA.out).mono ?_
      rintro e w5 hact
      have HACT := Lib.hid hact
      clear hact KA
      obtain rfl := HACT.out.1
      go_wp2_with fail
      go_ret
      rw [(Dk.app_ok hr hfu.out).1, (Dk.app_ok hr hfu.out).2]
      refine ⟨rfl, _, ?_, HACT.out.2.1, HT.out.trans HACT.out.2.2 (fun _ h => by cases h)⟩
      rcases HL.out with h1 | h1
      · exact .inl h1
      · exact .inr fun k hk => Nat.le_trans HB3.out.size (h1 k hk)
  · have HE : ∀ w', Below w.heap.size w w' → ByTo w base g v (d.app xs) (d.appE xs) (.returned (.int .i64 d.refusal)) w' := fun w' hb => by
      rw [(Dk.app_ref hr).1, (Dk.app_ref hr).2]
      exact ActTo.by ⟨rfl, H.out.below hb (Nat.le_refl _), Turn.ofBelow hb _ _⟩
    have HE := Lib.hid HE
    clear H
    go_enter Tryz.func26, Tryz.ntmps26
    go_wp2_with fail
    refine (K.out).mono ?_
    rintro e w2 ⟨rfl, hb⟩
    have HB := Lib.hid (HE.out _ hb)
    clear hb
    go_wp2_with fail
    go_ret
    exact HB.out
end Go.Proofs.YtpeinngifknpkaaGreatDoor
