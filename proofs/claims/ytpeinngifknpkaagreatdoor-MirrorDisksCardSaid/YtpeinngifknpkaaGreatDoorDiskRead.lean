/- Disks: what only looks at them. -/
import Derived.Test.YtpeinngifknpkaaGreatDoorDiskKit
namespace Go.Proofs.YtpeinngifknpkaaGreatDoor
open Go.RowKit Go.Sort

theorem DiskAt.below {w w' : World} {base g : Nat} {v : Value} {d : Dk} (h : DiskAt w base g v d) {N : Nat} (hb : Below N w w') (hN : w.heap.size ≤ N) : DiskAt w' base g v d :=
  ⟨h.low, (hb.block g (by have := h.lt; omega)).trans h.obj, h.own.kept (fun k hk => hb.block k (by have := (h.own.row hk).2.1; omega)), h.safe, h.most, h.left⟩

def Dk.refusal (d : Dk) : Int := if d.lost = true then 10 else if d.down = true then 9 else 0

theorem made_any {w : World} {base g : Nat} {v : Value} {d : Dk} (h : DiskAt w base g v d) : Calls Tryz.prog 55 #[.pointer (some ⟨g, 0, none⟩)] w fun e w' => e = .returned (.bool true) ∧ Below w.heap.size w w' := by
  obtain ⟨c0, -⟩ := h.six
  have hq := fun W => eq_ptr W ⟨g, 0, none⟩
  clear h
  go_enter Tryz.func55, Tryz.ntmps55
  go_wp2
  go_ret
  exact ⟨rfl, Below.refl _ _⟩

theorem refusal_any {w : World} {base g : Nat} {v : Value} {d : Dk} (h : DiskAt w base g v d) : Calls Tryz.prog 57 #[.pointer (some ⟨g, 0, none⟩)] w fun e w' => e = .returned (.int .i64 d.refusal) ∧ Below w.heap.size w w' := by
  have H := Lib.hid h
  have K := Lib.hid (made_any h)
  clear h
  have fin : ∀ (lo dn : Bool), d.lost = lo → d.down = dn → Calls Tryz.prog 57 #[.pointer (some ⟨g, 0, none⟩)] w fun e w' => e = .returned (.int .i64 (if lo = true then 10 else if dn = true then 9 else 0)) ∧ Below w.heap.size w w' := by
    intro lo dn hlo hdn
    go_enter Tryz.func57, Tryz.ntmps57
    go_wp2_with fail
    refine (K.out).mono ?_
    rintro e w2 ⟨rfl, hb⟩
    have H2 := Lib.hid (H.out.below hb (Nat.le_refl _))
    obtain ⟨-, -, -, c3, c4, -⟩ := H2.out.six
    rw [hdn] at c3
    rw [hlo] at c4
    have HB := Lib.hid hb
    clear hb
    cases lo with
    | true =>
      go_wp2_with fail
      go_ret
      exact ⟨rfl, HB.out⟩
    | false =>
      cases dn with
      | true =>
        go_wp2_with fail
        go_ret
        exact ⟨rfl, HB.out⟩
      | false =>
        go_wp2_with fail
        go_ret
        exact ⟨rfl, HB.out⟩
  exact fin _ _ rfl rfl

theorem size_any {w : World} {base g : Nat} {v : Value} {d : Dk} (h : DiskAt w base g v d) : Calls Tryz.prog 78 #[.pointer (some ⟨g, 0, none⟩)] w fun e w' => e = .returned (.int .i64 (d.bytes.length : Int)) ∧ Below w.heap.size w w' := by
  have H := Lib.hid h
  have K := Lib.hid (made_any h)
  clear h
  go_enter Tryz.func78, Tryz.ntmps78
  go_wp2_with fail
  refine (K.out).mono ?_
  rintro e w2 ⟨rfl, hb⟩
  have H2 := Lib.hid (H.out.below hb (Nat.le_refl _))
  obtain ⟨-, c1, -⟩ := H2.out.six
  obtain ⟨A, c, rfl, -, -⟩ := H2.out.own.slice
  go_wp2_with fail
  go_ret
  exact ⟨rfl, hb⟩

theorem room_any {w : World} {base g : Nat} {v : Value} {d : Dk} (h : DiskAt w base g v d) : Calls Tryz.prog 61 #[.pointer (some ⟨g, 0, none⟩)] w fun e w' => e = .returned (.int .i64 (65536 - (d.bytes.length : Int))) ∧ Below w.heap.size w w' := by
  have K := Lib.hid (size_any h)
  have hm := h.most
  clear h
  generalize d.bytes.length = n at *
  go_enter Tryz.func61, Tryz.ntmps61
  go_wp2_with fail
  refine (K.out).mono ?_
  rintro e w2 ⟨rfl, hb⟩
  go_wp2_with fail
  go_ret
  exact ⟨rfl, hb⟩

theorem down_any {w : World} {base g : Nat} {v : Value} {d : Dk} (h : DiskAt w base g v d) : Calls Tryz.prog 34 #[.pointer (some ⟨g, 0, none⟩)] w fun e w' => e = .returned (.bool d.down) ∧ Below w.heap.size w w' := by
  have H := Lib.hid h
  have K := Lib.hid (made_any h)
  clear h
  go_enter Tryz.func34, Tryz.ntmps34
  go_wp2_with fail
  refine (K.out).mono ?_
  rintro e w2 ⟨rfl, hb⟩
  have H2 := Lib.hid (H.out.below hb (Nat.le_refl _))
  obtain ⟨-, -, -, c3, -⟩ := H2.out.six
  go_wp2_with fail
  go_ret
  exact ⟨rfl, hb⟩

theorem lost_any {w : World} {base g : Nat} {v : Value} {d : Dk} (h : DiskAt w base g v d) : Calls Tryz.prog 62 #[.pointer (some ⟨g, 0, none⟩)] w fun e w' => e = .returned (.bool d.lost) ∧ Below w.heap.size w w' := by
  have H := Lib.hid h
  have K := Lib.hid (made_any h)
  clear h
  go_enter Tryz.func62, Tryz.ntmps62
  go_wp2_with fail
  refine (K.out).mono ?_
  rintro e w2 ⟨rfl, hb⟩
  have H2 := Lib.hid (H.out.below hb (Nat.le_refl _))
  obtain ⟨-, -, -, -, c4, -⟩ := H2.out.six
  go_wp2_with fail
  go_ret
  exact ⟨rfl, hb⟩
end Go.Proofs.YtpeinngifknpkaaGreatDoor
