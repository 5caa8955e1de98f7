/- Disks: the law's comparison. -/
import Derived.Laws.IdiomStrings
import Derived.Laws.BytesArg
import Derived.Test.YtpeinngifknpkaaGreatDoorDiskRefs2
namespace Go.Proofs.YtpeinngifknpkaaGreatDoor
open Go.RowKit Go.Sort

def ofL (xs : List UInt8) : ByteArray := ⟨xs.toArray⟩

theorem conv_by {W : World} {A : Option Addr} {xs : List UInt8} (h : ByAt W A xs) (c : Nat) : (convert 28 9 (.slice A xs.length c)).run Tryz.prog W = .ok (.string (ofL xs)) W := by
  cases A with
  | none =>
    have hx0 : xs = [] := Classical.byContradiction fun hn => by obtain ⟨b, off, e, -⟩ := h hn; cases e
    subst hx0
    exact run_convert_bytes_nil W _ 5 Tryz.underlying28 Tryz.underlying5 0 c _ Tryz.underlying9
  | some a =>
    refine run_convert_bytes_back W _ _ 5 a c xs Tryz.underlying28 Tryz.underlying5 Tryz.underlying9 fun j hj => ?_
    obtain ⟨b, off, e, -, hc⟩ := h (by intro e; subst e; simp at hj)
    obtain rfl := Option.some.inj e
    have e : (⟨b, off, none⟩ : Addr).add j = ⟨b, off + j, none⟩ := by unfold Addr.add; split <;> simp_all
    rw [e]
    exact hc j _ (List.getElem?_eq_getElem hj)

/-- What stays through the comparison. -/
structure SameS (w w' : World) (base g : Nat) (v : Value) (d : Dk) : Prop where
  below : Below w.heap.size w w'
  size : w.heap.size < w'.heap.size
  disk : DiskAt w' base g v d
  c0 : w'.cell? ⟨w.heap.size, 0, none⟩ = some (.string (ofL d.bytes))
  c2 : w'.cell? ⟨w.heap.size, 2, none⟩ = some (.bool d.down)
  c3 : w'.cell? ⟨w.heap.size, 3, none⟩ = some (.bool d.lost)
theorem SameS.drew {w w' : World} {base g : Nat} {v : Value} {d : Dk} (h : SameS w w' base g v d) : SameS w w'.drew base g v d := ⟨h.below.drew, h.size, h.disk.below (Below.refl _ _).drew (Nat.le_refl _), h.c0, h.c2, h.c3⟩
theorem SameS.call {w w' w'' : World} {base g : Nat} {v : Value} {d : Dk} (h : SameS w w' base g v d) (hb : Below w'.heap.size w' w'') : SameS w w'' base g v d :=
  ⟨h.below.trans (hb.mono (by have := h.size; omega)), Nat.lt_of_lt_of_le h.size hb.size, h.disk.below hb (Nat.le_refl _), (hb.cell (p := ⟨_, 0, none⟩) h.size).trans h.c0, (hb.cell (p := ⟨_, 2, none⟩) h.size).trans h.c2, (hb.cell (p := ⟨_, 3, none⟩) h.size).trans h.c3⟩

theorem SameS.all {w w' : World} {base g : Nat} {v : Value} {d : Dk} (h : SameS w w' base g v d) : SameS w w' base g v d ∧ w'.cell? ⟨w.heap.size, 0, none⟩ = some (.string (ofL d.bytes)) ∧ w'.cell? ⟨w.heap.size, 2, none⟩ = some (.bool d.down) ∧ w'.cell? ⟨w.heap.size, 3, none⟩ = some (.bool d.lost) := ⟨h, h.c0, h.c2, h.c3⟩
theorem same_drew {w w' : World} {base g : Nat} {v : Value} {d : Dk} (p : SameS w w' base g v d ∧ w'.cell? ⟨w.heap.size, 0, none⟩ = some (.string (ofL d.bytes)) ∧ w'.cell? ⟨w.heap.size, 2, none⟩ = some (.bool d.down) ∧ w'.cell? ⟨w.heap.size, 3, none⟩ = some (.bool d.lost)) : SameS w w'.drew base g v d ∧ w'.drew.cell? ⟨w.heap.size, 0, none⟩ = some (.string (ofL d.bytes)) ∧ w'.drew.cell? ⟨w.heap.size, 2, none⟩ = some (.bool d.down) ∧ w'.drew.cell? ⟨w.heap.size, 3, none⟩ = some (.bool d.lost) := p.1.drew.all
theorem same_call {w w' w'' : World} {base g : Nat} {v : Value} {d : Dk} (p : SameS w w' base g v d ∧ w'.cell? ⟨w.heap.size, 0, none⟩ = some (.string (ofL d.bytes)) ∧ w'.cell? ⟨w.heap.size, 2, none⟩ = some (.bool d.down) ∧ w'.cell? ⟨w.heap.size, 3, none⟩ = some (.bool d.lost)) (hb : Below w'.heap.size w' w'') : SameS w w'' base g v d ∧ w''.cell? ⟨w.heap.size, 0, none⟩ = some (.string (ofL d.bytes)) ∧ w''.cell? ⟨w.heap.size, 2, none⟩ = some (.bool d.down) ∧ w''.cell? ⟨w.heap.size, 3, none⟩ = some (.bool d.lost) := (p.1.call hb).all
theorem same_disk {w w' : World} {base g : Nat} {v : Value} {d : Dk} (p : SameS w w' base g v d ∧ w'.cell? ⟨w.heap.size, 0, none⟩ = some (.string (ofL d.bytes)) ∧ w'.cell? ⟨w.heap.size, 2, none⟩ = some (.bool d.down) ∧ w'.cell? ⟨w.heap.size, 3, none⟩ = some (.bool d.lost)) : DiskAt w' base g v d := p.1.disk

set_option maxHeartbeats 8000000 in
theorem same_any {w : World} {base g : Nat} {v : Value} {d : Dk} (h : DiskAt w base g v d) (safe : Int) (armed : Bool) (left : Int) :
    Calls Tryz.prog 28 #[.pointer (some ⟨g, 0, none⟩), (⟨ofL d.bytes, safe, d.down, d.lost, armed, left⟩ : Rk).val] w fun e w' => e = .returned (.bool true) ∧ Below w.heap.size w w' := by
  have H1 : SameS w (w.alloc (.cells #[.string (ofL d.bytes), .int .i64 safe, .bool d.down, .bool d.lost, .bool armed, .int .i64 left] 26)) base g v d :=
    ⟨(Below.refl _ _).alloc (Nat.le_refl _) _, by simp, h.below ((Below.refl _ _).alloc (Nat.le_refl _) _) (Nat.le_refl _), by simp, by simp, by simp⟩
  have hlt := h.lt
  clear h
  unfold Rk.val
  dsimp only
  go_enter Tryz.func28, Tryz.ntmps28
  go_wp2_with fail
  obtain ⟨hS, c0, c2, c3⟩ := H1.all
  clear H1
  go_region_with (first | ((go_at_call 50; (with_reducible refine (bytes_any (by first | exact hS.disk | exact hS.drew.disk)).mono ?_); rintro e w' ⟨v', rfl, ho, hb'⟩; obtain ⟨A4, c4, rfl, -, hby⟩ := ho.slice; have hcv := conv_by hby c4; have hS2 := SameS.call (by first | exact hS | exact hS.drew) hb'; clear ho hby hb' hS c0 c2 c3; have hS := hS2; clear hS2; obtain ⟨-, c0, c2, c3⟩ := hS.all)) | ((go_at_call 34; (with_reducible refine (down_any (by first | exact hS.disk | exact hS.drew.disk)).mono ?_); rintro e w' ⟨rfl, hb'⟩; have hS2 := SameS.call (by first | exact hS | exact hS.drew) hb'; clear hb' hS c0 c2 c3; have hS := hS2; clear hS2; obtain ⟨-, c0, c2, c3⟩ := hS.all)) | ((go_at_call 62; (with_reducible refine (lost_any (by first | exact hS.disk | exact hS.drew.disk)).mono ?_); rintro e w' ⟨rfl, hb'⟩; have hS2 := SameS.call (by first | exact hS | exact hS.drew) hb'; clear hb' hS c0 c2 c3; have hS := hS2; clear hS2; obtain ⟨-, c0, c2, c3⟩ := hS.all)))
  all_goals (
    have HB := Lib.hid hS.below
    clear hS
    go_wp2_with fail
    go_ret
    exact ⟨rfl, HB.out⟩)
end Go.Proofs.YtpeinngifknpkaaGreatDoor
