/- Twice the area: the reference's function. -/
import Derived.Test.YtnijcdphmibjaaaPoly
import Derived.Deep.RegionHeld3
import Derived.Deep.DrawnRows
import Derived.Deep.DeepCutAuto
namespace Go.Proofs.Ytnijcdphmibjaaa
open Go.RowKit Go.Sort
attribute [local go_sem ↓] run_min_mn run_max_mx Go.wp_at_zero Go.wp_at_succ

/-- Two variables that hold points. -/
def TwoPts (wr : World) (x y qx qy : Int) (s t : Value) (wx : World) : Prop :=
  ∃ g h : Nat, s = .pointer (some ⟨g, 0, none⟩) ∧ t = .pointer (some ⟨h, 0, none⟩) ∧ PtAt wx g x y ∧ PtAt wx h qx qy ∧ Below wr.heap.size wr wx

set_option maxHeartbeats 800000 in
theorem area2_any (b off n c : Nat) (l : List Pt) (w : World) (hl : l.length = n) (hn : 0 < n) (hn' : n ≤ 100) (h : PtsIn w b off l) (hb : b < w.heap.size) (hok : l.all okP = true) :
    Calls Try.prog 25 #[.slice (some ⟨b, off, none⟩) n c] w fun e w' =>
      e = .returned (.int .i64 (area2 l)) ∧ Below w.heap.size w w' := by
  go_enter Try.func25, Try.ntmps25
  go_wp2
  go_loopw [3, 4] (fun s i wr => ∃ k : Nat, k ≤ n ∧ i = .int .i64 k ∧ s = .int .i64 (area2To l k) ∧ Below w.heap.size w wr) (fun _ i _ => n - (intOf i).toNat)
  case atStart => exact ⟨0, Nat.zero_le _, rfl, rfl, Below.refl _ _⟩
  case round =>
    obtain ⟨k, hk, rfl, rfl, hbw⟩ := hrel
    by_cases hlt : k < n
    · obtain ⟨p, hp⟩ : ∃ p, l[k]? = some p := ⟨l[k]'(by omega), List.getElem?_eq_getElem _⟩
      obtain ⟨h1, h2⟩ := (h.below hbw hb) k p hp
      have N := fun W hW => Lib.hid (next_any b off n c l k W hl hn (by omega) (by omega) ((h.below hbw hb).below (B := wr.heap.size) hW (Nat.lt_of_lt_of_le hb hbw.size)))
      have e1 : area2To l (k + 1) = area2To l k + (p.1 * (nx l k).2 - (nx l k).1 * p.2) := by
        rw [area2To, List.getD_eq_getElem?_getD, hp]; rfl
      have okp : okP p = true := List.all_eq_true.1 hok p (List.mem_of_getElem? hp)
      have okq := nx_ok hok k
      have sb := area2To_bd hok k
      have E1 := Lib.hid e1
      clear e1
      generalize nx l k = q at *
      generalize area2To l k = s at *
      obtain ⟨x1, x2⟩ := okP_bd okp
      obtain ⟨x3, x4⟩ := okP_bd okq
      have A1 := mul_le_of_abs x1 x4
      have A2 := mul_le_of_abs x3 x2
      clear okp okq
      obtain ⟨x, y⟩ := p
      obtain ⟨qx, qy⟩ := q
      have hB : b < wr.heap.size := Nat.lt_of_lt_of_le hb hbw.size
      clear hp hl h hok
      go_wp2_with fail
      go_cut [5, 6] (fun s t wx => TwoPts wr x y qx qy s t wx)
      case first =>
        have lt2 : wr.heap.size < wr.heap.size + 1 + 1 := by omega
        have n1 := World.new_ne wr _ h1
        have n2 := World.new_ne wr _ h2
        go_region_held3 (fun w' => Below wr.heap.size wr w' ∧ w'.cell? ⟨b, off + k * 2, none⟩ = some (.int .i64 x) ∧ w'.cell? ⟨b, off + k * 2 + 1, none⟩ = some (.int .i64 y))
          (((repeat (first | refine keep_drew ?_ | refine keep_alloc ?_ hB _ | refine keep_set ?_ hB _ (by simp) _)); (first | assumption | exact hS | exact ⟨Below.refl _ _, h1, h2⟩)))
          (first | ((go_at_call 64; refine ((N _ ?_).out).mono ?_; (exact And.left (by assumption)); rintro e w' ⟨rfl, hb'⟩; have hS := keep_call (by assumption) hB hb'; obtain ⟨hc', hf'⟩ := old_cells hb'; have hz' := hb'.size; try simp at hz'; try (have hz2 : wr.heap.size < w'.heap.size := by omega))))
        all_goals (go_wp2_with fail; go_meet)
        all_goals
          have hS1 := hS.1
          refine ⟨_, _, rfl, rfl, ?_, ?_, ?_⟩
          · constructor <;> (first | (go_simp; done))
          · constructor <;> (first | (go_simp; done))
          · go_grown
      case rest =>
        obtain ⟨g, h, rfl, rfl, ⟨g1, g2⟩, ⟨k1, k2⟩, hbc⟩ := hcut
        have hc4 := hbc.size
        go_wp2
        go_roundw
        case rel => exact ⟨k + 1, by omega, by go_num, by rw [E1.out], hbw.trans (hbc.mono hbw.size)⟩
        case measure => simp [intOf]; omega
    · have hk' : k = n := by omega
      have e2 : area2To l k = area2 l := by rw [area2, hl, hk']
      have E2 := Lib.hid e2
      clear e2 hl hok h
      go_wp2
      go_ret
      exact ⟨ret_int E2.out, hbw⟩
end Go.Proofs.Ytnijcdphmibjaaa
