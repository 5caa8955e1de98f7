/- Shape: the law's points: any points, with coordinates up to a limit. -/
import Derived.Test.YtnijcdphmibjaaaRefApart
namespace Go.Proofs.Ytnijcdphmibjaaa
open Go.RowKit Go.Sort
attribute [local go_sem ↓] run_min_mn run_max_mx

/-- A point's rest. -/
def tmP (p : Pt) : Pt := (p.1.tmod 10001, p.2.tmod 10001)
def foldL (xs : List Pt) : List Pt := xs.map tmP
theorem foldL_length (xs : List Pt) : (foldL xs).length = xs.length := by simp [foldL]
theorem tmod_bd (x : Int) : -10000 ≤ x.tmod 10001 ∧ x.tmod 10001 ≤ 10000 := by
  have a := Int.tmod_lt_of_pos x (b := 10001) (by omega)
  have b := Int.lt_tmod_of_pos x (b := 10001) (by omega)
  omega

def PointsTo (w : World) (l : List Pt) (e : Ending) (w' : World) : Prop := ∃ v, e = .returned v ∧ PtsOwn w' w.heap.size v l ∧ Below w.heap.size w w'

set_option maxRecDepth 100000 in
set_option maxHeartbeats 2000000 in
theorem points_any (A : Option Addr) (n c : Nat) (xs : List Pt) (w : World) (hn : xs.length = n) (hbig : n ≤ 9223372036854775807) (hx : PtsAt w A xs) (hw : ∀ x ∈ xs, (-9223372036854775808 ≤ x.1 ∧ x.1 ≤ 9223372036854775807) ∧ (-9223372036854775808 ≤ x.2 ∧ x.2 ≤ 9223372036854775807)) :
    Calls Try.prog 53 #[.slice A n c, .int .i64 10000, .int .i64 20] w (PointsTo w (foldL (xs.take 20))) := by
  have HN := Lib.hid hn
  have HX := Lib.hid hx
  have HW := Lib.hid hw
  clear hn hx hw
  go_enter Try.func53, Try.ntmps53
  go_wp2
  go_loopw [7, 8] (fun o i wr => ∃ k : Nat, k ≤ n ∧ k ≤ 20 ∧ i = .int .i64 k ∧ PtsOwn wr w.heap.size o (foldL (xs.take k)) ∧ Below w.heap.size w wr) (fun _ i _ => 20 - (intOf i).toNat)
  case atStart => exact ⟨0, Nat.zero_le _, by omega, rfl, by simpa [foldL] using PtsOwn.empty w, (Below.refl _ _).alloc (Nat.le_refl _) _⟩
  case round =>
    obtain ⟨k, hk, hk20, rfl, hown, hbr⟩ := hrel
    have HO := Lib.hid hown
    have HB := Lib.hid hbr
    have hsz := hbr.size
    clear hown
    by_cases hlt : k < n ∧ k < 20
    · obtain ⟨hlt, hlt2⟩ := hlt
      have hkl : k < xs.length := by rw [HN.out]; exact hlt
      obtain ⟨b, off, rfl, hb, hin⟩ := HX.out (by intro e; subst e; simp at hkl)
      obtain ⟨h1, h2⟩ := (hin.below hbr hb) k _ (List.getElem?_eq_getElem hkl)
      obtain ⟨⟨d3, d4⟩, d5, d6⟩ := HW.out _ (List.getElem_mem hkl)
      have HNX : Hid (foldL (xs.take (k + 1)) = foldL (xs.take k) ++ [tmP xs[k]]) := Lib.hid (by
        rw [List.take_succ_eq_append_getElem hkl]; unfold foldL; rw [List.map_append]; rfl)
      have HLN : Hid ((foldL (xs.take k)).length ≤ 100) := Lib.hid (by rw [foldL_length, List.length_take]; omega)
      generalize xs[k] = p at *
      generalize foldL (xs.take k) = cur at *
      obtain ⟨x, y⟩ := p
      replace d3 : -9223372036854775808 ≤ x := d3
      replace d4 : x ≤ 9223372036854775807 := d4
      replace d5 : -9223372036854775808 ≤ y := d5
      replace d6 : y ≤ 9223372036854775807 := d6
      have ne1 : u7.ownBlock ≠ some b := fun e => by have := (HO.out.base b e).1; omega
      have hB : b < wr.heap.size := by omega
      clear hin
      have l1 : b < (wr.alloc (.cells #[.int .i64 (x.tmod 10001), .int .i64 (y.tmod 10001)] 33)).drew.heap.size := by simp; omega
      have k1 : (wr.alloc (.cells #[.int .i64 (x.tmod 10001), .int .i64 (y.tmod 10001)] 33)).drew.cell? ⟨b, off + k * 2, none⟩ = some (.int .i64 x) := (World.cell?_alloc_lt wr _ ⟨b, _, none⟩ hB).trans h1
      have k2 : (wr.alloc (.cells #[.int .i64 (x.tmod 10001), .int .i64 (y.tmod 10001)] 33)).drew.cell? ⟨b, off + k * 2 + 1, none⟩ = some (.int .i64 y) := (World.cell?_alloc_lt wr _ ⟨b, _, none⟩ hB).trans h2
      have hlim : IntKind.i64.wrap 10001 = 10001 := by decide
      have hlim2 : IntKind.i64.wrap (10000 + 1) = 10001 := by decide
      have r1 : IntKind.i64.wrap (x.tmod 10001) = x.tmod 10001 := by have := tmod_bd x; rw [IntKind.wrap_i64]; omega
      have r2 : IntKind.i64.wrap (y.tmod 10001) = y.tmod 10001 := by have := tmod_bd y; rw [IntKind.wrap_i64]; omega
      go_wp2_with fail
      go_region_held3 (fun w' => w'.cell? ⟨b, off + k * 2, none⟩ = some (.int .i64 x) ∧ w'.cell? ⟨b, off + k * 2 + 1, none⟩ = some (.int .i64 y))
        (first
          | go_keep
          | exact ⟨(hgrow.cell_far _ l1 (Ne.symm ne1)).trans k1, (hgrow.cell_far _ l1 (Ne.symm ne1)).trans k2⟩)
        ((refine step_papp (by rfl) _ _ (by rfl) w.heap.size _ cur [(x.tmod 10001, y.tmod 10001)] (some ⟨wr.heap.size, 0, none⟩) 1 1 (by rfl) (by rfl) ((HO.out.alloc _).drew) rfl (PtsAt.one wr _ _) (by have := HLN.out; simp; omega) (by simp; omega) ?_; intro v1 w2 hown1 hgrow hat))
      have HO2 : Hid (PtsOwn w2 w.heap.size v1 (foldL (xs.take (k + 1)))) := Lib.hid (by rw [HNX.out]; exact hown1)
      have HB2 : Hid (Below w.heap.size w w2) := Lib.hid ((hbr.alloc (by omega) _).drew.grown hgrow (by simp; omega) (fun k hk => (HO.out.base k hk).1))
      clear hown1 hgrow hat k1 k2 l1 r1 r2
      go_wp2_with fail
      go_roundw
      case rel => exact ⟨k + 1, by omega, by omega, by go_num, HO2.out, HB2.out⟩
      case measure => simp [intOf]; omega
    · have HF : Hid (foldL (xs.take k) = foldL (xs.take 20)) := Lib.hid (by
        rcases Nat.lt_or_ge k 20 with g | g
        · rw [List.take_of_length_le (by rw [HN.out]; omega), List.take_of_length_le (by rw [HN.out]; omega)]
        · rw [show k = 20 by omega])
      by_cases g : k < n
      · have g20 : k = 20 := by omega
        go_wp2_with fail
        go_ret
        exact ⟨_, rfl, by rw [← HF.out]; exact HO.out, HB.out⟩
      · go_wp2_with fail
        go_ret
        exact ⟨_, rfl, by rw [← HF.out]; exact HO.out, HB.out⟩

end Go.Proofs.Ytnijcdphmibjaaa
