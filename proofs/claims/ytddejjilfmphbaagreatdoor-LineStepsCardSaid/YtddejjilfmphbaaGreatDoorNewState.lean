/- newState: the state of given times. -/
import Derived.Test.YtddejjilfmphbaaGreatDoorArrs
namespace Go.Proofs.YtddejjilfmphbaaGreatDoor
open Go.RowKit Go.Sort

/-- The state of these times. -/
def stOf (xs : List Int) : Nat → Option Int := fun i => xs[i]?
/-- The first k places of a new state are filled with never. -/
def neverL (k : Nat) : List Value := List.replicate k (tV none) ++ List.replicate (16 - k) (.int .i64 0)
theorem neverL_length {k : Nat} (h : k ≤ 16) : (neverL k).length = 16 := by simp [neverL]; omega
theorem neverL_set {k : Nat} (h : k < 16) : (neverL k).toArray.setIfInBounds k (tV none) = (neverL (k + 1)).toArray := by
  apply Array.ext'
  simp only [Array.toList_setIfInBounds]
  apply List.ext_getElem?
  intro i
  have hl := neverL_length (k := k) (by omega)
  simp only [List.getElem?_set, hl]
  rcases Nat.lt_trichotomy k i with g | g | g
  · rw [if_neg (by omega)]
    simp only [neverL]
    rw [List.getElem?_append_right (by simp; omega), List.getElem?_append_right (by simp; omega)]
    simp only [List.length_replicate, List.getElem?_replicate]
    split <;> split <;> first | rfl | omega
  · subst g
    rw [if_pos rfl, if_pos h]
    simp only [neverL]
    rw [List.getElem?_append_left (by simp)]
    simp
  · rw [if_neg (by omega)]
    simp only [neverL]
    rw [List.getElem?_append_left (by simp; omega), List.getElem?_append_left (by simp; omega)]
    simp only [List.getElem?_replicate]
    rw [if_pos g, if_pos (by omega)]
theorem neverL_get {k i : Nat} (hk : k ≤ 16) (h : i < 16) : ∃ v, (neverL k)[i]? = some v := ⟨_, List.getElem?_eq_getElem (by rw [neverL_length hk]; exact h)⟩

theorem splice_never (xs : List Int) (h : xs.length ≤ 16) : splice (neverL 16) 0 (ints xs) = sV (stOf xs) := by
  have hl : (ints xs).length = xs.length := by simp [ints]
  apply sV_ext
  · simp [splice, hl, neverL_length]; omega
  · intro i hi
    simp only [splice, List.take_zero, List.nil_append, Nat.zero_add]
    rcases Nat.lt_or_ge i xs.length with g | g
    · rw [List.getElem?_append_left (by omega), ints_get]
      simp only [stOf, List.getElem?_eq_getElem g]
      rfl
    · rw [List.getElem?_append_right (by omega), List.getElem?_drop, hl]
      simp only [stOf, List.getElem?_eq_none g, neverL, Nat.sub_self, List.replicate_zero, List.append_nil]
      rw [List.getElem?_replicate, if_pos (by omega)]

def Fill (w wr : World) (k : Nat) : Prop := Blk wr w.heap.size 50 (List.replicate 16 (.int .i64 0)).toArray ∧ Blk wr (w.heap.size + 1) 50 (neverL k).toArray ∧ Below w.heap.size w wr

set_option maxRecDepth 100000 in
theorem newState_any (A : Option Addr) (n c : Nat) (xs : List Int) (w : World) (hn : xs.length = n) (h16 : n ≤ 16) (hx : Ints w A xs) :
    Calls Tryz.prog 22 #[.slice A n c] w fun e w' => e = .returned (.agg (sV (stOf xs)).toArray) ∧ Below w.heap.size w w' := by
  have HX := Lib.hid hx
  have HN := Lib.hid hn
  clear hx hn
  go_enter Tryz.func22, Tryz.ntmps22
  go_wp2_with fail
  have hF0 : Fill w ((w.alloc (.cells (List.replicate 16 (.int .i64 0)).toArray 50)).alloc (.cells (List.replicate 16 (.int .i64 0)).toArray 50)) 0 :=
    ⟨(Blk.new w _ _).alloc _, heap_alloc2_new w _ _, ((Below.refl _ _).alloc (Nat.le_refl _) _).alloc (by simp) _⟩
  have HF0 := Lib.hid hF0
  clear hF0
  go_loopw [4, 5] (fun _ i wr => ∃ k : Nat, k ≤ 16 ∧ i = .int .i64 k ∧ Fill w wr k) (fun _ i _ => 16 - (intOf i).toNat)
  case atStart => exact ⟨0, by omega, rfl, HF0.out⟩
  case round =>
    obtain ⟨k, hk, rfl, hF⟩ := hrel
    by_cases hlt : k < 16
    · obtain ⟨v, hv⟩ := neverL_get (by omega) hlt
      have c1 : wr.cell? ⟨w.heap.size + 1, k, none⟩ = some v := by rw [hF.2.1.cell]; simpa using hv
      have f1 := hF.2.1.frozen k
      have HF := Lib.hid hF
      clear hF hv
      go_wp2_with fail
      go_roundw
      case rel => exact ⟨k + 1, by omega, by go_num, (HF.out.1.same (Below.heap_setCell _ _ _ _ (by simp))), by have := HF.out.2.1.set_ k (tV none); rwa [neverL_set hlt] at this, HF.out.2.2.setCell (by simp) _⟩
      case measure => simp [intOf]; omega
    · obtain rfl : k = 16 := by omega
      have HF := Lib.hid hF
      clear hF
      have HXX : Hid (∀ j v, (ints xs)[j]? = some v → ∃ a, A = some a ∧ wr.cell? (a.add j) = some v) := Lib.hid fun j v hv => by
        rw [ints_get] at hv
        obtain ⟨x, hx, rfl⟩ := Option.map_eq_some_iff.1 hv
        obtain ⟨b, off, rfl, hb, hc⟩ := HX.out (by intro e; rw [e] at hx; cases hx)
        exact ⟨_, rfl, by rw [Addr.add_mid]; exact (HF.out.2.2.cell (p := ⟨b, _, none⟩) hb).trans (hc j x hx)⟩
      have HL : Hid ((ints xs).length = n) := Lib.hid (by rw [show (ints xs).length = xs.length by simp [ints]]; exact HN.out)
      have HM : Hid (Nat.min n 16 = n) := Lib.hid (Nat.min_eq_left h16)
      have hsl := slice_all
      have HZ : Hid ((splice (neverL 16) 0 (ints xs)) = sV (stOf xs)) := Lib.hid (splice_never xs (by rw [HN.out]; exact h16))
      go_upto_region 7 with (fail)
      go_wp2_with (first | (refine wpList_copy_splice rfl (.tmp 11) (.tmp 12) 25 25 rfl 3 Tryz.underlying25 (by kernel_rfl) _ _ 16 16 n c rfl rfl (w.heap.size + 1) 0 (neverL 16) _ HF.out.2.1 (ints xs) (by rw [HL.out, HM.out]) (fun h0 => ⟨rfl, by obtain ⟨a, ha, _⟩ := HXX.out 0 _ (List.getElem?_eq_getElem h0); exact ⟨a, ha, fun j v hv => by obtain ⟨a', ha', hc⟩ := HXX.out j v hv; rw [ha] at ha'; obtain rfl := Option.some.inj ha'; exact hc⟩⟩) (by rw [HL.out, neverL_length (by omega)]; omega) ints_cell (w.heap.size + 1) wr (Below.refl _ _) (Nat.le_refl _) ?_; intro w2 h2 hb2; have HB2 := Lib.hid (HF.out.2.2.trans (hb2.mono (by omega))); have HS := Lib.hid (HF.out.1.below hb2 (by omega)); clear hb2) | (refine wpList_load_row rfl 50 (.tmp 3) rfl (w.heap.size + 1) rfl _ _ (0, 0) _ h2.out u_state rfl (by rw [HZ.out]; exact i_state) ?_) | (refine wpList_putrow rfl 50 (.tmp 2) (.tmp 14) rfl w.heap.size _ rfl rfl _ _ HS.out (by rw [HZ.out]; exact i_state) (by rw [HZ.out]; rfl) (by rw [HZ.out]; exact sV_cell _) w.heap.size w HB2.out (Nat.le_refl _) ?_; intro w3 H3 _ HB3))
      exact bodyPost_ret (v := .agg (splice (neverL 16) 0 (ints xs)).toArray) (results_cell_row rfl _ _ w.heap.size _ _ (0, 0) _ rfl H3.out u_state rfl (by rw [HZ.out]; exact i_state)) rfl ⟨by rw [HZ.out], HB3.out⟩
end Go.Proofs.YtddejjilfmphbaaGreatDoor
