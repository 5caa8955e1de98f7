/- Powers of delays. -/
import Derived.Test.YtddejjilfmphbaaGreatDoorDelays
namespace Go.Proofs.YtddejjilfmphbaaGreatDoor
open Go.RowKit Go.Sort

def PowTo (D : Nat → Nat → Option Int) (c : Int) (n : Nat) (w : World) (e : Ending) (w' : World) : Prop :=
  ∃ M, e = .returned (.agg (mV M).toArray) ∧ MP.IsPow D n M ∧ (∀ i j, MP.Small (n * c) (M i j)) ∧ Below w.heap.size w w'

structure Tp (w : World) (Z : List Value) (D : Nat → Nat → Option Int) (wr : World) : Prop where
  d : Blk wr w.heap.size 69 (mV D).toArray
  r : Blk wr (w.heap.size + 1) 69 Z.toArray
  below : Below w.heap.size w wr
  size : w.heap.size + 2 ≤ wr.heap.size
theorem Tp.below_ {w wr wx : World} {Z : List Value} {D : Nat → Nat → Option Int} (h : Tp w Z D wr) (hb : Below wr.heap.size wr wx) : Tp w Z D wx :=
  ⟨h.d.below hb h.d.lt, h.r.below hb h.r.lt, h.below.trans (hb.mono (by have := h.size; omega)), Nat.le_trans h.size hb.size⟩

set_option maxRecDepth 100000 in
set_option maxHeartbeats 8000000 in
theorem power_any (D : Nat → Nat → Option Int) (c : Int) (hc : ∀ i j, MP.Small c (D i j)) (h0 : 0 ≤ c) : ∀ (n : Nat) (w : World), 1 ≤ n → (n : Int) ≤ 1000000000 → (n : Int) * c ≤ 4611686018427387904 →
    Calls Tryz.prog 34 #[.agg (mV D).toArray, .int .i64 (n : Int)] w (PowTo D c n w) := by
  intro n
  induction n using Nat.strongRecOn with
  | ind n ih =>
  intro w h1 hn h2
  have HC := Lib.hid hc
  have IH := Lib.hid ih
  obtain ⟨Z, HZ, hz⟩ : ∃ Z : List Value, Hid (Z.length = 256) ∧ ∀ W, (zeroValue 69).run Tryz.prog W = .ok (.agg Z.toArray) W := ⟨zeros256, Lib.hid (by simp [zeros256]), zero_delays⟩
  have H2 := Lib.hid h2
  clear hc ih h2
  go_enter Tryz.func34, Tryz.ntmps34
  go_upto_region 1 with (fail)
  have HT : Hid (Tp w Z D ((w.alloc (.cells (mV D).toArray 69)).alloc (.cells Z.toArray 69))) := Lib.hid
    ⟨(Blk.new w _ _).alloc _, Blk.newAt _ _ _ (by simp), ((Below.refl _ w).alloc (Nat.le_refl _) _).alloc (by simp) _, by simp⟩
  generalize ((w.alloc (.cells (mV D).toArray 69)).alloc (.cells Z.toArray 69)) = w3 at *
  by_cases hn1 : n = 1
  · subst hn1
    go_wp2_with (first | (refine wpList_load_row rfl 69 (.tmp 2) rfl w.heap.size rfl _ _ (0, 0) _ HT.out.d u_delays rfl (by simpa [mV_length] using i_delays) ?_) | (refine wpList_putrow rfl 69 (.tmp 4) (.tmp 9) rfl (w.heap.size + 1) _ rfl rfl _ _ HT.out.r (by simpa [mV_length] using i_delays) (by rw [HZ.out, mV_length]) (mV_cell _) w.heap.size w HT.out.below (by omega) ?_; intro w9 H9 _ HB9))
    exact bodyPost_ret (v := .agg (mV D).toArray) (results_cell_row rfl _ _ (w.heap.size + 1) _ _ (0, 0) _ rfl H9.out u_delays rfl (by simpa [mV_length] using i_delays)) rfl ⟨D, rfl, MP.isPow_one D, fun i j => (HC.out i j).mono (by omega), HB9.out⟩
  · have hne : ((n : Int) == 1) = false := by simp; omega
    have hn2 : 1 ≤ n / 2 := by omega
    go_wp2_with (first | (refine wpList_load_row rfl 69 (.tmp 2) rfl w.heap.size rfl _ _ (0, 0) _ HT.out.d u_delays rfl (by simpa [mV_length] using i_delays) ?_))
    have hh : ((n / 2 : Nat) : Int) * c ≤ (n : Int) * c := Int.mul_le_mul_of_nonneg_right (by omega) h0
    have hh2 : ((n / 2 : Nat) : Int) * c + ((n / 2 : Nat) : Int) * c ≤ (n : Int) * c := by
      rw [← Int.add_mul]; exact Int.mul_le_mul_of_nonneg_right (by omega) h0
    have hh0 : 0 ≤ ((n / 2 : Nat) : Int) * c := Int.mul_nonneg (by omega) h0
    have K := IH.out (n / 2) (by omega) w3 hn2 (by omega) (by have := H2.out; omega)
    rw [show ((n / 2 : Nat) : Int) = (n : Int) / 2 by omega] at K
    refine K.mono ?_
    clear K
    rintro e w4 ⟨M1, rfl, hp1, hs1, hb4⟩
    have HP1 := Lib.hid hp1
    have HS1 := Lib.hid hs1
    have HT4 := Lib.hid (HT.out.below_ hb4)
    have HHH := Lib.hid (And.intro hh (And.intro hh2 hh0))
    clear hp1 hs1 hb4 HT IH hh hh2 hh0
    go_upto_region 4 with (refine wpList_putrow rfl 69 (.tmp 5) (.tmp 13) rfl w4.heap.size _ rfl rfl _ Z (Blk.new w4 _ _) (by simpa [mV_length] using i_delays) (by rw [HZ.out, mV_length]) (mV_cell _) w4.heap.size w4 ((Below.refl _ _).alloc (Nat.le_refl _) _) (Nat.le_refl _) ?_; intro w5 H5 _ HB5)
    have HT5 := Lib.hid (HT4.out.below_ HB5.out)
    clear HT4 HB5
    go_wp2_with (first | (refine wpList_load_row rfl 69 (.tmp 5) rfl w4.heap.size rfl _ _ (0, 0) _ H5.out u_delays rfl (by simpa [mV_length] using i_delays) ?_))
    refine (times_any M1 M1 (((n / 2 : Nat) : Int) * c) (((n / 2 : Nat) : Int) * c) w5 HS1.out HS1.out HHH.out.2.2 HHH.out.2.2 (by have := HHH.out.2.1; have := H2.out; omega)).mono ?_
    rintro e w6 ⟨rfl, hb6⟩
    have HT6 := Lib.hid (HT5.out.below_ hb6)
    clear hb6 HT5 H5
    have HP2 : Hid (MP.IsPow D (n / 2 + n / 2) (MP.mul M1 M1)) := Lib.hid (HP1.out.mul HP1.out)
    have HS2 : Hid (∀ i j, MP.Small (((n / 2 : Nat) : Int) * c + ((n / 2 : Nat) : Int) * c) (MP.mul M1 M1 i j)) := Lib.hid fun i j => MP.Small.ap (HS1.out i) HS1.out j
    clear HP1 HS1
    generalize MP.mul M1 M1 = M2 at *
    go_upto_region 5 with (refine wpList_putrow rfl 69 (.tmp 6) (.tmp 17) rfl w6.heap.size _ rfl rfl _ Z (Blk.new w6 _ _) (by simpa [mV_length] using i_delays) (by rw [HZ.out, mV_length]) (mV_cell _) w6.heap.size w6 ((Below.refl _ _).alloc (Nat.le_refl _) _) (Nat.le_refl _) ?_; intro w7 H7 _ HB7)
    have HT7 := Lib.hid (HT6.out.below_ HB7.out)
    have hs67 := HB7.out.size
    have hs6 := HT6.out.size
    have h7 := (Array.getElem?_eq_some_iff.1 H7.out).1
    clear HT6 HB7
    generalize w6.heap.size = g6 at *
    by_cases hodd : n % 2 = 1
    · have ho : ((n : Int) % 2 == 1) = true := by simp; omega
      have HN : Hid (n / 2 + n / 2 + 1 = n) := Lib.hid (by omega)
      go_wp2_with (first | (refine wpList_load_row rfl 69 (.tmp 6) rfl g6 rfl _ _ (0, 0) _ H7.out u_delays rfl (by simpa [mV_length] using i_delays) ?_) | (refine wpList_load_row rfl 69 (.tmp 2) rfl w.heap.size rfl _ _ (0, 0) _ HT7.out.d u_delays rfl (by simpa [mV_length] using i_delays) ?_))
      have hh3 : ((n / 2 : Nat) : Int) * c + ((n / 2 : Nat) : Int) * c + c = (n : Int) * c := by
        rw [← Int.add_mul, show ((n / 2 : Nat) : Int) + ((n / 2 : Nat) : Int) = (n : Int) - 1 by omega, Int.sub_mul]; omega
      refine (times_any M2 D _ c w7 HS2.out HC.out (by have := HHH.out.2.2; omega) h0 (by rw [hh3]; exact H2.out)).mono ?_
      rintro e w8 ⟨rfl, hb8⟩
      have HT8 := Lib.hid (HT7.out.below_ hb8)
      have HB8 := Lib.hid hb8
      have H8 : Hid (Blk w8 g6 69 (mV M2).toArray) := Lib.hid ((show Blk w7 g6 _ _ from H7.out).below hb8 h7)
      have HP3 : Hid (MP.IsPow D n (MP.mul M2 D)) := Lib.hid (by have := HP2.out.mul (MP.isPow_one D); rwa [HN.out] at this)
      have HS3 : Hid (∀ i j, MP.Small ((n : Int) * c) (MP.mul M2 D i j)) := Lib.hid fun i j => by rw [← hh3]; exact MP.Small.ap (HS2.out i) HC.out j
      clear hb8 H7 HT7 hh3 HP2 HS2
      generalize MP.mul M2 D = M3 at *
      go_upto_region 7 with (refine wpList_putrow rfl 69 (.tmp 6) (.tmp 24) rfl g6 _ rfl rfl _ _ H8.out (by simpa [mV_length] using i_delays) (by rw [mV_length, mV_length]) (mV_cell _) g6 w8 (Below.refl _ _) (Nat.le_refl _) ?_; intro w9 H9 HO9 HB9)
      have HR9 : Hid (Blk w9 (w.heap.size + 1) 69 Z.toArray) := Lib.hid (HT8.out.r.same (HO9.out _ (by omega)))
      have HBB9 : Hid (Below w.heap.size w w9) := Lib.hid (HT8.out.below.trans (HB9.out.mono (by omega)))
      clear HT8 HB9 H8 HO9
      go_wp2_with (first | (refine wpList_load_row rfl 69 (.tmp 6) rfl g6 rfl _ _ (0, 0) _ H9.out u_delays rfl (by simpa [mV_length] using i_delays) ?_) | (refine wpList_putrow rfl 69 (.tmp 4) (.tmp 25) rfl (w.heap.size + 1) _ rfl rfl _ _ HR9.out (by simpa [mV_length] using i_delays) (by rw [HZ.out, mV_length]) (mV_cell _) w.heap.size w HBB9.out (by omega) ?_; intro wa Ha _ HBa))
      exact bodyPost_ret (v := .agg (mV M3).toArray) (results_cell_row rfl _ _ (w.heap.size + 1) _ _ (0, 0) _ rfl Ha.out u_delays rfl (by simpa [mV_length] using i_delays)) rfl ⟨M3, rfl, HP3.out, HS3.out, HBa.out⟩
    · have ho : ((n : Int) % 2 == 1) = false := by simp; omega
      have HN : Hid (n / 2 + n / 2 = n) := Lib.hid (by omega)
      have HP3 : Hid (MP.IsPow D n M2) := Lib.hid (by have := HP2.out; rwa [HN.out] at this)
      have HS3 : Hid (∀ i j, MP.Small ((n : Int) * c) (M2 i j)) := Lib.hid fun i j => (HS2.out i j).mono (by have := HHH.out.2.1; exact this)
      go_wp2_with (first | (refine wpList_load_row rfl 69 (.tmp 6) rfl g6 rfl _ _ (0, 0) _ H7.out u_delays rfl (by simpa [mV_length] using i_delays) ?_) | (refine wpList_putrow rfl 69 (.tmp 4) (.tmp 25) rfl (w.heap.size + 1) _ rfl rfl _ _ HT7.out.r (by simpa [mV_length] using i_delays) (by rw [HZ.out, mV_length]) (mV_cell _) w.heap.size w HT7.out.below (by omega) ?_; intro wa Ha _ HBa))
      exact bodyPost_ret (v := .agg (mV M2).toArray) (results_cell_row rfl _ _ (w.heap.size + 1) _ _ (0, 0) _ rfl Ha.out u_delays rfl (by simpa [mV_length] using i_delays)) rfl ⟨M2, rfl, HP3.out, HS3.out, HBa.out⟩
end Go.Proofs.YtddejjilfmphbaaGreatDoor
