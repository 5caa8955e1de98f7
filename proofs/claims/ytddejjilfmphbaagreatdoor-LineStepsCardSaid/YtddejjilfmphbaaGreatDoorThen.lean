/- A state behind a state. -/
import Derived.Test.YtddejjilfmphbaaGreatDoorNewState
namespace Go.Proofs.YtddejjilfmphbaaGreatDoor
open Go.RowKit Go.Sort

theorem stOf_nil : stOf [] = fun _ => none := rfl

/-- What lies in memory while the state behind is reckoned. -/
structure Th (w : World) (g5 : Nat) (x : Nat → Option Int) (D : Nat → Nat → Option Int) (o : Nat → Option Int) (wr : World) : Prop where
  d : Blk wr (w.heap.size + 1) 69 (mV D).toArray
  r : Blk wr (w.heap.size + 2) 50 (List.replicate 16 (.int .i64 0)).toArray
  o : Blk wr g5 50 (sV o).toArray
  below : Below w.heap.size w wr
/-- The state behind, the first k places gone through; of place k the first q. -/
def apTo (x : Nat → Option Int) (D : Nat → Nat → Option Int) (k q : Nat) : Nat → Option Int := fun j => if j < q then MP.sup (k + 1) (fun i => MP.add (x i) (D i j)) else MP.sup k (fun i => MP.add (x i) (D i j))
theorem apTo_full (x : Nat → Option Int) (D : Nat → Nat → Option Int) (k : Nat) : sV (apTo x D k 16) = sV (apTo x D (k + 1) 0) := sV_congr fun i hi => by simp [apTo, hi]
theorem apTo_done (x : Nat → Option Int) (D : Nat → Nat → Option Int) : sV (apTo x D 16 0) = sV (MP.ap x D) := sV_congr fun i hi => by simp [apTo, MP.ap]
theorem apTo_none (x : Nat → Option Int) (D : Nat → Nat → Option Int) : sV (stOf []) = sV (apTo x D 0 0) := sV_congr fun i hi => by simp [apTo, stOf, MP.sup]
theorem sV_set (x : Nat → Option Int) (q : Nat) (v : Option Int) : (sV x).toArray.setIfInBounds q (tV v) = (sV fun j => if j = q then v else x j).toArray := by
  apply Array.ext'
  simp only [Array.toList_setIfInBounds]
  apply sV_ext
  · simp [sV_length]
  · intro i hi
    rw [List.getElem?_set, sV_length]
    by_cases h : q = i
    · subst h; rw [if_pos rfl, if_pos hi]; simp
    · rw [if_neg h, sV_get x hi, if_neg (fun e => h e.symm)]
theorem apTo_step (x : Nat → Option Int) (D : Nat → Nat → Option Int) (k q : Nat) : (fun j => if j = q then MP.mx (apTo x D k q q) (MP.add (x k) (D k q)) else apTo x D k q j) = apTo x D k (q + 1) := by
  funext j
  by_cases h : j = q
  · subst h; simp [apTo, MP.sup]
  · rw [if_neg h]
    simp only [apTo]
    by_cases h2 : j < q
    · rw [if_pos h2, if_pos (by omega)]
    · rw [if_neg h2, if_neg (by omega)]
theorem apTo_skip (x : Nat → Option Int) (D : Nat → Nat → Option Int) (k q : Nat) (h : MP.add (x k) (D k q) = none) : apTo x D k q = apTo x D k (q + 1) := by
  rw [← apTo_step, h]
  funext j
  by_cases e : j = q
  · subst e
    rw [if_pos rfl]
    cases apTo x D k j j <;> rfl
  · rw [if_neg e]
theorem apTo_small {x : Nat → Option Int} {D : Nat → Nat → Option Int} {b c : Int} (hb : ∀ i, MP.Small b (x i)) (hc : ∀ i j, MP.Small c (D i j)) (k q j : Nat) : MP.Small (b + c) (apTo x D k q j) := by
  unfold apTo
  split <;> exact MP.Small.sup fun i _ => (hb i).add (hc i j)

set_option maxRecDepth 100000 in
theorem then_any (x : Nat → Option Int) (D : Nat → Nat → Option Int) (b c : Int) (w : World) (hb : ∀ i, MP.Small b (x i)) (hc : ∀ i j, MP.Small c (D i j)) (h0 : 0 ≤ b) (h1 : 0 ≤ c) (h2 : b + c ≤ 4611686018427387904) :
    Calls Tryz.prog 33 #[.agg (sV x).toArray, .agg (mV D).toArray] w fun e w' => e = .returned (.agg (sV (MP.ap x D)).toArray) ∧ Below w.heap.size w w' := by
  have HB := Lib.hid hb
  have HC := Lib.hid hc
  clear hb hc
  go_enter Tryz.func33, Tryz.ntmps33
  go_wp2_with fail
  have h22 := newState_any none 0 0 [] (((w.alloc (.cells (sV x).toArray 50)).alloc (.cells (mV D).toArray 69)).alloc (.cells (List.replicate 16 (.int .i64 0)).toArray 50)) rfl (by omega) (Ints.nil _ _)
  refine h22.mono ?_
  rintro e w1 ⟨rfl, hb1⟩
  have HB1 := Lib.hid hb1
  clear hb1 h22
  have hs1 : w.heap.size + 3 ≤ w1.heap.size := by have := HB1.out.size; simpa using this
  have HD1 : Hid (Blk w1 (w.heap.size + 1) 69 (mV D).toArray) := Lib.hid (((Blk.newAt (w.alloc (.cells (sV x).toArray 50)) _ _ (by simp)).alloc _).below HB1.out (by simp))
  have HR1 : Hid (Blk w1 (w.heap.size + 2) 50 (List.replicate 16 (.int .i64 0)).toArray) := Lib.hid ((Blk.newAt ((w.alloc (.cells (sV x).toArray 50)).alloc (.cells (mV D).toArray 69)) _ _ (by simp)).below HB1.out (by simp))
  have HX1 : Hid (Blk w1 w.heap.size 50 (sV x).toArray) := Lib.hid ((((Blk.new w _ _).alloc _).alloc _).below HB1.out (by simp; omega))
  have HBW : Hid (Below w.heap.size w w1) := Lib.hid (((((Below.refl _ w).alloc (Nat.le_refl _) _).alloc (by simp) _).alloc (by simp; omega) _).trans (HB1.out.mono (by simp; omega)))
  go_upto_region 2 with (refine wpList_putrow rfl 50 (.tmp 5) (.tmp 10) rfl w1.heap.size _ rfl rfl 50 (List.replicate 16 (.int .i64 0)) (Blk.new w1 _ _) i_state rfl (sV_cell _) w1.heap.size w1 ((Below.refl _ _).alloc (Nat.le_refl _) _) (Nat.le_refl _) ?_; intro w2 H2 _ HB2)
  have HX2 := Lib.hid (HX1.out.below HB2.out (by omega))
  have HT : Hid (Th w w1.heap.size x D (apTo x D 0 0) w2) := Lib.hid ⟨HD1.out.below HB2.out (by omega), HR1.out.below HB2.out (by omega), by rw [← apTo_none]; exact H2.out, HBW.out.trans (HB2.out.mono (by omega))⟩
  clear HX1 HD1 HR1 HBW H2 HB2 HB1
  go_wp2_with (refine wpList_load_row rfl 50 (.tmp 2) rfl w.heap.size rfl _ _ (0, 0) _ HX2.out u_state rfl (by simpa [sV_length] using i_state) ?_)
  go_outline
  generalize w1.heap.size = g5 at *
  go_loopw [6, 7, 8, 9, 12, 18, 19] (fun _ _ _ _ i _ _ wr => ∃ k : Nat, k ≤ 16 ∧ i = .int .i64 k ∧ Th w g5 x D (apTo x D k 0) wr) (fun _ _ _ _ i _ _ _ => 16 - (intOf i).toNat)
  case atStart => exact ⟨0, by omega, rfl, HT.out⟩
  case round =>
    obtain ⟨k, hk, rfl, hT⟩ := hrel
    by_cases hlt : k < 16
    · obtain ⟨a, ha⟩ : ∃ a, MP.enc (x k) = a := ⟨_, rfl⟩
      have hix : ∀ W, (Instr.index 50 (.agg (sV x).toArray) (.int .i64 (k : Int))).run Tryz.prog W = .ok (.int .i64 a) W := fun W => by rw [← ha]; exact index_state 50 u_state x k hlt W
      have HA := Lib.hid ha
      have HT2 := Lib.hid hT
      have hra : wr.rangeAt (w.heap.size + 1) (k * 16) (sV (D k)) := fun j v hv => by
        have hj : j < 16 := by have := (List.getElem?_eq_some_iff.1 hv).1; rwa [sV_length] at this
        rw [HT2.out.d.cell]
        rw [sV_get _ hj] at hv
        rw [← Option.some.inj hv, Nat.mul_comm]
        simpa using mV_get D hlt hj
      have HRA := Lib.hid hra
      clear hT hra ha
      go_wp2_with (refine wpList_load_mid rfl 49 (.tmp 17) rfl (w.heap.size + 1) (k * 16) rfl _ _ HRA.out u_row rfl (by simpa [sV_length] using i_row) ?_)
      clear hix HRA
      go_loopw [8, 9, 19] (fun _ _ j wr => ∃ q : Nat, q ≤ 16 ∧ j = .int .i64 q ∧ Th w g5 x D (apTo x D k q) wr) (fun _ _ j _ => 16 - (intOf j).toNat)
      case atStart => exact ⟨0, by omega, rfl, HT2.out⟩
      case round =>
        obtain ⟨q, hq, rfl, hT⟩ := hrel
        by_cases hq16 : q < 16
        · obtain ⟨d, hd⟩ : ∃ d, MP.enc (D k q) = d := ⟨_, rfl⟩
          obtain ⟨o, ho⟩ : ∃ o, MP.enc (apTo x D k q q) = o := ⟨_, rfl⟩
          have hix : ∀ W, (Instr.index 49 (.agg (sV (D k)).toArray) (.int .i64 (q : Int))).run Tryz.prog W = .ok (.int .i64 d) W := fun W => by rw [← hd]; exact index_state 49 u_row (D k) q hq16 W
          have c1 : wr.cell? ⟨g5, q, none⟩ = some (.int .i64 o) := by rw [hT.o.cell, ← ho]; simpa [tV] using sV_get (apTo x D k q) hq16
          have f1 := hT.o.frozen q
          have HD := Lib.hid hd
          have HO := Lib.hid ho
          have HT3 := Lib.hid hT
          clear hT hd ho
          by_cases hn : a = -9223372036854775808 ∨ d = -9223372036854775808
          · have HSK : Hid (apTo x D k q = apTo x D k (q + 1)) := Lib.hid (apTo_skip x D k q (by
              rcases hn with h | h
              · have := HA.out
                cases hx : x k with
                | none => rfl
                | some u => rw [hx] at this; have := HB.out k u hx; simp only [MP.enc] at *; omega
              · have := HD.out
                cases hx : D k q with
                | none => cases x k <;> rfl
                | some u => rw [hx] at this; have := HC.out k q u hx; simp only [MP.enc] at *; omega))
            have HT4 : Hid (Th w g5 x D (apTo x D k (q + 1)) wr) := Lib.hid (by rw [← HSK.out]; exact HT3.out)
            clear HSK HT3 HO HD HA
            by_cases ha : a = -9223372036854775808
            · subst ha
              clear hn
              go_wp2_with fail
              go_roundw
              case rel => exact ⟨q + 1, by omega, by go_num, HT4.out⟩
              case measure => simp [intOf]; omega
            · obtain rfl : d = -9223372036854775808 := hn.resolve_left ha
              have hu : (a != -9223372036854775808) = true := by simp; omega
              clear hn
              go_wp2_with fail
              go_roundw
              case rel => exact ⟨q + 1, by omega, by go_num, HT4.out⟩
              case measure => simp [intOf]; omega
          · have hs : ∃ u v, x k = some u ∧ D k q = some v ∧ a = u ∧ d = v ∧ -b ≤ u ∧ u ≤ b ∧ -c ≤ v ∧ v ≤ c := by
              have h3 := HA.out
              have h4 := HD.out
              cases hx : x k with
              | none => rw [hx] at h3; exact absurd (.inl h3.symm) hn
              | some u =>
                cases hy : D k q with
                | none => rw [hy] at h4; exact absurd (.inr h4.symm) hn
                | some v =>
                  rw [hx] at h3
                  rw [hy] at h4
                  have h5 := HB.out k u hx
                  have h6 := HC.out k q v hy
                  exact ⟨u, v, rfl, rfl, h3.symm, h4.symm, h5.1, h5.2, h6.1, h6.2⟩
            obtain ⟨u, v, hx, hy, rfl, rfl, l1, l2, l3, l4⟩ := hs
            have hu : (a != -9223372036854775808) = true := by simp; omega
            have hv : (d != -9223372036854775808) = true := by simp; omega
            have l5 : -4611686018427387904 ≤ a + d := by omega
            have l6 : a + d ≤ 4611686018427387904 := by omega
            have HST : Hid (∀ z, z = MP.enc (MP.mx (apTo x D k q q) (MP.add (x k) (D k q))) → Th w g5 x D (apTo x D k (q + 1)) (wr.setCell ⟨g5, q, none⟩ (.int .i64 z))) := Lib.hid fun z hz => by
              subst hz
              refine ⟨HT3.out.d.same (Below.heap_setCell _ _ _ _ (by show w.heap.size + 1 ≠ g5; omega)), HT3.out.r.same (Below.heap_setCell _ _ _ _ (by show w.heap.size + 2 ≠ g5; omega)), ?_, HT3.out.below.setCell (by simp; omega) _⟩
              have := HT3.out.o.set_ q (tV (MP.mx (apTo x D k q q) (MP.add (x k) (D k q))))
              rwa [sV_set, apTo_step] at this
            have HMX : Hid (MP.enc (MP.mx (apTo x D k q q) (MP.add (x k) (D k q))) = if o < a + d then a + d else o) := Lib.hid (by
              have h3 := MP.enc_mx (b := b + c) (by omega) (apTo_small HB.out HC.out k q q) (MP.Small.add (HB.out k) (HC.out k q))
              rw [HO.out, hx, hy] at h3
              rw [hx, hy]
              exact h3)
            clear hx hy
            by_cases hlo : o < a + d
            · go_wp2_with fail
              go_roundw
              case rel => exact ⟨q + 1, by omega, by go_num, HST.out _ (by rw [HMX.out, if_pos hlo])⟩
              case measure => simp [intOf]; omega
            · go_wp2_with fail
              go_roundw
              case rel => exact ⟨q + 1, by omega, by go_num, HST.out _ (by rw [HMX.out, if_neg hlo])⟩
              case measure => simp [intOf]; omega
        · obtain rfl : q = 16 := by omega
          have HT3 := Lib.hid hT
          clear hT
          go_wp2_with fail
          go_roundw
          case rel => exact ⟨k + 1, by omega, by go_num, HT3.out.d, HT3.out.r, by rw [← apTo_full]; exact HT3.out.o, HT3.out.below⟩
          case measure => simp [intOf]; omega
    · obtain rfl : k = 16 := by omega
      have HT3 := Lib.hid hT
      clear hT
      have HE : Hid (sV (apTo x D 16 0) = sV (MP.ap x D)) := Lib.hid (apTo_done x D)
      go_wp2_with (first | (refine wpList_load_row rfl 50 (.tmp 5) rfl g5 rfl _ _ (0, 0) _ HT3.out.o u_state rfl (by simpa [sV_length] using i_state) ?_) | (refine wpList_putrow rfl 50 (.tmp 4) (.tmp 40) rfl (w.heap.size + 2) _ rfl rfl _ _ HT3.out.r (by simpa [sV_length] using i_state) rfl (sV_cell _) w.heap.size w HT3.out.below (by omega) ?_; intro w9 H9 _ HB9))
      exact bodyPost_ret (v := .agg (sV (apTo x D 16 0)).toArray) (results_cell_row rfl _ _ (w.heap.size + 2) _ _ (0, 0) _ rfl H9.out u_state rfl (by simpa [sV_length] using i_state)) rfl ⟨by rw [HE.out], HB9.out⟩
end Go.Proofs.YtddejjilfmphbaaGreatDoor
