/- The delays of one arc. -/
import Derived.Test.YtddejjilfmphbaaGreatDoorPower
namespace Go.Proofs.YtddejjilfmphbaaGreatDoor
open Go.RowKit Go.Sort

/-- An arc: from, to, time. -/
structure Arc where
  f : Int
  t : Int
  d : Int
/-- A slice of arcs in memory. -/
def ArcsAt (w : World) (A : Option Addr) (l : List Arc) : Prop := l ≠ [] → ∃ b off, A = some ⟨b, off, none⟩ ∧ b < w.heap.size ∧
  ∀ (i : Nat) (a : Arc), l[i]? = some a → w.cell? ⟨b, off + i * 3, none⟩ = some (.int .i64 a.f) ∧ w.cell? ⟨b, off + i * 3 + 1, none⟩ = some (.int .i64 a.t) ∧ w.cell? ⟨b, off + i * 3 + 2, none⟩ = some (.int .i64 a.d)
theorem ArcsAt.below {w w' : World} {A : Option Addr} {l : List Arc} (h : ArcsAt w A l) (hb : Below w.heap.size w w') : ArcsAt w' A l := fun hne => by
  obtain ⟨b, off, e, hlt, hc⟩ := h hne
  exact ⟨b, off, e, Nat.lt_of_lt_of_le hlt hb.size, fun i a ha => ⟨(hb.cell (p := ⟨b, _, none⟩) hlt).trans (hc i a ha).1, (hb.cell (p := ⟨b, _, none⟩) hlt).trans (hc i a ha).2.1, (hb.cell (p := ⟨b, _, none⟩) hlt).trans (hc i a ha).2.2⟩⟩
def Arc.ok (a : Arc) : Prop := (0 ≤ a.f ∧ a.f < 16) ∧ (0 ≤ a.t ∧ a.t < 16) ∧ -1000000 ≤ a.d ∧ a.d ≤ 1000000
def addArc (D : Nat → Nat → Option Int) (a : Arc) : Nat → Nat → Option Int := fun i j => if i = a.f.toNat ∧ j = a.t.toNat then MP.mx (D i j) (some a.d) else D i j
def dArcs (l : List Arc) : Nat → Nat → Option Int := l.foldl addArc fun _ _ => none
theorem dArcs_take (l : List Arc) {k : Nat} (h : k < l.length) : dArcs (l.take (k + 1)) = addArc (dArcs (l.take k)) l[k] := by
  unfold dArcs
  rw [List.take_succ_eq_append_getElem h, List.foldl_append]
  rfl
theorem dArcs_small_go : ∀ (l : List Arc) (D : Nat → Nat → Option Int), (∀ a ∈ l, a.ok) → (∀ i j, MP.Small 1000000 (D i j)) → ∀ i j, MP.Small 1000000 (l.foldl addArc D i j)
  | [], _, _, h => h
  | a :: l, D, ha, h => dArcs_small_go l (addArc D a) (fun b hb => ha b (List.mem_cons_of_mem _ hb)) fun i j => by
    unfold addArc
    split
    · rcases MP.mx_or (D i j) (some a.d) with e | e
      · rw [e]; exact h i j
      · rw [e]; intro v hv; cases hv; exact (ha a List.mem_cons_self).2.2
    · exact h i j
theorem dArcs_small {l : List Arc} (h : ∀ a ∈ l, a.ok) (i j : Nat) : MP.Small 1000000 (dArcs l i j) := dArcs_small_go l _ h (fun _ _ v hv => by cases hv) i j

/-- The first m places are filled with never. -/
def neverM (Z : List Value) (m : Nat) : List Value := List.replicate m (tV none) ++ Z.drop m
theorem neverM_length {Z : List Value} (hZ : Z.length = 256) {m : Nat} (h : m ≤ 256) : (neverM Z m).length = 256 := by simp [neverM, hZ]; omega
theorem neverM_set {Z : List Value} (hZ : Z.length = 256) {m : Nat} (h : m < 256) : (neverM Z m).toArray.setIfInBounds m (tV none) = (neverM Z (m + 1)).toArray := by
  apply Array.ext'
  simp only [Array.toList_setIfInBounds]
  apply List.ext_getElem?
  intro i
  have hl := neverM_length hZ (m := m) (by omega)
  rw [List.getElem?_set, hl]
  rcases Nat.lt_trichotomy m i with g | g | g
  · rw [if_neg (by omega)]
    simp only [neverM]
    rw [List.getElem?_append_right (by simp; omega), List.getElem?_append_right (by simp; omega)]
    simp only [List.length_replicate, List.getElem?_drop]
    congr 1; omega
  · subst g
    rw [if_pos rfl, if_pos h]
    simp only [neverM]
    rw [List.getElem?_append_left (by simp)]
    simp
  · rw [if_neg (by omega)]
    simp only [neverM]
    rw [List.getElem?_append_left (by simp; omega), List.getElem?_append_left (by simp; omega)]
    simp only [List.getElem?_replicate]
    rw [if_pos g, if_pos (by omega)]
theorem neverM_full (Z : List Value) (hZ : Z.length = 256) : neverM Z 256 = mV fun _ _ => none := by
  apply mV_ext (neverM_length hZ (by omega))
  intro i j hi hj
  simp only [neverM]
  rw [List.getElem?_append_left (by rw [List.length_replicate]; omega), List.getElem?_replicate, if_pos (by omega)]

structure Nd (w : World) (Z cs : List Value) (wr : World) : Prop where
  r : Blk wr w.heap.size 69 Z.toArray
  o : Blk wr (w.heap.size + 1) 69 cs.toArray
  below : Below w.heap.size w wr
  size : w.heap.size + 2 ≤ wr.heap.size
theorem Nd.set_ {w wr : World} {Z cs : List Value} (h : Nd w Z cs wr) (k : Nat) (u : Value) (cs' : List Value) (e : cs.toArray.setIfInBounds k u = cs'.toArray) : Nd w Z cs' (wr.setCell ⟨w.heap.size + 1, k, none⟩ u) :=
  ⟨h.r.same (Below.heap_setCell _ _ _ _ (by show w.heap.size ≠ w.heap.size + 1; omega)), by have := h.o.set_ k u; rwa [e] at this, h.below.setCell (by show w.heap.size ≤ w.heap.size + 1; omega) _, by have := h.size; simpa using this⟩
theorem Nd.below_ {w wr wx : World} {Z cs : List Value} (h : Nd w Z cs wr) (hb : Below wr.heap.size wr wx) : Nd w Z cs wx :=
  ⟨h.r.below hb h.r.lt, h.o.below hb h.o.lt, h.below.trans (hb.mono (by have := h.size; omega)), Nat.le_trans h.size hb.size⟩

set_option maxRecDepth 100000 in
set_option maxHeartbeats 8000000 in
theorem newDelays_any (A : Option Addr) (n c : Nat) (l : List Arc) (w : World) (hn : l.length = n) (hn2 : n ≤ 256) (hA : ArcsAt w A l) (hok : ∀ a ∈ l, a.ok) :
    Calls Tryz.prog 35 #[.slice A n c] w fun e w' => e = .returned (.agg (mV (dArcs l)).toArray) ∧ Below w.heap.size w w' := by
  have HA := Lib.hid hA
  have HN := Lib.hid hn
  have HOK := Lib.hid hok
  obtain ⟨Z, HZ, hz⟩ : ∃ Z : List Value, Hid (Z.length = 256) ∧ ∀ W, (zeroValue 69).run Tryz.prog W = .ok (.agg Z.toArray) W := ⟨zeros256, Lib.hid (by simp [zeros256]), zero_delays⟩
  clear hA hn hok
  go_enter Tryz.func35, Tryz.ntmps35
  go_upto_region 2 with (fail)
  have HT : Hid (Nd w Z (neverM Z 0) ((w.alloc (.cells Z.toArray 69)).alloc (.cells Z.toArray 69))) := Lib.hid
    ⟨(Blk.new w _ _).alloc _, by simp only [neverM, List.replicate_zero, List.nil_append, List.drop_zero]; exact Blk.newAt _ _ _ (by simp), ((Below.refl _ w).alloc (Nat.le_refl _) _).alloc (by simp) _, by simp⟩
  generalize ((w.alloc (.cells Z.toArray 69)).alloc (.cells Z.toArray 69)) = w3 at *
  go_wp2_with fail
  go_loopw [4, 5, 8, 11] (fun _ _ i _ wr => ∃ k : Nat, k ≤ 16 ∧ i = .int .i64 k ∧ Nd w Z (neverM Z (16 * k)) wr) (fun _ _ i _ _ => 16 - (intOf i).toNat)
  case atStart => exact ⟨0, by omega, rfl, HT.out⟩
  case round =>
    obtain ⟨k, hk, rfl, hT⟩ := hrel
    by_cases hlt : k < 16
    · have HT2 := Lib.hid hT
      clear hT HT
      go_wp2_with fail
      go_loopw [5, 11] (fun _ j wr => ∃ q : Nat, q ≤ 16 ∧ j = .int .i64 q ∧ Nd w Z (neverM Z (16 * k + q)) wr) (fun _ j _ => 16 - (intOf j).toNat)
      case atStart => exact ⟨0, by omega, rfl, HT2.out⟩
      case round =>
        obtain ⟨q, hq, rfl, hT⟩ := hrel
        by_cases hq16 : q < 16
        · have hm : k * 16 + q < (neverM Z (16 * k + q)).length := by rw [neverM_length HZ.out (by omega)]; omega
          have c1 : wr.cell? ⟨w.heap.size + 1, k * 16 + q, none⟩ = some (neverM Z (16 * k + q))[k * 16 + q] := by rw [hT.o.cell]; simp
          have f1 := hT.o.frozen (k * 16 + q)
          have HT3 := Lib.hid hT
          have HS : Hid ((neverM Z (16 * k + q)).toArray.setIfInBounds (k * 16 + q) (tV none) = (neverM Z (16 * k + (q + 1))).toArray) := Lib.hid (by have := neverM_set HZ.out (m := 16 * k + q) (by omega); rwa [show k * 16 + q = 16 * k + q by omega])
          clear hT
          generalize (neverM Z (16 * k + q))[k * 16 + q] = v0 at *
          go_wp2_with fail
          go_roundw
          case rel => exact ⟨q + 1, by omega, by go_num, HT3.out.set_ _ _ _ HS.out⟩
          case measure => simp [intOf]; omega
        · obtain rfl : q = 16 := by omega
          have HT3 := Lib.hid hT
          clear hT
          go_wp2_with fail
          go_roundw
          case rel => exact ⟨k + 1, by omega, by go_num, by have := HT3.out; rwa [show 16 * k + 16 = 16 * (k + 1) by omega] at this⟩
          case measure => simp [intOf]; omega
    · have hk16 : k = 16 := by omega
      have HT2 : Hid (Nd w Z (mV (dArcs (l.take 0))) wr) := Lib.hid (by have := hT; rw [hk16, neverM_full Z HZ.out] at this; exact this)
      rw [show (k : Int) = 16 by omega]
      clear hT HT hk hlt hk16
      go_wp2_with fail
      go_loopw [7, 22] (fun _ i wr => ∃ k : Nat, k ≤ n ∧ i = .int .i64 k ∧ Nd w Z (mV (dArcs (l.take k))) wr) (fun _ i _ => n - (intOf i).toNat)
      case atStart => exact ⟨0, by omega, rfl, HT2.out⟩
      case round =>
        clear HT2
        obtain ⟨k, hk, rfl, hT⟩ := hrel
        by_cases hlt : k < n
        · have hkl : k < l.length := by rw [HN.out]; exact hlt
          obtain ⟨a, hka⟩ : ∃ a, l[k] = a := ⟨_, rfl⟩
          have hka' : l[k]? = some a := by rw [List.getElem?_eq_getElem hkl, hka]
          have hal := HOK.out a (by rw [← hka]; exact List.getElem_mem hkl)
          obtain ⟨b, off, rfl, hb, hc⟩ := HA.out (by intro e; rw [e] at hkl; simp at hkl)
          have HB := Lib.hid hT.below
          obtain ⟨q0, q1, q2⟩ := hc k a hka'
          replace q0 := (HB.out.cell (p := ⟨b, _, none⟩) hb).trans q0
          replace q1 := (HB.out.cell (p := ⟨b, _, none⟩) hb).trans q1
          replace q2 := (HB.out.cell (p := ⟨b, _, none⟩) hb).trans q2
          have HST : Hid (dArcs (l.take (k + 1)) = addArc (dArcs (l.take k)) a) := Lib.hid (by rw [dArcs_take l hkl, hka])
          obtain ⟨fa, ta, da⟩ := a
          obtain ⟨⟨f0, f1⟩, ⟨t0, t1⟩, d0, d1⟩ := hal
          simp only at f0 f1 t0 t1 d0 d1 q0 q1 q2
          obtain ⟨f, rfl⟩ : ∃ f : Nat, fa = (f : Int) := ⟨fa.toNat, by omega⟩
          obtain ⟨t, rfl⟩ : ∃ t : Nat, ta = (t : Int) := ⟨ta.toNat, by omega⟩
          have hf : f < 16 := by omega
          have ht : t < 16 := by omega
          obtain ⟨o, ho⟩ : ∃ o, MP.enc (dArcs (l.take k) f t) = o := ⟨_, rfl⟩
          have c1 : wr.cell? ⟨w.heap.size + 1, f * 16 + t, none⟩ = some (.int .i64 o) := by
            rw [hT.o.cell, ← ho, Nat.mul_comm]; simpa [tV] using mV_get (dArcs (l.take k)) hf ht
          have fr1 := hT.o.frozen (f * 16 + t)
          have HO := Lib.hid ho
          have HT3 := Lib.hid hT
          have hsz := hT.size
          have HMX : Hid (MP.enc (MP.mx (dArcs (l.take k) f t) (some da)) = if o < da then da else o) := Lib.hid (by
            have h3 := MP.enc_mx (b := 1000000) (x := dArcs (l.take k) f t) (y := some da) (by omega) (dArcs_small (fun a ha => HOK.out a (List.mem_of_mem_take ha)) f t) (fun v hv => by cases hv; omega)
            rw [ho] at h3
            exact h3)
          clear hT ho hka hka' hc
          have HNX : Hid (∀ (wx : World) (z : Int), Below wr.heap.size wr wx → z = MP.enc (MP.mx (dArcs (l.take k) f t) (some da)) → Nd w Z (mV (dArcs (l.take (k + 1)))) (wx.setCell ⟨w.heap.size + 1, f * 16 + t, none⟩ (.int .i64 z))) := Lib.hid fun wx z hbx hz => by
            subst hz
            refine (HT3.out.below_ hbx).set_ _ _ _ ?_
            apply Array.ext'
            rw [HST.out]
            simp only [Array.toList_setIfInBounds]
            apply mV_ext
            · rw [List.length_set, mV_length]
            · intro i j hi hj
              rw [List.getElem?_set, mV_length]
              by_cases e : i = f ∧ j = t
              · obtain ⟨rfl, rfl⟩ := e
                rw [if_pos (by omega), if_pos (by omega)]
                simp [addArc, tV]
              · rw [if_neg (by omega), mV_get _ hi hj]
                simp only [addArc, Int.toNat_natCast]
                rw [if_neg e]
          have HBA : Hid (∀ o, Below wr.heap.size wr (wr.alloc o)) := Lib.hid fun o => (Below.refl _ _).alloc (Nat.le_refl _) _
          go_upto_region 14 with (fail)
          have hl1 : w.heap.size + 1 < wr.heap.size := by omega
          have z0 : (wr.alloc (.cells #[.int .i64 (f : Int), .int .i64 (t : Int), .int .i64 da] 56)).cell? ⟨wr.heap.size, 0, none⟩ = some (.int .i64 (f : Int)) := by simp
          have z1 : (wr.alloc (.cells #[.int .i64 (f : Int), .int .i64 (t : Int), .int .i64 da] 56)).cell? ⟨wr.heap.size, 1, none⟩ = some (.int .i64 (t : Int)) := by simp
          have z2 : (wr.alloc (.cells #[.int .i64 (f : Int), .int .i64 (t : Int), .int .i64 da] 56)).cell? ⟨wr.heap.size, 2, none⟩ = some (.int .i64 da) := by simp
          have z3 := ((HBA.out (.cells #[.int .i64 (f : Int), .int .i64 (t : Int), .int .i64 da] 56)).cell (p := ⟨w.heap.size + 1, f * 16 + t, none⟩) hl1).trans c1
          have z4 := ((HBA.out (.cells #[.int .i64 (f : Int), .int .i64 (t : Int), .int .i64 da] 56)).frozen (p := ⟨w.heap.size + 1, f * 16 + t, none⟩) hl1).trans fr1
          have HB9 := Lib.hid (HBA.out (.cells #[.int .i64 (f : Int), .int .i64 (t : Int), .int .i64 da] 56))
          clear HBA c1 fr1
          generalize (wr.alloc (.cells #[.int .i64 (f : Int), .int .i64 (t : Int), .int .i64 da] 56)) = wq at *
          by_cases hlo : o < da
          · go_still_tail 16, (by kernel_rfl)
            change wpList _ _ _ _ _ wq.drew
            go_wp2_with fail
            go_roundw
            case rel => exact ⟨k + 1, by omega, by go_num, HNX.out wq.drew _ HB9.out.drew (by rw [HMX.out, if_pos hlo])⟩
            case measure => simp [intOf]; omega
          · go_still_tail 16, (by kernel_rfl)
            change wpList _ _ _ _ _ wq.drew
            go_wp2_with fail
            go_roundw
            case rel => exact ⟨k + 1, by omega, by go_num, HNX.out wq.drew _ HB9.out.drew (by rw [HMX.out, if_neg (by omega)])⟩
            case measure => simp [intOf]; omega
        · obtain rfl : k = n := by omega
          have HT3 : Hid (Nd w Z (mV (dArcs l)) wr) := Lib.hid (by have := hT; rwa [List.take_of_length_le (by rw [HN.out]; omega)] at this)
          clear hT
          go_wp2_with (first | (refine wpList_load_row rfl 69 (.tmp 3) rfl (w.heap.size + 1) rfl _ _ (0, 0) _ HT3.out.o u_delays rfl (by simpa [mV_length] using i_delays) ?_) | (refine wpList_putrow rfl 69 (.tmp 2) (.tmp 43) rfl w.heap.size _ rfl rfl _ _ HT3.out.r (by simpa [mV_length] using i_delays) (by rw [HZ.out, mV_length]) (mV_cell _) w.heap.size w HT3.out.below (Nat.le_refl _) ?_; intro wa Ha _ HBa))
          exact bodyPost_ret (v := .agg (mV (dArcs l)).toArray) (results_cell_row rfl _ _ w.heap.size _ _ (0, 0) _ rfl Ha.out u_delays rfl (by simpa [mV_length] using i_delays)) rfl ⟨rfl, HBa.out⟩
end Go.Proofs.YtddejjilfmphbaaGreatDoor
