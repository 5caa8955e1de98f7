/- Delays of two legs. -/
import Derived.Deep.Upon
import Derived.Test.YtddejjilfmphbaaGreatDoorThen
namespace Go.Proofs.YtddejjilfmphbaaGreatDoor
open Go.RowKit Go.Sort

def putL : List Value → Nat → List Value → List Value
  | cs, _, [] => cs
  | cs, o, v :: vs => putL (cs.set o v) (o + 1) vs
theorem putL_length : ∀ (vs cs : List Value) (o : Nat), (putL cs o vs).length = cs.length
  | [], _, _ => rfl
  | _ :: vs, cs, o => by rw [putL, putL_length vs]; simp
theorem putL_get : ∀ (vs cs : List Value) (o j : Nat), o + vs.length ≤ cs.length → (putL cs o vs)[j]? = if o ≤ j ∧ j < o + vs.length then vs[j - o]? else cs[j]?
  | [], cs, o, j, _ => by rw [if_neg (by simp)]; rfl
  | v :: vs, cs, o, j, h => by
    rw [putL, putL_get vs _ _ _ (by simp at h ⊢; omega)]
    simp only [List.length_cons] at h ⊢
    by_cases h1 : o + 1 ≤ j ∧ j < o + 1 + vs.length
    · rw [if_pos h1, if_pos (by omega), show j - o = (j - (o + 1)) + 1 by omega, List.getElem?_cons_succ]
    · rw [if_neg h1, List.getElem?_set]
      by_cases h2 : o = j
      · subst h2; rw [if_pos rfl, if_pos (by omega), if_pos (by omega)]; simp
      · rw [if_neg h2, if_neg (by omega)]
theorem Blk.setCells {g : Nat} {t : TypeId} : ∀ (vs : List Value) {w : World} {cs : List Value} (o : Nat), Blk w g t cs.toArray → Blk (w.setCells g o vs) g t (putL cs o vs).toArray
  | [], _, _, _, h => h
  | v :: vs, w, cs, o, h => by
    have h1 : Blk (w.setCell ⟨g, o, none⟩ v) g t (cs.set o v).toArray := by have := h.set_ o v; simpa using this
    exact Blk.setCells vs (o + 1) h1
theorem below_setCells {B g : Nat} {w0 : World} (hg : B ≤ g) : ∀ (vs : List Value) {w : World} (o : Nat), Below B w0 w → Below B w0 (w.setCells g o vs)
  | [], _, _, h => h
  | v :: vs, w, o, h => below_setCells hg vs (o + 1) (h.setCell (by simpa using hg) v)
/-- An array is stored into the middle of a block of its own. -/
theorem wpList_putmid {w : World} {ops : Array Oper} {rest : List Oper} {o : Oper} {a : Act} {Q : Exit → Act → World → Prop} (hgd : o.guard = none) (ty : TypeId) (x y : Operand) (ho : o.op = .store ty x y)
    (g off : Nat) (cells : List Value) (hx : a.eval x = .pointer (some ⟨g, off, none⟩)) (hy : a.eval y = .agg cells.toArray) (t : TypeId) (old : List Value) (hg : Blk w g t old.toArray)
    (hi : (Tryz.prog.info? ty).map (·.size) = some cells.length) (hfit : off + cells.length ≤ old.length) (h1 : ∀ v ∈ cells, v.oneCell' = true) (B : Nat) (w0 : World) (hb : Below B w0 w) (hBg : B ≤ g)
    (h : ∀ w', Hid (Blk w' g t (putL old off cells).toArray) → Hid (∀ k, k < w.heap.size → k ≠ g → w'.heap[k]? = w.heap[k]?) → Hid (Below B w0 w') → Hid (w.heap.size ≤ w'.heap.size) → wpList Tryz.prog ops Q rest (a.put o.dst undef) w') : wpList Tryz.prog ops Q (o :: rest) a w :=
  wpList_plain hgd fun _ hK => wp_store_mid ty x y ho g off cells.toArray hx hy (fun j hj => ⟨by
      have hj' : j < cells.length := by simpa using hj
      rw [hg.cell]; simp; omega, hg.frozen _⟩) (by simpa using hi) (all_oneCell_toArray h1)
    (hK _ _ (h _ (Lib.hid (by simpa using Blk.setCells cells off hg)) (Lib.hid fun k hk hne => World.heap_setCells_other _ _ _ _ hk hne) (Lib.hid (below_setCells hBg _ _ hb)) (Lib.hid (by have := (below_setCells (Nat.zero_le g) cells off (Below.refl 0 w)).size; simpa using this))))
/-- A row of delays is laid anew. -/
def rowTo (D : Nat → Nat → Option Int) (k : Nat) (y : Nat → Option Int) : Nat → Nat → Option Int := fun i => if i = k then y else D i
theorem mV_ext {l : List Value} {D : Nat → Nat → Option Int} (hl : l.length = 256) (h : ∀ i j, i < 16 → j < 16 → l[16 * i + j]? = some (tV (D i j))) : l = mV D := by
  apply List.ext_getElem?
  intro n
  rcases Nat.lt_or_ge n 256 with g | g
  · have e : n = 16 * (n / 16) + n % 16 := by omega
    rw [e, h _ _ (by omega) (by omega), mV_get D (by omega) (by omega)]
  · rw [List.getElem?_eq_none (by omega), List.getElem?_eq_none (by rw [mV_length]; omega)]
theorem mV_put (D : Nat → Nat → Option Int) (y : Nat → Option Int) {k : Nat} (hk : k < 16) : putL (mV D) (k * 16) (sV y) = mV (rowTo D k y) := by
  apply mV_ext
  · rw [putL_length, mV_length]
  · intro i j hi hj
    rw [putL_get _ _ _ _ (by rw [sV_length, mV_length]; omega), sV_length]
    by_cases h : i = k
    · subst h
      rw [if_pos (by omega), show 16 * i + j - i * 16 = j by omega, sV_get y hj]
      simp [rowTo]
    · rw [if_neg (by omega), mV_get D hi hj]
      simp [rowTo, h]
theorem mV_congr {D E : Nat → Nat → Option Int} (h : ∀ i j, i < 16 → j < 16 → D i j = E i j) : mV D = mV E := mV_ext (mV_length D) fun i j hi hj => by rw [mV_get D hi hj, h i j hi hj]

def zeros256 : List Value := List.replicate 256 (.int .i64 0)
theorem zero_delays_info : (Tryz.prog.info? 69).map (fun i => (i.zero, i.size)) = some (some (.agg zeros256.toArray), 256) := by kernel_rfl
theorem zero_delays (W : World) : (zeroValue 69).run Tryz.prog W = .ok (.agg zeros256.toArray) W := (zero_of_info zero_delays_info).1 W

/-- The delays, the first k rows multiplied. -/
def mulTo (D E : Nat → Nat → Option Int) (k : Nat) : Nat → Nat → Option Int := fun i => if i < k then MP.ap (D i) E else D i
theorem mulTo_step (D E : Nat → Nat → Option Int) (k : Nat) : rowTo (mulTo D E k) k (MP.ap (D k) E) = mulTo D E (k + 1) := by
  funext i
  unfold rowTo mulTo
  by_cases h : i = k
  · subst h; rw [if_pos rfl, if_pos (by omega)]
  · rw [if_neg h]
    by_cases h2 : i < k
    · rw [if_pos h2, if_pos (by omega)]
    · rw [if_neg h2, if_neg (by omega)]
theorem mulTo_done (D E : Nat → Nat → Option Int) : mV (mulTo D E 16) = mV (MP.mul D E) := mV_congr fun i j hi _ => by simp [mulTo, hi, MP.mul]
theorem mulTo_none (D E : Nat → Nat → Option Int) : mulTo D E 0 = D := by funext i; simp [mulTo]

structure Tm (w : World) (Z : List Value) (D E M : Nat → Nat → Option Int) (wr : World) : Prop where
  m : Blk wr w.heap.size 69 (mV M).toArray
  e : Blk wr (w.heap.size + 1) 69 (mV E).toArray
  r : Blk wr (w.heap.size + 2) 69 Z.toArray
  below : Below w.heap.size w wr
  size : w.heap.size + 3 ≤ wr.heap.size

theorem Tm.below_ {w wr wx : World} {Z : List Value} {D E M : Nat → Nat → Option Int} (h : Tm w Z D E M wr) (hb : Below wr.heap.size wr wx) : Tm w Z D E M wx :=
  ⟨h.m.below hb h.m.lt, h.e.below hb h.e.lt, h.r.below hb h.r.lt, h.below.trans (hb.mono (by have := h.size; omega)), Nat.le_trans h.size hb.size⟩
theorem Tm.put {w wr wx : World} {Z : List Value} {D E M : Nat → Nat → Option Int} (h : Tm w Z D E M wr) {k : Nat} (hk : k < 16) (y : Nat → Option Int) (h1 : Blk wx w.heap.size 69 (putL (mV M) (k * 16) (sV y)).toArray)
    (h2 : ∀ k, k < wr.heap.size → k ≠ w.heap.size → wx.heap[k]? = wr.heap[k]?) (h3 : Below w.heap.size w wx) (h4 : wr.heap.size ≤ wx.heap.size) : Tm w Z D E (rowTo M k y) wx := by
  have hs := h.size
  exact ⟨by rwa [mV_put _ _ hk] at h1, h.e.same (h2 _ h.e.lt (by omega)), h.r.same (h2 _ h.r.lt (by omega)), h3, by omega⟩

set_option maxRecDepth 100000 in
set_option maxHeartbeats 8000000 in
theorem times_any (D E : Nat → Nat → Option Int) (b c : Int) (w : World) (hb : ∀ i j, MP.Small b (D i j)) (hc : ∀ i j, MP.Small c (E i j)) (h0 : 0 ≤ b) (h1 : 0 ≤ c) (h2 : b + c ≤ 4611686018427387904) :
    Calls Tryz.prog 172 #[.agg (mV D).toArray, .agg (mV E).toArray] w fun e w' => e = .returned (.agg (mV (MP.mul D E)).toArray) ∧ Below w.heap.size w w' := by
  have HB := Lib.hid hb
  have HC := Lib.hid hc
  obtain ⟨Z, HZ, hz⟩ : ∃ Z : List Value, Hid (Z.length = 256) ∧ ∀ W, (zeroValue 69).run Tryz.prog W = .ok (.agg Z.toArray) W := ⟨zeros256, Lib.hid (by simp [zeros256]), zero_delays⟩
  clear hb hc
  go_enter Tryz.func172, Tryz.ntmps172
  go_upto_region 1 with (fail)
  have HT : Hid (Tm w Z D E D (((w.alloc (.cells (mV D).toArray 69)).alloc (.cells (mV E).toArray 69)).alloc (.cells Z.toArray 69))) := Lib.hid
    ⟨((Blk.new w _ _).alloc _).alloc _, (Blk.newAt _ _ _ (by simp)).alloc _, Blk.newAt _ _ _ (by simp), (((Below.refl _ w).alloc (Nat.le_refl _) _).alloc (by simp) _).alloc (by simp; omega) _, by simp⟩
  generalize (((w.alloc (.cells (mV D).toArray 69)).alloc (.cells (mV E).toArray 69)).alloc (.cells Z.toArray 69)) = w3 at *
  go_wp2_with (refine wpList_load_row rfl 69 (.tmp 2) rfl w.heap.size rfl _ _ (0, 0) _ HT.out.m u_delays rfl (by simpa [mV_length] using i_delays) ?_)
  go_loopw [5, 6, 8] (fun _ _ i wr => ∃ k : Nat, k ≤ 16 ∧ i = .int .i64 k ∧ Tm w Z D E (mulTo D E k) wr) (fun _ _ i _ => 16 - (intOf i).toNat)
  case atStart => exact ⟨0, by omega, rfl, by rw [mulTo_none]; exact HT.out⟩
  case round =>
    obtain ⟨k, hk, rfl, hT⟩ := hrel
    by_cases hlt : k < 16
    · have hix := index_delays D k hlt
      have HT2 := Lib.hid hT
      clear hT
      go_upto_region 4 with (refine wpList_putrow rfl 49 (.tmp 6) (.tmp 11) rfl wr.heap.size _ rfl rfl _ (List.replicate 16 (.int .i64 0)) (Blk.new wr _ _) (by simpa [sV_length] using i_row) rfl (sV_cell _) wr.heap.size wr ((Below.refl _ _).alloc (Nat.le_refl _) _) (Nat.le_refl _) ?_; intro w4 H4 _ HB4)
      have HT4 := Lib.hid (HT2.out.below_ HB4.out)
      clear hix HT2 HB4
      go_wp2_with (first | (refine wpList_load_row rfl 49 (.tmp 6) rfl wr.heap.size rfl _ _ (0, 0) _ H4.out u_row rfl (by simpa [sV_length] using i_row) ?_) | (refine wpList_load_row rfl 69 (.tmp 3) rfl (w.heap.size + 1) rfl _ _ (0, 0) _ HT4.out.e u_delays rfl (by simpa [mV_length] using i_delays) ?_))
      refine (then_any (D k) E b c w4 (HB.out k) HC.out h0 h1 h2).mono ?_
      rintro e w5 ⟨rfl, hb5⟩
      have HT5 := Lib.hid (HT4.out.below_ hb5)
      clear hb5 H4 HT4
      have HI : Hid ((Tryz.prog.info? 49).map (·.size) = some (sV (MP.ap (D k) E)).length) := Lib.hid (by rw [sV_length]; exact i_row)
      generalize hy : MP.ap (D k) E = y at *
      have HY := Lib.hid hy
      clear hy
      go_wp2_with (refine wpList_putmid rfl 49 (.tmp 16) (.tmp 15) rfl w.heap.size (k * 16) (sV y) rfl rfl _ _ HT5.out.m HI.out (by rw [sV_length, mV_length]; omega) (sV_cell _) w.heap.size w HT5.out.below (Nat.le_refl _) ?_; intro w6 H6 HO6 HB6 HS6)
      go_roundw
      case rel => exact ⟨k + 1, by omega, by go_num, by have := HT5.out.put hlt y H6.out HO6.out HB6.out HS6.out; rwa [← HY.out, mulTo_step] at this⟩
      case measure => simp [intOf]; omega
    · obtain rfl : k = 16 := by omega
      have HT2 := Lib.hid hT
      clear hT
      have HE : Hid (mV (mulTo D E 16) = mV (MP.mul D E)) := Lib.hid (mulTo_done D E)
      go_wp2_with (first | (refine wpList_load_row rfl 69 (.tmp 2) rfl w.heap.size rfl _ _ (0, 0) _ HT2.out.m u_delays rfl (by simpa [mV_length] using i_delays) ?_) | (refine wpList_putrow rfl 69 (.tmp 4) (.tmp 18) rfl (w.heap.size + 2) _ rfl rfl _ _ HT2.out.r (by simpa [mV_length] using i_delays) (by rw [HZ.out, mV_length]) (mV_cell _) w.heap.size w HT2.out.below (by omega) ?_; intro w9 H9 _ HB9))
      exact bodyPost_ret (v := .agg (mV (mulTo D E 16)).toArray) (results_cell_row rfl _ _ (w.heap.size + 2) _ _ (0, 0) _ rfl H9.out u_delays rfl (by simpa [mV_length] using i_delays)) rfl ⟨by rw [HE.out], HB9.out⟩
end Go.Proofs.YtddejjilfmphbaaGreatDoor
