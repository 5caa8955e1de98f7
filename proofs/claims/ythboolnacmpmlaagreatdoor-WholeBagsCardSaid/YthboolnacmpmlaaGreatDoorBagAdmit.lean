/- Bags: whole.admit: one more size. -/
import Derived.Test.YthboolnacmpmlaaGreatDoorBest
import Derived.Test.YthboolnacmpmlaaGreatDoorBagApery
namespace Go.Proofs.YthboolnacmpmlaaGreatDoor
open Go.RowKit Go.Sort Bag
attribute [local go_sem ↓] run_min_mn run_max_mx

def natsOf (n : Nat) (f : Nat → Nat) : List Nat := (List.range n).map f
theorem natsOf_length (n : Nat) (f : Nat → Nat) : (natsOf n f).length = n := by simp [natsOf]
theorem natsOf_at {n : Nat} {f : Nat → Nat} {i : Nat} (h : i < n) : at_ (natsOf n f) i = f i := by simp [natsOf, at_, List.getD, h]
theorem natsOf_set (n : Nat) (f : Nat → Nat) (t v : Nat) : (natsOf n f).set t v = natsOf n (fun u => if u = t then v else f u) := by
  apply List.ext_getElem
  · simp [natsOf]
  · intro i h1 h2
    rw [List.getElem_set]
    simp only [natsOf, List.getElem_map, List.getElem_range]
    by_cases e : t = i
    · subst e; simp
    · rw [if_neg e, if_neg (fun h => e h.symm)]
theorem natsOf_congr {n : Nat} {f g : Nat → Nat} (h : ∀ i, i < n → f i = g i) : natsOf n f = natsOf n g := List.map_congr_left fun i hi => h i (List.mem_range.1 hi)

/-- A block of numbers that a function gives. -/
def NatBlk (w : World) (g n : Nat) (f : Nat → Nat) : Prop := Blk w g 3 (cellsOf (toI (natsOf n f)))
theorem NatBlk.congr {w : World} {g n : Nat} {f h : Nat → Nat} (b : NatBlk w g n f) (e : ∀ i, i < n → f i = h i) : NatBlk w g n h := by unfold NatBlk; rw [← natsOf_congr e]; exact b
theorem NatBlk.cell {w : World} {g n : Nat} {f : Nat → Nat} (b : NatBlk w g n f) {i : Nat} (h : i < n) : w.cell? ⟨g, i, none⟩ = some (.int .i64 (f i : Nat)) := by
  rw [Blk.cell b, toI_at_ (by rw [natsOf_length]; exact h), natsOf_at h]
theorem NatBlk.set {w : World} {g n : Nat} {f : Nat → Nat} (b : NatBlk w g n f) (t v : Nat) : NatBlk (w.setCell ⟨g, t, none⟩ (.int .i64 (v : Nat))) g n (fun u => if u = t then v else f u) := by
  have h := Blk.set_ b t (.int .i64 (v : Nat))
  rw [cellsOf_set, toI_set, natsOf_set] at h
  exact h
theorem Blk.far {w : World} {g : Nat} {t : TypeId} {cs : Array Value} (h : Blk w g t cs) {p : Addr} (hp : g ≠ p.block) (u : Value) : Blk (w.setCell p u) g t cs := h.same (Below.heap_setCell w p u g hp)

/-- make([]bool, n). -/
theorem make_bools' (m : Nat) (hm : m ≤ 1000001) (W : World) : (Instr.makeSlice 45 (.int .i64 (m : Int)) (.int .i64 (m : Int))).run Tryz.prog W =
    .ok (.slice (some ⟨W.heap.size, 0, none⟩) m m) (W.alloc (.cells (boolsOf m (fun _ => false)) 4)) := by
  obtain ⟨i0, hi0, hz0, hz1, hz2⟩ := info_parts info_bool
  have h := run_makeSlice (P := Tryz.prog) W 45 4 i0 _ Tryz.underlying45 hi0 hz0 .i64 .i64 (m : Int) (m : Int) (by omega) (Int.le_refl _) (by rw [hz1]; omega) (by rw [hz2]; omega) (by omega)
  rw [h, hz1, Nat.mul_one, Int.toNat_natCast]
  rw [show (Value.bool false).cells = #[Value.bool false] from rfl, made_false]

section
variable {w w1 : World} {g : Nat}
theorem gb_refl (w : World) (g : Nat) : w.grownBy w (some g) := World.grownBy.refl w _
theorem gb_alloc (h : w.grownBy w1 (some g)) (o : Obj) : w.grownBy (w1.alloc o) (some g) :=
  ⟨h.os, h.tape, h.output, by have := h.size; simp; omega, fun k hk e => (Below.heap_alloc w1 o k (Nat.lt_of_lt_of_le hk h.size)).trans (h.block k hk e)⟩
theorem gb_row (h : w.grownBy w1 (some g)) (i : Nat) (u : Value) : w.grownBy (w1.setCell ⟨g, i, none⟩ u) (some g) :=
  ⟨h.os, h.tape, h.output, by simpa using h.size, fun k hk e => (Below.heap_setCell w1 ⟨g, i, none⟩ u k (fun e2 => e (by rw [e2]))).trans (h.block k hk e)⟩
theorem gb_new (h : w.grownBy w1 (some g)) {b : Nat} (hb : w.heap.size ≤ b) (i : Nat) (u : Value) : w.grownBy (w1.setCell ⟨b, i, none⟩ u) (some g) :=
  ⟨h.os, h.tape, h.output, by simpa using h.size, fun k hk e => (Below.heap_setCell w1 ⟨b, i, none⟩ u k (fun e2 => by simp at e2; omega)).trans (h.block k hk e)⟩
end

/-- What admit leaves. -/
def Admitted (g n s : Nat) (l : List Nat) (w : World) (e : Ending) (w' : World) : Prop :=
  ∃ g2 : Nat, e = .returned (.slice (some ⟨g2, 0, none⟩) n n) ∧ w.heap.size ≤ g2 ∧ Blk w' g2 4 (boolsOf n (need s l)) ∧ NatBlk w' g n (best (s :: l)) ∧ w.grownBy w' (some g)

set_option maxHeartbeats 1000000 in
set_option maxRecDepth 100000 in
theorem admit_any (g n s : Nat) (l : List Nat) (w : World) (hB : NatBlk w g n (best l)) (hn : n ≤ 1000001) (hs : 1 ≤ s ∧ s ≤ 2000) :
    Calls Tryz.prog 24 #[.slice (some ⟨g, 0, none⟩) n n, .int .i64 s] w (Admitted g n s l w) := by
  obtain ⟨s1, s2⟩ := hs
  have hmk := make_bools' n hn
  have hg : g < w.heap.size := Blk.lt hB
  have B0 : Hid (NatBlk (w.alloc (.cells (boolsOf n (fun _ => false)) 4)) g n (fun u => if u < s then best (s :: l) u else best l u)) := Lib.hid (by
    have h : NatBlk (w.alloc (.cells (boolsOf n (fun _ => false)) 4)) g n (best l) := Blk.alloc hB _
    exact h.congr fun i _ => by
      split
      · rename_i hi; exact (best_less hi).symm
      · rfl)
  have C0 : Hid (Blk (w.alloc (.cells (boolsOf n (fun _ => false)) 4)) w.heap.size 4 (boolsOf n (fun u => if u < s then need s l u else false))) := Lib.hid (by
    have e : boolsOf n (fun u => if u < s then need s l u else false) = boolsOf n (fun _ => false) := boolsOf_congr fun i _ => by
      by_cases hi : i < s
      · rw [if_pos hi]; unfold need; simp; omega
      · rw [if_neg hi]
    rw [e]
    exact Blk.new _ _ _)
  have T : Hid (∀ (l : List Nat) (t : Nat), best l t ≤ 1099511627776) := Lib.hid best_top
  clear hB
  go_enter Tryz.func24, Tryz.ntmps24
  go_wp2_with fail
  go_loopw [6] (fun i wr => ∃ t : Nat, s ≤ t ∧ i = .int .i64 t ∧ t ≤ 1002001 ∧ NatBlk wr g n (fun u => if u < t then best (s :: l) u else best l u) ∧ Blk wr w.heap.size 4 (boolsOf n (fun u => if u < t then need s l u else false)) ∧ w.grownBy wr (some g)) (fun i _ => n - (intOf i).toNat)
  case atStart => exact ⟨s, Nat.le_refl _, rfl, by omega, B0.out, C0.out, gb_alloc (gb_refl _ _) _⟩
  case round =>
    clear B0 C0 hmk
    obtain ⟨t, hst, rfl, htb, hB, hC, hbw⟩ := hrel
    by_cases hlt : t < n
    · have c1 : wr.cell? ⟨g, t - s, none⟩ = some (.int .i64 (best (s :: l) (t - s) : Nat)) := by
        rw [hB.cell (by omega), if_pos (by omega)]
      have c2 : wr.cell? ⟨g, t, none⟩ = some (.int .i64 (best l t : Nat)) := by
        rw [hB.cell hlt, if_neg (by omega)]
      have c3 : wr.cell? ⟨w.heap.size, t, none⟩ = some (.bool false) := by
        rw [hC.cell, boolsOf_get hlt, if_neg (by omega)]
      have f1 : wr.frozen? ⟨g, t, none⟩ = false := Blk.frozen hB t
      have f2 : wr.frozen? ⟨w.heap.size, t, none⟩ = false := hC.frozen t
      have hsub : ((t : Int) - s) = ((t - s : Nat) : Int) := by omega
      have b1 := T.out (s :: l) (t - s)
      have b2 := T.out l t
      have HM : Hid (best (s :: l) t = min (best l t) (best (s :: l) (t - s) + 1)) := Lib.hid (best_more s1 hst)
      have HNd : Hid (need s l t = decide (best (s :: l) (t - s) + 1 < best l t)) := Lib.hid (by unfold need; rw [decide_eq_decide]; exact ⟨fun h => h.2, fun h => ⟨hst, h⟩⟩)
      have next : Hid (∀ W b v, NatBlk W g n (fun u => if u = t then v else if u < t then best (s :: l) u else best l u) → v = best (s :: l) t → Blk W w.heap.size 4 (boolsOf n (fun u => if u = t then b else if u < t then need s l u else false)) → b = need s l t →
          NatBlk W g n (fun u => if u < t + 1 then best (s :: l) u else best l u) ∧ Blk W w.heap.size 4 (boolsOf n (fun u => if u < t + 1 then need s l u else false))) := Lib.hid fun W b v h1 hv h2 hb => by
        refine ⟨h1.congr fun i _ => ?_, ?_⟩
        · by_cases e : i = t
          · subst e; rw [if_pos rfl, if_pos (by omega), hv]
          · rw [if_neg e]
            by_cases e2 : i < t
            · rw [if_pos e2, if_pos (by omega)]
            · rw [if_neg e2, if_neg (by omega)]
        · have e : boolsOf n (fun u => if u < t + 1 then need s l u else false) = boolsOf n (fun u => if u = t then b else if u < t then need s l u else false) := boolsOf_congr fun i _ => by
            by_cases e : i = t
            · subst e; rw [if_pos (by omega), if_pos rfl, hb]
            · rw [if_neg e]
              by_cases e2 : i < t
              · rw [if_pos e2, if_pos (by omega)]
              · rw [if_neg e2, if_neg (by omega)]
          rw [e]
          exact h2
      have HB := Lib.hid hB
      have HC := Lib.hid hC
      have HBW := Lib.hid hbw
      clear hB hC hbw T
      generalize best (s :: l) (t - s) = x at *
      generalize hy : best l t = y at *
      have HY := Lib.hid hy
      clear hy
      generalize hq : t - s = q at *
      clear hq
      by_cases hxy : x + 1 < y
      · have N1 : Hid (NatBlk ((wr.setCell ⟨g, t, none⟩ (.int .i64 ((x : Nat) + 1 : Int))).setCell ⟨w.heap.size, t, none⟩ (.bool true)) g n (fun u => if u < t + 1 then best (s :: l) u else best l u) ∧
            Blk ((wr.setCell ⟨g, t, none⟩ (.int .i64 ((x : Nat) + 1 : Int))).setCell ⟨w.heap.size, t, none⟩ (.bool true)) w.heap.size 4 (boolsOf n (fun u => if u < t + 1 then need s l u else false))) := Lib.hid (by
          have h1 := HB.out.set t (x + 1)
          have h2 : Blk (wr.setCell ⟨g, t, none⟩ (.int .i64 ((x + 1 : Nat) : Int))) w.heap.size 4 _ := HC.out.far (p := ⟨g, t, none⟩) (by simp; omega) _
          have h3 := h2.set_ t (.bool true)
          rw [boolsOf_set] at h3
          have h4 := Blk.far (p := ⟨w.heap.size, t, none⟩) h1 (by simp; omega) (.bool true)
          have e : ((x : Nat) + 1 : Int) = ((x + 1 : Nat) : Int) := by push_cast; rfl
          rw [e]
          exact next.out _ true (x + 1) h4 (by rw [HM.out]; omega) h3 (by rw [HNd.out]; simp; exact hxy))
        clear next HM HNd
        go_wp2_with fail
        go_roundw
        case rel => exact ⟨t + 1, by omega, by go_num, by omega, N1.out.1, N1.out.2, gb_new (gb_row HBW.out _ _) (Nat.le_refl _) _ _⟩
        case measure => simp [intOf]; omega
      · have N1 : Hid (NatBlk wr g n (fun u => if u < t + 1 then best (s :: l) u else best l u) ∧ Blk wr w.heap.size 4 (boolsOf n (fun u => if u < t + 1 then need s l u else false))) := Lib.hid (next.out wr (need s l t) (best (s :: l) t)
          (HB.out.congr fun i _ => by
            by_cases e : i = t
            · subst e; rw [if_pos rfl, if_neg (by omega), HM.out, HY.out]; omega
            · rw [if_neg e]) rfl
          (by
            have e : boolsOf n (fun u => if u = t then need s l t else if u < t then need s l u else false) = boolsOf n (fun u => if u < t then need s l u else false) := boolsOf_congr fun i _ => by
              by_cases e : i = t
              · subst e; rw [if_pos rfl, if_neg (by omega), HNd.out]; simp; omega
              · rw [if_neg e]
            rw [e]
            exact HC.out) rfl)
        clear next HM HNd
        go_wp2_with fail
        go_roundw
        case rel => exact ⟨t + 1, by omega, by go_num, by omega, N1.out.1, N1.out.2, HBW.out⟩
        case measure => simp [intOf]; omega
    · have hB2 := Lib.hid (hB.congr (h := best (s :: l)) fun i hi => by rw [if_pos (by omega)])
      have e : boolsOf n (fun u => if u < t then need s l u else false) = boolsOf n (need s l) := boolsOf_congr fun i hi => by rw [if_pos (by omega)]
      rw [e] at hC
      have hC2 := Lib.hid hC
      clear hB hC
      go_wp2_with fail
      go_ret
      exact ⟨_, rfl, Nat.le_refl _, hC2.out, hB2.out, hbw⟩

end Go.Proofs.YthboolnacmpmlaaGreatDoor
