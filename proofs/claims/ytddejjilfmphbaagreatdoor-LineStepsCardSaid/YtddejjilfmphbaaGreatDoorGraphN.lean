/- newGraph. -/
import Derived.Test.YtddejjilfmphbaaGreatDoorGraph
namespace Go.Proofs.YtddejjilfmphbaaGreatDoor
open Go.RowKit Go.Sort

/-- Is it a graph? -/
def graphB (gn : Int) (l : List Arc) : Bool := decide (1 ≤ gn ∧ gn ≤ 16 ∧ l.length ≤ 256) && !anyWrong gn l
/-- What newGraph hands back. -/
def GraphTo (gn : Int) (A : Option Addr) (n c : Nat) (l : List Arc) (w : World) (e : Ending) (w' : World) : Prop :=
  e = .returned (.tuple (if graphB gn l = true then #[.agg #[.int .i64 gn, .slice A n c], .bool true] else #[.agg #[.int .i64 0, .slice none 0 0], .bool false])) ∧ Below w.heap.size w w'

set_option maxRecDepth 100000 in
set_option maxHeartbeats 4000000 in
theorem newGraph_any (gn : Int) (A : Option Addr) (n c : Nat) (l : List Arc) (w : World) (hn : l.length = n) (hbig : n ≤ 1000000) (hA : ArcsAt w A l) :
    Calls Tryz.prog 18 #[.int .i64 gn, .slice A n c] w (GraphTo gn A n c l w) := by
  have HN := Lib.hid hn
  have HA := Lib.hid hA
  clear hn hA
  have hst : ∀ (W : World) (g : Nat) (u : Value), W.cell? ⟨g, 0, none⟩ = some u → W.frozen? ⟨g, 0, none⟩ = false → (store ⟨g, 0, none⟩ (Value.func (Fn.func 28) #[] #[Value.pointer (some ⟨w.heap.size, 0, none⟩)])).run Tryz.prog W = .ok () (W.setCell ⟨g, 0, none⟩ (Value.func (Fn.func 28) #[] #[Value.pointer (some ⟨w.heap.size, 0, none⟩)])) := fun W g u h1 h2 => by
    rw [run_store _ _ _ _ _ rfl, h1]
    simp only [h2]
    rfl
  go_enter Tryz.func18, Tryz.ntmps18
  go_upto_region 3 with (fail)
  have hz0 : (((w.alloc (.cells #[.int .i64 gn] 3)).alloc (.cells #[.int .i64 0, .slice none 0 0] 45)).alloc (.cells #[.func (.func 28) #[] #[.pointer (some ⟨w.heap.size, 0, none⟩)]] 63)).cell? ⟨w.heap.size, 0, none⟩ = some (.int .i64 gn) := (((Blk.new w _ _).alloc _).alloc _).cell 0
  have HBA : Hid (Below w.heap.size w (((w.alloc (.cells #[.int .i64 gn] 3)).alloc (.cells #[.int .i64 0, .slice none 0 0] 45)).alloc (.cells #[.func (.func 28) #[] #[.pointer (some ⟨w.heap.size, 0, none⟩)]] 63))) := Lib.hid ((((Below.refl _ w).alloc (Nat.le_refl _) _).alloc (by simp) _).alloc (by simp; omega) _)
  have HCP : Hid (Caps (((w.alloc (.cells #[.int .i64 gn] 3)).alloc (.cells #[.int .i64 0, .slice none 0 0] 45)).alloc (.cells #[.func (.func 28) #[] #[.pointer (some ⟨w.heap.size, 0, none⟩)]] 63)) gn w.heap.size (w.heap.size + 1 + 1)) := Lib.hid ⟨hz0, (Blk.newAt _ _ _ (by simp)).cell 0, by simp; omega, by simp⟩
  have HBK : Hid (Blk (((w.alloc (.cells #[.int .i64 gn] 3)).alloc (.cells #[.int .i64 0, .slice none 0 0] 45)).alloc (.cells #[.func (.func 28) #[] #[.pointer (some ⟨w.heap.size, 0, none⟩)]] 63)) (w.heap.size + 1) 45 #[.int .i64 0, .slice none 0 0]) := Lib.hid ((Blk.newAt _ _ _ (by simp)).alloc _)
  clear hst
  generalize (((w.alloc (.cells #[.int .i64 gn] 3)).alloc (.cells #[.int .i64 0, .slice none 0 0] 45)).alloc (.cells #[.func (.func 28) #[] #[.pointer (some ⟨w.heap.size, 0, none⟩)]] 63)) = w3 at *
  have k0 : w3.cell? ⟨w.heap.size + 1, 0, none⟩ = some (.int .i64 0) := by rw [HBK.out.cell]; rfl
  have k1 : w3.cell? ⟨w.heap.size + 1, 1, none⟩ = some (.slice none 0 0) := by rw [HBK.out.cell]; rfl
  have kf0 := HBK.out.frozen 0
  have kf1 := HBK.out.frozen 1
  have no : ∀ (W : World), Blk W (w.heap.size + 1) 45 #[.int .i64 0, .slice none 0 0] → True := fun _ _ => trivial
  by_cases h1 : gn < 1
  · have HG : Hid (graphB gn l = false) := Lib.hid (by unfold graphB; rw [show decide (1 ≤ gn ∧ gn ≤ 16 ∧ l.length ≤ 256) = false by simp; omega]; rfl)
    go_wp2_with fail
    refine bodyPost_ret (v := .tuple #[.agg #[.int .i64 0, .slice none 0 0], .bool false]) (by simp [results, Tryz.results18, go_sem, k0, k1]) rfl ⟨by rw [HG.out]; rfl, ?_⟩
    exact (HBA.out.setCell (by show w.heap.size ≤ w.heap.size + 1; omega) _).setCell (by show w.heap.size ≤ w.heap.size + 1; omega) _
  · by_cases h2 : 16 < gn
    · have HG : Hid (graphB gn l = false) := Lib.hid (by unfold graphB; rw [show decide (1 ≤ gn ∧ gn ≤ 16 ∧ l.length ≤ 256) = false by simp; omega]; rfl)
      go_wp2_with fail
      refine bodyPost_ret (v := .tuple #[.agg #[.int .i64 0, .slice none 0 0], .bool false]) (by simp [results, Tryz.results18, go_sem, k0, k1]) rfl ⟨by rw [HG.out]; rfl, ?_⟩
      exact (HBA.out.setCell (by show w.heap.size ≤ w.heap.size + 1; omega) _).setCell (by show w.heap.size ≤ w.heap.size + 1; omega) _
    · by_cases h3 : 256 < n
      · have HG : Hid (graphB gn l = false) := Lib.hid (by have := HN.out; unfold graphB; rw [show decide (1 ≤ gn ∧ gn ≤ 16 ∧ l.length ≤ 256) = false by simp; omega]; rfl)
        go_wp2_with fail
        refine bodyPost_ret (v := .tuple #[.agg #[.int .i64 0, .slice none 0 0], .bool false]) (by simp [results, Tryz.results18, go_sem, k0, k1]) rfl ⟨by rw [HG.out]; rfl, ?_⟩
        exact (HBA.out.setCell (by show w.heap.size ≤ w.heap.size + 1; omega) _).setCell (by show w.heap.size ≤ w.heap.size + 1; omega) _
      · have HG : Hid (graphB gn l = !anyWrong gn l) := Lib.hid (by have := HN.out; unfold graphB; rw [show decide (1 ≤ gn ∧ gn ≤ 16 ∧ l.length ≤ 256) = true by simp; omega]; rfl)
        have K := Lib.hid (containsWrong_any gn w.heap.size (w.heap.size + 1 + 1) A n c l w3 HN.out hbig (HA.out.below HBA.out) HCP.out)
        go_wp2_with fail
        refine K.out.mono ?_
        rintro e w4 ⟨rfl, hb4⟩
        have hl3 : w.heap.size + 1 < w3.heap.size := HBK.out.lt
        have hz4 : w4.cell? ⟨w.heap.size, 0, none⟩ = some (.int .i64 gn) := (hb4.cell (p := ⟨w.heap.size, 0, none⟩) (by show w.heap.size < w3.heap.size; omega)).trans HCP.out.1
        have HBK4 := Lib.hid (HBK.out.below hb4 hl3)
        have HB4 := Lib.hid (HBA.out.trans (hb4.mono (by omega)))
        clear k0 k1 kf0 kf1 hz0 K hb4
        have k0 : w4.cell? ⟨w.heap.size + 1, 0, none⟩ = some (.int .i64 0) := by rw [HBK4.out.cell]; rfl
        have k1 : w4.cell? ⟨w.heap.size + 1, 1, none⟩ = some (.slice none 0 0) := by rw [HBK4.out.cell]; rfl
        have kf0 := HBK4.out.frozen 0
        have kf1 := HBK4.out.frozen 1
        generalize anyWrong gn l = r at *
        cases r with
        | true =>
          go_wp2_with fail
          refine bodyPost_ret (v := .tuple #[.agg #[.int .i64 0, .slice none 0 0], .bool false]) (by simp [results, Tryz.results18, go_sem, k0, k1]) rfl ⟨by rw [HG.out]; rfl, ?_⟩
          exact (HB4.out.setCell (by show w.heap.size ≤ w.heap.size + 1; omega) _).setCell (by show w.heap.size ≤ w.heap.size + 1; omega) _
        | false =>
          go_wp2_with fail
          refine bodyPost_ret (v := .tuple #[.agg #[.int .i64 gn, .slice A n c], .bool true]) (by simp [results, Tryz.results18, go_sem, k0, k1]) rfl ⟨by rw [HG.out]; rfl, ?_⟩
          exact (HB4.out.setCell (by show w.heap.size ≤ w.heap.size + 1; omega) _).setCell (by show w.heap.size ≤ w.heap.size + 1; omega) _
end Go.Proofs.YtddejjilfmphbaaGreatDoor
