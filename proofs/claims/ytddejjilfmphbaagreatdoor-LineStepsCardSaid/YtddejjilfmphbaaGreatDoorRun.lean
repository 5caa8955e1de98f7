/- So many steps; the times of the nodes. -/
import Derived.Test.YtddejjilfmphbaaGreatDoorNewDelays
namespace Go.Proofs.YtddejjilfmphbaaGreatDoor
open Go.RowKit Go.Sort

theorem sV_size (x : Nat → Option Int) : (sV x).toArray.size = 16 := by rw [List.size_toArray, sV_length]
theorem putL_all {cs Y : List Value} (h : cs.length = Y.length) : putL cs 0 Y = Y := by
  apply List.ext_getElem?
  intro i
  rw [putL_get _ _ _ _ (by omega)]
  rcases Nat.lt_or_ge i Y.length with g | g
  · rw [if_pos (by omega)]; rfl
  · rw [if_neg (by omega), List.getElem?_eq_none (by omega), List.getElem?_eq_none g]
/-- What a run's memory holds. -/
structure RunS (w : World) (gn : Int) (A : Option Addr) (n c : Nat) (l : List Arc) (x : Nat → Option Int) (w' : World) : Prop where
  g : Blk w' w.heap.size 45 #[.int .i64 gn, .slice A n c]
  x : Blk w' (w.heap.size + 1) 50 (sV x).toArray
  r : ∃ cs : List Value, cs.length = 16 ∧ Blk w' (w.heap.size + 2) 50 cs.toArray
  below : Below w.heap.size w w'
  size : w.heap.size + 3 ≤ w'.heap.size
  arcs : ArcsAt w' A l
theorem RunS.call {w w' w'' : World} {gn : Int} {A : Option Addr} {n c : Nat} {l : List Arc} {x : Nat → Option Int} (h : RunS w gn A n c l x w') (hb : Below w'.heap.size w' w'') : RunS w gn A n c l x w'' :=
  ⟨h.g.below hb h.g.lt, h.x.below hb h.x.lt, by obtain ⟨cs, h1, h2⟩ := h.r; exact ⟨cs, h1, h2.below hb h2.lt⟩, h.below.trans (hb.mono (by have := h.size; omega)), Nat.le_trans h.size hb.size, h.arcs.below hb⟩
theorem RunS.drew {w w' : World} {gn : Int} {A : Option Addr} {n c : Nat} {l : List Arc} {x : Nat → Option Int} (h : RunS w gn A n c l x w') : RunS w gn A n c l x w'.drew := h.call (Below.refl _ _).drew
def RunA (w : World) (gn : Int) (A : Option Addr) (n c : Nat) (l : List Arc) (x : Nat → Option Int) (w' : World) : Prop :=
  RunS w gn A n c l x w' ∧ w'.rangeAt (w.heap.size + 1) 0 (sV x) ∧ w'.cell? ⟨w.heap.size, 1, none⟩ = some (.slice A n c) ∧ w'.there (w.heap.size + 2) 0 16
theorem RunS.all {w w' : World} {gn : Int} {A : Option Addr} {n c : Nat} {l : List Arc} {x : Nat → Option Int} (h : RunS w gn A n c l x w') : RunS w gn A n c l x w' ∧ w'.rangeAt (w.heap.size + 1) 0 (sV x) ∧ w'.cell? ⟨w.heap.size, 1, none⟩ = some (.slice A n c) ∧ w'.there (w.heap.size + 2) 0 16 :=
  ⟨h, fun j v hv => by rw [Nat.zero_add, h.x.cell]; simpa using hv, by rw [h.g.cell]; rfl, fun j hj => by obtain ⟨cs, h1, h2⟩ := h.r; exact ⟨by rw [Nat.zero_add, h2.cell]; simp; omega, h2.frozen _⟩⟩

theorem run_arcs {w w' : World} {gn : Int} {A : Option Addr} {n c : Nat} {l : List Arc} {x : Nat → Option Int} (p : RunS w gn A n c l x w' ∧ w'.rangeAt (w.heap.size + 1) 0 (sV x) ∧ w'.cell? ⟨w.heap.size, 1, none⟩ = some (.slice A n c) ∧ w'.there (w.heap.size + 2) 0 16) : ArcsAt w' A l := p.1.arcs
theorem run_call {w w' : World} {gn : Int} {A : Option Addr} {n c : Nat} {l : List Arc} {x : Nat → Option Int} {w'' : World} (p : RunS w gn A n c l x w' ∧ w'.rangeAt (w.heap.size + 1) 0 (sV x) ∧ w'.cell? ⟨w.heap.size, 1, none⟩ = some (.slice A n c) ∧ w'.there (w.heap.size + 2) 0 16) (hb : Below w'.heap.size w' w'') : RunS w gn A n c l x w'' ∧ w''.rangeAt (w.heap.size + 1) 0 (sV x) ∧ w''.cell? ⟨w.heap.size, 1, none⟩ = some (.slice A n c) ∧ w''.there (w.heap.size + 2) 0 16 := (p.1.call hb).all
theorem run_drew {w w' : World} {gn : Int} {A : Option Addr} {n c : Nat} {l : List Arc} {x : Nat → Option Int} (p : RunS w gn A n c l x w' ∧ w'.rangeAt (w.heap.size + 1) 0 (sV x) ∧ w'.cell? ⟨w.heap.size, 1, none⟩ = some (.slice A n c) ∧ w'.there (w.heap.size + 2) 0 16) : RunS w gn A n c l x w'.drew ∧ w'.drew.rangeAt (w.heap.size + 1) 0 (sV x) ∧ w'.drew.cell? ⟨w.heap.size, 1, none⟩ = some (.slice A n c) ∧ w'.drew.there (w.heap.size + 2) 0 16 := p.1.drew.all

theorem RunS.put {w w' : World} {gn : Int} {A : Option Addr} {n c : Nat} {l : List Arc} {x : Nat → Option Int} (h : RunS w gn A n c l x w') (hAw : ArcsAt w A l) (Y : List Value) : RunS w gn A n c l x (w'.setCells (w.heap.size + 2) 0 Y) := by
  have hs := h.size
  have hb := below_setCells (B := w.heap.size) (w0 := w) (by omega) Y 0 h.below (g := w.heap.size + 2)
  refine ⟨h.g.same (World.heap_setCells_other _ _ _ _ h.g.lt (by omega)), h.x.same (World.heap_setCells_other _ _ _ _ h.x.lt (by omega)), ?_, hb, ?_, hAw.below hb⟩
  · obtain ⟨cs, h1, h2⟩ := h.r
    exact ⟨putL cs 0 Y, by rw [putL_length, h1], Blk.setCells _ _ h2⟩
  · have := (below_setCells (Nat.zero_le (w.heap.size + 2)) Y 0 (Below.refl 0 w')).size
    omega
theorem run_put {w w' : World} {gn : Int} {A : Option Addr} {n c : Nat} {l : List Arc} {x : Nat → Option Int} (p : RunS w gn A n c l x w' ∧ w'.rangeAt (w.heap.size + 1) 0 (sV x) ∧ w'.cell? ⟨w.heap.size, 1, none⟩ = some (.slice A n c) ∧ w'.there (w.heap.size + 2) 0 16) (hAw : ArcsAt w A l) (Y : List Value) :
    RunS w gn A n c l x (w'.setCells (w.heap.size + 2) 0 Y) ∧ (w'.setCells (w.heap.size + 2) 0 Y).rangeAt (w.heap.size + 1) 0 (sV x) ∧ (w'.setCells (w.heap.size + 2) 0 Y).cell? ⟨w.heap.size, 1, none⟩ = some (.slice A n c) ∧ (w'.setCells (w.heap.size + 2) 0 Y).there (w.heap.size + 2) 0 16 := (p.1.put hAw Y).all

set_option maxRecDepth 100000 in
set_option maxHeartbeats 8000000 in
theorem run_any (gn : Int) (A : Option Addr) (n c : Nat) (l : List Arc) (x : Nat → Option Int) (k : Nat) (w : World) (hn : l.length = n) (hn2 : n ≤ 256) (hA : ArcsAt w A l) (hok : ∀ a ∈ l, a.ok) (hx : ∀ i, MP.Small 2000000000000 (x i)) (hk : k ≤ 1000000000) :
    Calls Tryz.prog 21 #[.agg #[.int .i64 gn, .slice A n c], .agg (sV x).toArray, .int .i64 (k : Int)] w fun e w' => e = .returned (.agg (sV (MP.it x (dArcs l) k)).toArray) ∧ Below w.heap.size w w' := by
  have HX := Lib.hid hx
  have HN := Lib.hid hn
  have HOK := Lib.hid hok
  have HA := Lib.hid hA
  clear hx hn hok hA
  go_enter Tryz.func21, Tryz.ntmps21
  go_upto_region 1 with (fail)
  have HT : Hid (RunS w gn A n c l x (((w.alloc (.cells #[.int .i64 gn, .slice A n c] 45)).alloc (.cells (sV x).toArray 50)).alloc (.cells #[.int .i64 0, .int .i64 0, .int .i64 0, .int .i64 0, .int .i64 0, .int .i64 0, .int .i64 0, .int .i64 0, .int .i64 0, .int .i64 0, .int .i64 0, .int .i64 0, .int .i64 0, .int .i64 0, .int .i64 0, .int .i64 0] 50))) := Lib.hid (by
    have hb : Below w.heap.size w (((w.alloc (.cells #[.int .i64 gn, .slice A n c] 45)).alloc (.cells (sV x).toArray 50)).alloc (.cells #[.int .i64 0, .int .i64 0, .int .i64 0, .int .i64 0, .int .i64 0, .int .i64 0, .int .i64 0, .int .i64 0, .int .i64 0, .int .i64 0, .int .i64 0, .int .i64 0, .int .i64 0, .int .i64 0, .int .i64 0, .int .i64 0] 50)) := (((Below.refl _ w).alloc (Nat.le_refl _) _).alloc (by simp) _).alloc (by simp; omega) _
    exact ⟨((Blk.new w _ _).alloc _).alloc _, (Blk.newAt _ _ _ (by simp)).alloc _, ⟨List.replicate 16 (.int .i64 0), rfl, Blk.newAt _ _ _ (by simp)⟩, hb, by simp, HA.out.below hb⟩)
  generalize hw3 : (((w.alloc (.cells #[.int .i64 gn, .slice A n c] 45)).alloc (.cells (sV x).toArray 50)).alloc (.cells #[.int .i64 0, .int .i64 0, .int .i64 0, .int .i64 0, .int .i64 0, .int .i64 0, .int .i64 0, .int .i64 0, .int .i64 0, .int .i64 0, .int .i64 0, .int .i64 0, .int .i64 0, .int .i64 0, .int .i64 0, .int .i64 0] 50)) = w3 at *
  clear hw3
  by_cases h0 : k = 0
  · subst h0
    obtain ⟨cs, hcs, hr⟩ := HT.out.r
    have HCS := Lib.hid hcs
    have HR := Lib.hid hr
    clear hcs hr
    go_wp2_with (first | (refine wpList_load_row rfl 50 (.tmp 4) rfl (w.heap.size + 1) rfl _ _ (0, 0) _ HT.out.x u_state rfl (by simpa [sV_length] using i_state) ?_) | (refine wpList_putrow rfl 50 (.tmp 6) (.tmp 9) rfl (w.heap.size + 2) _ rfl rfl _ _ HR.out (by simpa [sV_length] using i_state) (by rw [HCS.out, sV_length]) (sV_cell _) w.heap.size w HT.out.below (by omega) ?_; intro wa Ha _ HBa))
    exact bodyPost_ret (v := .agg (sV x).toArray) (results_cell_row rfl _ _ (w.heap.size + 2) _ _ (0, 0) _ rfl Ha.out u_state rfl (by simpa [sV_length] using i_state)) rfl ⟨rfl, HBa.out⟩
  · have h1 : ((k : Int) == 0) = false := by simp; omega
    have hus := u_state
    have his : (Tryz.prog.info? 50).map (·.size) = some (sV x).length := by rw [sV_length]; exact i_state
    have H1 := HT.out.all
    go_upto_region 3 with (fail)
    go_region_held3 (fun w' => RunS w gn A n c l x w' ∧ w'.rangeAt (w.heap.size + 1) 0 (sV x) ∧ w'.cell? ⟨w.heap.size, 1, none⟩ = some (.slice A n c) ∧ w'.there (w.heap.size + 2) 0 16)
      (first | assumption | (with_reducible exact H1) | (with_reducible exact hS) | (with_reducible exact run_put hS HA.out _) | exact run_drew H1 | exact run_drew (by assumption))
      (first | ((go_at_call 35; (with_reducible refine (newDelays_any A n c l _ HN.out hn2 (run_arcs (w := w) (by assumption)) HOK.out).mono ?_); rintro e w' ⟨rfl, hb'⟩; have hS := run_call (w := w) (by assumption) hb')) | ((go_at_call 34; (with_reducible refine (power_any (dArcs l) 1000000 (dArcs_small HOK.out) (by omega) k _ (by omega) (by omega) (by omega)).mono ?_); rintro e w' ⟨M, rfl, hp, hs, hb'⟩; have hS := run_call (w := w) (by assumption) hb'; have HP := Lib.hid (And.intro hp hs); clear hp hs)) | ((go_at_call 33; (with_reducible refine (then_any x _ 2000000000000 _ _ HX.out HP.out.2 (by omega) (by omega) (by omega)).mono ?_); rintro e w' ⟨rfl, hb'⟩; have hS := run_call (w := w) (by assumption) hb'; have hth : w'.there (w.heap.size + 2) 0 (sV (MP.ap x M)).toArray.size := (by rw [sV_size]; exact hS.2.2.2); have hcc := sV_cell (MP.ap x M); have his2 : (Tryz.prog.info? 50).map (·.size) = some (sV (MP.ap x M)).toArray.size := (by rw [sV_size]; exact i_state); have HY : Hid (sV (MP.ap x M) = sV (MP.it x (dArcs l) k)) := Lib.hid (by rw [HP.out.1]); generalize sV (MP.ap x M) = Y at *)))
    have hYl : Y.length = 16 := by rw [HY.out, sV_length]
    have hfin : Blk (w'.setCells (w.heap.size + 2) 0 Y) (w.heap.size + 2) 50 Y.toArray ∧ Below w.heap.size w (w'.setCells (w.heap.size + 2) 0 Y) := by
      obtain ⟨cs, hcs, hr⟩ := hS.1.r
      refine ⟨?_, below_setCells (by omega) _ _ hS.1.below⟩
      have := Blk.setCells Y 0 hr
      rwa [putL_all (by rw [hcs, hYl])] at this
    have HF := Lib.hid hfin
    clear hfin hS hth hcc his2 H1 HT his
    generalize (w'.setCells (w.heap.size + 2) 0 Y) = wf at *
    go_wp2_with fail
    exact bodyPost_ret (v := .agg Y.toArray) (results_cell_row rfl _ _ (w.heap.size + 2) _ _ (0, 0) _ rfl HF.out.1 u_state rfl (by rw [show Y.toArray.size = 16 by simpa using hYl]; exact i_state)) rfl ⟨by rw [HY.out], HF.out.2⟩

theorem Own.lower {w : World} {base base' : Nat} {v : Value} {xs : List Int} (h : Own w base v xs) (hb : base' ≤ base) : Own w base' v xs := by
  refine ⟨h.1, ?_⟩
  rcases h.2 with h2 | ⟨g, cap, cur, e, hg, r⟩
  · exact .inl h2
  · exact .inr ⟨g, cap, cur, e, Nat.le_trans hb hg, r⟩
theorem cloneInts_any {w : World} (A : Option Addr) (n c : Nat) (xs : List Int) (hn : xs.length = n) (hbig : n ≤ 100000) (hx : Ints w A xs) :
    Calls Tryz.prog 36 #[.slice A n c] w fun e w' => ∃ v, e = .returned v ∧ Own w' w.heap.size v xs ∧ Below w.heap.size w w' := by
  cases A with
  | none =>
    have hx0 : xs = [] := Classical.byContradiction fun h => by obtain ⟨b, off, e, -⟩ := hx h; cases e
    subst hx0
    have hnil := fun W => Lib.run_eql_slice_nil (P := Tryz.prog) W 25 3 none n c 0 0 Tryz.underlying25
    clear hn hx
    go_enter Tryz.func36, Tryz.ntmps36
    go_wp2_with fail
    go_ret
    exact ⟨_, rfl, World.ownsRow_nil _ _ _ _, Below.refl _ _⟩
  | some a =>
    have hnil := fun W => Lib.run_eql_slice_nil (P := Tryz.prog) W 25 3 (some a) n c 0 0 Tryz.underlying25
    have HX := Lib.hid (hx.below (w' := w.alloc (.cells #[] 3)) ((Below.refl _ _).alloc (Nat.le_refl _) _))
    have HN := Lib.hid hn
    clear hn hx
    go_enter Tryz.func36, Tryz.ntmps36
    go_wp2_with (at_builtin; refine wpList_app rfl (.tmp 5) (.tmp 6) rfl w.heap.size (.slice (some ⟨w.heap.size, 0, none⟩) 0 0) [] xs _ n c rfl rfl (Own.empty w) HN.out HX.out (by rw [HN.out]; simp; omega) (by simp) ?_; intro v1 w1 ho hg hat; have HO := Lib.hid ho; have HG := Lib.hid hg; clear ho hg hat)
    go_ret
    exact ⟨_, rfl, by simpa using HO.out, ((Below.refl _ _).alloc (Nat.le_refl _) _).grown HG.out (by simp) (by intro k hk; cases hk; exact Nat.le_refl _)⟩

set_option maxRecDepth 100000 in
theorem list_any (x : Nat → Option Int) (n : Nat) (w : World) (hn : n ≤ 16) :
    Calls Tryz.prog 23 #[.agg (sV x).toArray, .int .i64 (n : Int)] w fun e w' => ∃ v, e = .returned v ∧ Own w' w.heap.size v ((List.range n).map fun i => MP.enc (x i)) ∧ Below w.heap.size w w' := by
  have hsl := fun W => slice_to W w.heap.size (n : Int) (by omega) (by omega)
  go_enter Tryz.func23, Tryz.ntmps23
  go_wp2_with fail
  have HB := Lib.hid (Blk.new w 50 (sV x).toArray)
  have HI : Hid (Ints (w.alloc (.cells (sV x).toArray 50)) (some ⟨w.heap.size, 0, none⟩) ((List.range n).map fun i => MP.enc (x i))) := Lib.hid fun _ => by
    refine ⟨w.heap.size, 0, rfl, HB.out.lt, fun i y hi => ?_⟩
    rw [Nat.zero_add, HB.out.cell]
    have hin : i < n := by
      have := (List.getElem?_eq_some_iff.1 hi).1
      simpa using this
    rw [List.getElem?_map, List.getElem?_range hin] at hi
    obtain rfl : MP.enc (x i) = y := by simpa using hi
    simpa [tV] using sV_get x (show i < 16 by omega)
  refine (cloneInts_any (w := w.alloc (.cells (sV x).toArray 50)) (some ⟨w.heap.size, 0, none⟩) n 16 ((List.range n).map fun i => MP.enc (x i)) (by simp) (by omega) HI.out).mono ?_
  rintro e w1 ⟨v, rfl, ho, hb⟩
  have HF : Hid (Own w1 w.heap.size v ((List.range n).map fun i => MP.enc (x i)) ∧ Below w.heap.size w w1) := Lib.hid ⟨Own.lower ho (by simp), ((Below.refl _ w).alloc (Nat.le_refl _) _).trans (hb.mono (by simp))⟩
  clear ho hb HI HB hsl
  go_wp2_with fail
  go_ret
  exact ⟨_, rfl, HF.out.1, HF.out.2⟩
end Go.Proofs.YtddejjilfmphbaaGreatDoor
