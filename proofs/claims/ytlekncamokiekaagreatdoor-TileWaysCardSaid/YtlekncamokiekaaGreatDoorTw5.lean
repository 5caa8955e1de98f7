/- Parts of the proof, one after the other: TileMoved, TileLeaf, TileMap, TileMin, TileSettled, TileSame, TileOrient, TileCells, TileCutter, TileWays, Peel. -/
import Derived.Test.YtlekncamokiekaaGreatDoorTw4
import Derived.IntWalk
import Derived.Deep.CutBlock
import Derived.KernelRfl
import Derived.Laws.CopyOwn
import Derived.Test.YtlekncamokiekaaGreatDoorProg
import Derived.OrdersHeld
import Derived.Deep.RegionHeld3
import Derived.WalkKit
/- The document's moved of tiles. -/
namespace Go.Proofs.YtlekncamokiekaaGreatDoor
open Go.RowKit Go.Sort
attribute [local go_sem ↓] run_min_mn run_max_mx

def NormTo (l : List Pt) (w : World) (e : Ending) (w' : World) : Prop := ∃ v, e = .returned v ∧ PtsOwn w' w.heap.size v (normP l) ∧ Below w.heap.size w w'
/-- Four cells that a world keeps. -/
structure MvS (w1 : World) (b o o2 : Nat) (x y u v : Int) (w' : World) : Prop where
  bel : Below w1.heap.size w1 w'
  hb : b < w1.heap.size
  c0 : w'.cell? ⟨b, o, none⟩ = some (.int .i64 x)
  c1 : w'.cell? ⟨b, o + 1, none⟩ = some (.int .i64 y)
  c2 : w'.cell? ⟨b, o2, none⟩ = some (.int .i64 u)
  c3 : w'.cell? ⟨b, o2 + 1, none⟩ = some (.int .i64 v)
theorem MvS.to {w1 w' w'' : World} {b o o2 : Nat} {x y u v : Int} (h : MvS w1 b o o2 x y u v w') (hb : Below w1.heap.size w' w'') : MvS w1 b o o2 x y u v w'' :=
  ⟨h.bel.trans hb, h.hb, (hb.cell (p := ⟨b, _, none⟩) h.hb).trans h.c0, (hb.cell (p := ⟨b, _, none⟩) h.hb).trans h.c1, (hb.cell (p := ⟨b, _, none⟩) h.hb).trans h.c2, (hb.cell (p := ⟨b, _, none⟩) h.hb).trans h.c3⟩
theorem MvS.all {w1 w' : World} {b o o2 : Nat} {x y u v : Int} (h : MvS w1 b o o2 x y u v w') : MvS w1 b o o2 x y u v w' ∧ w'.cell? ⟨b, o, none⟩ = some (.int .i64 x) ∧ w'.cell? ⟨b, o + 1, none⟩ = some (.int .i64 y) ∧ w'.cell? ⟨b, o2, none⟩ = some (.int .i64 u) ∧ w'.cell? ⟨b, o2 + 1, none⟩ = some (.int .i64 v) := ⟨h, h.c0, h.c1, h.c2, h.c3⟩
theorem MvS.al {w1 w' : World} {b o o2 : Nat} {x y u v : Int} (h : MvS w1 b o o2 x y u v w') (q : Obj) : MvS w1 b o o2 x y u v (w'.alloc q) := h.to ((Below.refl _ _).alloc h.bel.size _)

set_option maxRecDepth 100000 in
set_option maxHeartbeats 4000000 in
theorem moved5_any (A : Option Addr) (n c : Nat) (l : List Pt) (w : World) (hl : l.length = n) (hn : n ≤ 1000) (hsm : Sm l) (hx : PtsAt w A l) :
    Calls Tryz.prog 18 #[.slice A n c] w (NormTo l w) := by
  have KS := Lib.hid (sorted5_any A n c l w hl hn hx)
  have HSL : Hid ((sortR l).length = n) := Lib.hid (by rw [(sortR_perm l).length_eq, hl])
  have HSM : Hid (Sm (sortR l)) := Lib.hid fun p hp => hsm p ((sortR_perm l).mem_iff.1 hp)
  have HNR : Hid (normP l = (sortR l).map fun p => subP p (gt (sortR l) 0)) := Lib.hid rfl
  clear hl hx hsm
  go_enter Tryz.func18, Tryz.ntmps18
  go_wp2_with fail
  refine KS.out.mono ?_
  clear KS
  rintro e w1 ⟨v1, rfl, ho, hb1⟩
  obtain ⟨A1, c1, rfl, hc1, hat, -⟩ := ho.slice
  rw [HSL.out] at hc1 ⊢
  have HAT := Lib.hid hat
  have HB1 := Lib.hid hb1
  clear ho hat hb1
  generalize sortR l = s at *
  go_wp2_with fail
  go_loopw [4, 5] (fun v i wr => ∃ k : Nat, k ≤ n ∧ i = .int .i64 k ∧ PtsOwn wr w1.heap.size v ((s.take k).map fun p => subP p (gt s 0)) ∧ Below w1.heap.size w1 wr) (fun _ i _ => n - (intOf i).toNat)
  case atStart => exact ⟨0, Nat.zero_le _, rfl, PtsOwn.empty w1, (Below.refl _ _).alloc (Nat.le_refl _) _⟩
  case round =>
    obtain ⟨k, hk, rfl, hO, hbw⟩ := hrel
    have HO := Lib.hid hO
    have HBW := Lib.hid hbw
    have hsz := HBW.out.size
    clear hO hbw
    by_cases hlt : k < n
    · have hks : k < s.length := by rw [HSL.out]; exact hlt
      have hs0 : 0 < s.length := by omega
      obtain ⟨b, off, rfl, hb, hin⟩ := HAT.out (by intro e; subst e; simp at hks)
      have hg : s[k]? = some (gt s k) := by unfold gt; rw [List.getD_eq_getElem?_getD, List.getElem?_eq_getElem hks]; rfl
      have hg0 : s[0]? = some (gt s 0) := by unfold gt; rw [List.getD_eq_getElem?_getD, List.getElem?_eq_getElem hs0]; rfl
      obtain ⟨h1, h2⟩ := (hin.below HBW.out hb) k _ hg
      obtain ⟨h3, h4⟩ := (hin.below HBW.out hb) 0 _ hg0
      have hp := HSM.out _ (gt_mem hks)
      have hq := HSM.out _ (gt_mem hs0)
      have HTK : Hid ((s.take (k + 1)).map (fun p => subP p (gt s 0)) = (s.take k).map (fun p => subP p (gt s 0)) ++ [subP (gt s k) (gt s 0)]) := Lib.hid (by
        rw [List.take_succ_eq_append_getElem hks, List.map_append]
        have : gt s k = s[k] := by unfold gt; rw [List.getD_eq_getElem?_getD, List.getElem?_eq_getElem hks]; rfl
        rw [this]; rfl)
      have HLK : Hid (((s.take k).map fun p => subP p (gt s 0)).length = k) := Lib.hid (by rw [List.length_map, List.length_take]; omega)
      have HSB : Hid (subP (gt s k) (gt s 0) = ((gt s k).1 - (gt s 0).1, (gt s k).2 - (gt s 0).2)) := Lib.hid rfl
      generalize gt s k = p at *
      generalize gt s 0 = q at *
      obtain ⟨x, y⟩ := p
      obtain ⟨u, v0⟩ := q
      simp only [Nat.zero_mul, Nat.add_zero] at h3 h4
      simp only at hp hq
      have HM : Hid (MvS w1 b (off + k * 2) off x y u v0 wr) := Lib.hid ⟨HBW.out, hb, h1, h2, h3, h4⟩
      have w1' : IntKind.i64.wrap (x - u) = x - u := IntWalk.i64_in _ (by omega)
      have w2' : IntKind.i64.wrap (y - v0) = y - v0 := IntWalk.i64_in _ (by omega)
      have hk0 : (0 : Int) ≤ (k : Int) := by omega
      have hkn : (k : Int) < (n : Int) := by omega
      have hn0 : (0 : Int) < (n : Int) := by omega
      have hn00 : 0 < n := by omega
      clear hin hg hg0 h1 h2 h3 h4
      go_upto_region 6 with (fail)
      have H1 := (HM.out.to (Below.refl _ _).drew).all
      go_region_held3 (fun w' => MvS w1 b (off + k * 2) off x y u v0 w' ∧ w'.cell? ⟨b, off + k * 2, none⟩ = some (.int .i64 x) ∧ w'.cell? ⟨b, off + k * 2 + 1, none⟩ = some (.int .i64 y) ∧ w'.cell? ⟨b, off, none⟩ = some (.int .i64 u) ∧ w'.cell? ⟨b, off + 1, none⟩ = some (.int .i64 v0))
        (first | assumption | exact H1 | (with_reducible exact hS) | exact (MvS.al (And.left (by assumption)) _).all)
        (first | (refine step_papp (by rfl) _ _ (by rfl) w1.heap.size _ ((s.take k).map fun p => subP p (u, v0)) [(x - u, y - v0)] (some ⟨wr.heap.size, 0, none⟩) 1 1 (by rfl) (by rfl) (HO.out.alloc _) rfl (PtsAt.one wr _ _) (by rw [HLK.out]; simp; omega) (by simp; omega) ?_; intro v5 w5 ho5 hg5 hat5; have hS := (MvS.to (w1 := w1) (And.left (by assumption)) ((Below.refl _ _).grown hg5 (by simp; omega) (fun q hq => (HO.out.base q hq).1))).all; have HO5 := Lib.hid ho5; clear ho5 hg5 hat5))
      have HEND : Hid (∀ W, PtsOwn W w1.heap.size v5 (((s.take k).map fun p => subP p (u, v0)) ++ [(x - u, y - v0)]) → PtsOwn W w1.heap.size v5 ((s.take (k + 1)).map fun p => subP p (u, v0))) := Lib.hid fun W h => by rw [HTK.out]; exact h
      go_wp2_with fail
      go_roundw
      case rel => exact ⟨k + 1, by omega, by go_num, HEND.out _ HO5.out, hS.1.bel⟩
      case measure => simp [intOf]; omega
    · have hkn : k = n := by omega
      have HF : Hid ((s.take k).map (fun p => subP p (gt s 0)) = normP l) := Lib.hid (by rw [HNR.out, List.take_of_length_le (by rw [HSL.out]; omega)])
      have HBF := Lib.hid (HB1.out.trans (HBW.out.mono HB1.out.size))
      have h1s := HB1.out.size
      go_wp2_with fail
      go_ret
      exact ⟨_, rfl, by rw [← HF.out]; exact HO.out.low h1s, HBF.out⟩
end Go.Proofs.YtlekncamokiekaaGreatDoor

/- Package tile's small functions: isInside, the closures, mapped. -/
namespace Go.Proofs.YtlekncamokiekaaGreatDoor
open Go.RowKit Go.Sort
attribute [local go_sem ↓] run_min_mn run_max_mx

theorem inside_any (x y : Int) (w : World) :
    Calls Tryz.prog 19 #[.agg #[.int .i64 x, .int .i64 y], .int .i64 6, .int .i64 6] w fun e w' => e = .returned (.bool (cellB (x, y))) ∧ Below w.heap.size w w' := by
  have HB : Hid (Below w.heap.size w (w.alloc (Go.Proofs.YtlekncamokiekaaGreatDoor.bx x y))) := Lib.hid ((Below.refl _ _).alloc (Nat.le_refl _) _)
  have HP : Hid (PtAt (w.alloc (Go.Proofs.YtlekncamokiekaaGreatDoor.bx x y)) w.heap.size x y) := Lib.hid PtAt.new
  have HC : Hid (cellB (x, y) = decide ((0 ≤ x ∧ x ≤ 5) ∧ (0 ≤ y ∧ y ≤ 5))) := Lib.hid rfl
  generalize cellB (x, y) = r at *
  go_enter Tryz.func19, Tryz.ntmps19
  go_upto_region 1 with (fail)
  change Code.wp _ _ _ _ (w.alloc (Go.Proofs.YtlekncamokiekaaGreatDoor.bx x y))
  generalize (w.alloc (Go.Proofs.YtlekncamokiekaaGreatDoor.bx x y)) = w0 at *
  obtain ⟨p1, p2⟩ := HP.out
  by_cases h1 : 0 ≤ x
  · by_cases h2 : x < 6
    · by_cases h3 : 0 ≤ y
      · by_cases h4 : y < 6
        · have F : Hid (r = true) := Lib.hid (by rw [HC.out]; exact decide_eq_true ⟨by omega, by omega⟩)
          go_wp2_with fail
          go_ret
          exact ⟨retS_bool (by rw [F.out]), HB.out⟩
        · have F : Hid (r = false) := Lib.hid (by rw [HC.out]; exact decide_eq_false (by omega))
          go_wp2_with fail
          go_ret
          exact ⟨retS_bool (by rw [F.out]), HB.out⟩
      · have F : Hid (r = false) := Lib.hid (by rw [HC.out]; exact decide_eq_false (by omega))
        go_wp2_with fail
        go_ret
        exact ⟨retS_bool F.out.symm, HB.out⟩
    · have F : Hid (r = false) := Lib.hid (by rw [HC.out]; exact decide_eq_false (by omega))
      go_wp2_with fail
      go_ret
      exact ⟨retS_bool F.out.symm, HB.out⟩
  · have F : Hid (r = false) := Lib.hid (by rw [HC.out]; exact decide_eq_false (by omega))
    go_wp2_with fail
    go_ret
    exact ⟨retS_bool F.out.symm, HB.out⟩

theorem rot_any (x y : Int) (w : World) (hx : -10 ≤ x ∧ x ≤ 10) (hy : -10 ≤ y ∧ y ≤ 10) :
    Calls Tryz.prog 26 #[.agg #[.int .i64 x, .int .i64 y]] w fun e w' => e = .returned (.agg #[.int .i64 (-y), .int .i64 x]) ∧ Below w.heap.size w w' := by
  go_enter Tryz.func26, Tryz.ntmps26
  go_wp2
  go_returns
  exact ⟨rfl, by go_grown⟩
theorem flip_any (x y : Int) (w : World) (hx : -10 ≤ x ∧ x ≤ 10) (hy : -10 ≤ y ∧ y ≤ 10) :
    Calls Tryz.prog 27 #[.agg #[.int .i64 x, .int .i64 y]] w fun e w' => e = .returned (.agg #[.int .i64 (-x), .int .i64 y]) ∧ Below w.heap.size w w' := by
  go_enter Tryz.func27, Tryz.ntmps27
  go_wp2
  go_returns
  exact ⟨rfl, by go_grown⟩
theorem sub_any (x y u v : Int) (g : Nat) (w : World) (hx : -10 ≤ x ∧ x ≤ 10) (hy : -10 ≤ y ∧ y ≤ 10) (hu : -10 ≤ u ∧ u ≤ 10) (hv : -10 ≤ v ∧ v ≤ 10) (hg : PtAt w g u v) (hgl : g < w.heap.size) :
    Calls Tryz.prog 38 #[.agg #[.int .i64 x, .int .i64 y], .pointer (some ⟨g, 0, none⟩)] w fun e w' => e = .returned (.agg #[.int .i64 (x - u), .int .i64 (y - v)]) ∧ Below w.heap.size w w' := by
  obtain ⟨g0, g1⟩ := hg
  have hne : g ≠ w.heap.size := by omega
  have hne2 : g ≠ w.heap.size + 1 := by omega
  go_enter Tryz.func38, Tryz.ntmps38
  go_wp2
  go_returns
  exact ⟨rfl, by go_grown⟩
end Go.Proofs.YtlekncamokiekaaGreatDoor

/- Package tile's mapped over its closures. WRITTEN BY genmap.py. -/
namespace Go.Proofs.YtlekncamokiekaaGreatDoor
open Go.RowKit Go.Sort
attribute [local go_sem ↓] run_min_mn run_max_mx

def MapTo (L : List Pt) (w : World) (n : Nat) (e : Ending) (w' : World) : Prop := ∃ g : Nat, e = .returned (.slice (some ⟨g, 0, none⟩) n n) ∧ w.heap.size ≤ g ∧ PtBlk w' g L ∧ Below w.heap.size w w'
theorem map_F (F : Pt → Pt) (l : List Pt) : l.map F = ptF l.length fun i => F (gt l i) := by
  apply List.ext_getElem
  · simp [ptF]
  · intro i h1 h2
    have : i < l.length := by simpa using h1
    simp [ptF, gt, List.getD, this]

set_option maxRecDepth 100000 in
set_option maxHeartbeats 4000000 in
theorem mapRot_any (A : Option Addr) (n c : Nat) (l : List Pt) (w : World) (hl : l.length = n) (hn : n ≤ 100) (hsm : Sm l) (hx : PtsAt w A l) :
    Calls Tryz.prog 25 #[.slice A n c, .func (.func 26) #[] #[]] w (MapTo (l.map rotP) w n) := by
  have HL := Lib.hid hl
  have HX := Lib.hid hx
  have HSM := Lib.hid hsm

  have hmk := make_pts n (by omega)
  have HM : Hid (l.map rotP = ptF n fun i => rotP (gt l i)) := Lib.hid (by rw [← hl]; exact map_F _ l)
  clear hl hx hsm
  go_enter Tryz.func25, Tryz.ntmps25
  go_wp2_with fail
  have R0 : PtBlk (w.alloc (.cells (ptsV (ptF n fun _ => (0, 0))).toArray 41)) w.heap.size (ptF n fun _ => (0, 0)) := heap_alloc_new _ _
  have hb1 : Below w.heap.size w (w.alloc (.cells (ptsV (ptF n fun _ => (0, 0))).toArray 41)) := (Below.refl _ _).alloc (Nat.le_refl _) _
  have hz1 : w.heap.size < (w.alloc (.cells (ptsV (ptF n fun _ => (0, 0))).toArray 41)).heap.size := by simp
  generalize w.alloc (.cells (ptsV (ptF n fun _ => (0, 0))).toArray 41) = w1 at *
  clear hmk
  go_loopw [6, 7, 13] (fun _ _ i wr => ∃ k : Nat, k ≤ n ∧ i = .int .i64 k ∧ PtBlk wr w.heap.size (ptF n fun z => if z < k then rotP (gt l z) else (0, 0)) ∧ Below w.heap.size w wr ∧ w.heap.size < wr.heap.size) (fun _ _ i _ => n - (intOf i).toNat)
  case atStart => exact ⟨0, Nat.zero_le _, rfl, by simpa using R0, hb1, hz1⟩
  case round =>
    clear R0 hb1 hz1
    obtain ⟨k, hk, rfl, hR, hbw, hgr⟩ := hrel
    have HR := Lib.hid hR
    have HBW := Lib.hid hbw
    clear hR hbw
    by_cases hlt : k < n
    · have hkl : k < l.length := by rw [HL.out]; exact hlt
      obtain ⟨b, off, rfl, hb, hin⟩ := HX.out (by intro e; subst e; simp at hkl)
      obtain ⟨h1, h2⟩ := (hin.below HBW.out hb) k (gt l k) (by unfold gt; rw [List.getD_eq_getElem?_getD, List.getElem?_eq_getElem hkl]; rfl)
      have hp := HSM.out _ (gt_mem hkl)
      have HN : Hid (∀ W, PtBlk W w.heap.size ((ptF n fun z => if z < k then rotP (gt l z) else (0, 0)).set k (rotP (gt l k))) → PtBlk W w.heap.size (ptF n fun z => if z < k + 1 then rotP (gt l z) else (0, 0))) := Lib.hid fun W hW => by
        rw [ptF_set] at hW
        rw [ptF_congr (g := fun z => if z = k then rotP (gt l k) else if z < k then rotP (gt l z) else (0, 0))]
        · exact hW
        · intro i hi
          by_cases e : i = k
          · subst e; simp
          · by_cases e2 : i < k
            · simp [e, e2, show i < k + 1 by omega]
            · simp [e, e2, show ¬ i < k + 1 by omega]
      generalize hpk : gt l k = p at *
      obtain ⟨x, y⟩ := p
      simp only at hp
      have hxx : -10 ≤ x ∧ x ≤ 10 := by omega
      have hyy : -10 ≤ y ∧ y ≤ 10 := by omega
      have K := fun (W : World) (hW : Below w.heap.size w W) => Lib.hid (rot_any x y W hxx hyy)
      have HPX : Hid (PtAt (wr.alloc (.cells #[.int .i64 x, .int .i64 y] 41)) wr.heap.size x y) := Lib.hid PtAt.new
      have hsz := HBW.out.size
      have HB2 : Hid (Below w.heap.size w (wr.alloc (.cells #[.int .i64 x, .int .i64 y] 41))) := Lib.hid (HBW.out.alloc hsz _)
      have HR2 : Hid (PtBlk (wr.alloc (.cells #[.int .i64 x, .int .i64 y] 41)) w.heap.size (ptF n fun z => if z < k then rotP (gt l z) else (0, 0))) := Lib.hid (HR.out.alloc _)
      have hgr2 : wr.heap.size < (wr.alloc (.cells #[.int .i64 x, .int .i64 y] 41)).heap.size := by simp
      clear hin hpk
      go_upto_region 5 with (fail)
      generalize (wr.alloc (.cells #[.int .i64 x, .int .i64 y] 41)) = w2 at *
      obtain ⟨q1, q2⟩ := HPX.out
      have hgw : w.heap.size < w2.heap.size := by omega
      go_wp2_with fail
      refine (K _ HB2.out).out.mono ?_
      rintro e w3 ⟨rfl, hb3⟩
      have HR3 := Lib.hid (HR2.out.below hb3 hgw)
      have HB3 := Lib.hid (HB2.out.trans (hb3.mono (by omega)))
      have hg3 := Nat.lt_of_lt_of_le hgw hb3.size
      clear hb3 K q1 q2
      have f1 := HR3.out.frozen (k * 2)
      have f2 := HR3.out.frozen (k * 2 + 1)
      obtain ⟨z1, z2⟩ := HR3.out.cell (i := k) (by rw [ptF_get hlt])
      go_wp2_with fail
      go_roundw
      case rel => exact ⟨k + 1, by omega, by go_num, HN.out _ (HR3.out.set k _ _), (HB3.out.setCell (p := ⟨w.heap.size, _, none⟩) (Nat.le_refl _) _).setCell (p := ⟨w.heap.size, _, none⟩) (Nat.le_refl _) _, by simpa using hg3⟩
      case measure => simp [intOf]; omega
    · have hkn : k = n := by omega
      have HF : Hid (PtBlk wr w.heap.size (l.map rotP)) := Lib.hid (by
        rw [HM.out, ptF_congr (g := fun i => if i < k then rotP (gt l i) else (0, 0))]
        · exact HR.out
        · intro i hi
          simp [show i < k by omega])
      clear hkn
      go_wp2_with fail
      go_ret
      exact ⟨_, rfl, Nat.le_refl _, HF.out, HBW.out⟩

set_option maxRecDepth 100000 in
set_option maxHeartbeats 4000000 in
theorem mapFlip_any (A : Option Addr) (n c : Nat) (l : List Pt) (w : World) (hl : l.length = n) (hn : n ≤ 100) (hsm : Sm l) (hx : PtsAt w A l) :
    Calls Tryz.prog 25 #[.slice A n c, .func (.func 27) #[] #[]] w (MapTo (l.map flipP) w n) := by
  have HL := Lib.hid hl
  have HX := Lib.hid hx
  have HSM := Lib.hid hsm

  have hmk := make_pts n (by omega)
  have HM : Hid (l.map flipP = ptF n fun i => flipP (gt l i)) := Lib.hid (by rw [← hl]; exact map_F _ l)
  clear hl hx hsm
  go_enter Tryz.func25, Tryz.ntmps25
  go_wp2_with fail
  have R0 : PtBlk (w.alloc (.cells (ptsV (ptF n fun _ => (0, 0))).toArray 41)) w.heap.size (ptF n fun _ => (0, 0)) := heap_alloc_new _ _
  have hb1 : Below w.heap.size w (w.alloc (.cells (ptsV (ptF n fun _ => (0, 0))).toArray 41)) := (Below.refl _ _).alloc (Nat.le_refl _) _
  have hz1 : w.heap.size < (w.alloc (.cells (ptsV (ptF n fun _ => (0, 0))).toArray 41)).heap.size := by simp
  generalize w.alloc (.cells (ptsV (ptF n fun _ => (0, 0))).toArray 41) = w1 at *
  clear hmk
  go_loopw [6, 7, 13] (fun _ _ i wr => ∃ k : Nat, k ≤ n ∧ i = .int .i64 k ∧ PtBlk wr w.heap.size (ptF n fun z => if z < k then flipP (gt l z) else (0, 0)) ∧ Below w.heap.size w wr ∧ w.heap.size < wr.heap.size) (fun _ _ i _ => n - (intOf i).toNat)
  case atStart => exact ⟨0, Nat.zero_le _, rfl, by simpa using R0, hb1, hz1⟩
  case round =>
    clear R0 hb1 hz1
    obtain ⟨k, hk, rfl, hR, hbw, hgr⟩ := hrel
    have HR := Lib.hid hR
    have HBW := Lib.hid hbw
    clear hR hbw
    by_cases hlt : k < n
    · have hkl : k < l.length := by rw [HL.out]; exact hlt
      obtain ⟨b, off, rfl, hb, hin⟩ := HX.out (by intro e; subst e; simp at hkl)
      obtain ⟨h1, h2⟩ := (hin.below HBW.out hb) k (gt l k) (by unfold gt; rw [List.getD_eq_getElem?_getD, List.getElem?_eq_getElem hkl]; rfl)
      have hp := HSM.out _ (gt_mem hkl)
      have HN : Hid (∀ W, PtBlk W w.heap.size ((ptF n fun z => if z < k then flipP (gt l z) else (0, 0)).set k (flipP (gt l k))) → PtBlk W w.heap.size (ptF n fun z => if z < k + 1 then flipP (gt l z) else (0, 0))) := Lib.hid fun W hW => by
        rw [ptF_set] at hW
        rw [ptF_congr (g := fun z => if z = k then flipP (gt l k) else if z < k then flipP (gt l z) else (0, 0))]
        · exact hW
        · intro i hi
          by_cases e : i = k
          · subst e; simp
          · by_cases e2 : i < k
            · simp [e, e2, show i < k + 1 by omega]
            · simp [e, e2, show ¬ i < k + 1 by omega]
      generalize hpk : gt l k = p at *
      obtain ⟨x, y⟩ := p
      simp only at hp
      have hxx : -10 ≤ x ∧ x ≤ 10 := by omega
      have hyy : -10 ≤ y ∧ y ≤ 10 := by omega
      have K := fun (W : World) (hW : Below w.heap.size w W) => Lib.hid (flip_any x y W hxx hyy)
      have HPX : Hid (PtAt (wr.alloc (.cells #[.int .i64 x, .int .i64 y] 41)) wr.heap.size x y) := Lib.hid PtAt.new
      have hsz := HBW.out.size
      have HB2 : Hid (Below w.heap.size w (wr.alloc (.cells #[.int .i64 x, .int .i64 y] 41))) := Lib.hid (HBW.out.alloc hsz _)
      have HR2 : Hid (PtBlk (wr.alloc (.cells #[.int .i64 x, .int .i64 y] 41)) w.heap.size (ptF n fun z => if z < k then flipP (gt l z) else (0, 0))) := Lib.hid (HR.out.alloc _)
      have hgr2 : wr.heap.size < (wr.alloc (.cells #[.int .i64 x, .int .i64 y] 41)).heap.size := by simp
      clear hin hpk
      go_upto_region 5 with (fail)
      generalize (wr.alloc (.cells #[.int .i64 x, .int .i64 y] 41)) = w2 at *
      obtain ⟨q1, q2⟩ := HPX.out
      have hgw : w.heap.size < w2.heap.size := by omega
      go_wp2_with fail
      refine (K _ HB2.out).out.mono ?_
      rintro e w3 ⟨rfl, hb3⟩
      have HR3 := Lib.hid (HR2.out.below hb3 hgw)
      have HB3 := Lib.hid (HB2.out.trans (hb3.mono (by omega)))
      have hg3 := Nat.lt_of_lt_of_le hgw hb3.size
      clear hb3 K q1 q2
      have f1 := HR3.out.frozen (k * 2)
      have f2 := HR3.out.frozen (k * 2 + 1)
      obtain ⟨z1, z2⟩ := HR3.out.cell (i := k) (by rw [ptF_get hlt])
      go_wp2_with fail
      go_roundw
      case rel => exact ⟨k + 1, by omega, by go_num, HN.out _ (HR3.out.set k _ _), (HB3.out.setCell (p := ⟨w.heap.size, _, none⟩) (Nat.le_refl _) _).setCell (p := ⟨w.heap.size, _, none⟩) (Nat.le_refl _) _, by simpa using hg3⟩
      case measure => simp [intOf]; omega
    · have hkn : k = n := by omega
      have HF : Hid (PtBlk wr w.heap.size (l.map flipP)) := Lib.hid (by
        rw [HM.out, ptF_congr (g := fun i => if i < k then flipP (gt l i) else (0, 0))]
        · exact HR.out
        · intro i hi
          simp [show i < k by omega])
      clear hkn
      go_wp2_with fail
      go_ret
      exact ⟨_, rfl, Nat.le_refl _, HF.out, HBW.out⟩

set_option maxRecDepth 100000 in
set_option maxHeartbeats 4000000 in
theorem mapSub_any (u v : Int) (gf : Nat) (A : Option Addr) (n c : Nat) (l : List Pt) (w : World) (hl : l.length = n) (hn : n ≤ 100) (hsm : Sm l) (hu : -10 ≤ u ∧ u ≤ 10) (hv : -10 ≤ v ∧ v ≤ 10) (hgf : PtAt w gf u v) (hgl : gf < w.heap.size) (hx : PtsAt w A l) :
    Calls Tryz.prog 25 #[.slice A n c, .func (.func 38) #[] #[.pointer (some ⟨gf, 0, none⟩)]] w (MapTo (l.map (fun p => subP p (u, v))) w n) := by
  have HL := Lib.hid hl
  have HX := Lib.hid hx
  have HSM := Lib.hid hsm
  have HGF := Lib.hid hgf
  have hmk := make_pts n (by omega)
  have HM : Hid (l.map (fun p => subP p (u, v)) = ptF n fun i => (fun p => subP p (u, v)) (gt l i)) := Lib.hid (by rw [← hl]; exact map_F _ l)
  clear hl hx hsm hgf
  go_enter Tryz.func25, Tryz.ntmps25
  go_wp2_with fail
  have R0 : PtBlk (w.alloc (.cells (ptsV (ptF n fun _ => (0, 0))).toArray 41)) w.heap.size (ptF n fun _ => (0, 0)) := heap_alloc_new _ _
  have hb1 : Below w.heap.size w (w.alloc (.cells (ptsV (ptF n fun _ => (0, 0))).toArray 41)) := (Below.refl _ _).alloc (Nat.le_refl _) _
  have hz1 : w.heap.size < (w.alloc (.cells (ptsV (ptF n fun _ => (0, 0))).toArray 41)).heap.size := by simp
  generalize w.alloc (.cells (ptsV (ptF n fun _ => (0, 0))).toArray 41) = w1 at *
  clear hmk
  go_loopw [6, 7, 13] (fun _ _ i wr => ∃ k : Nat, k ≤ n ∧ i = .int .i64 k ∧ PtBlk wr w.heap.size (ptF n fun z => if z < k then (fun p => subP p (u, v)) (gt l z) else (0, 0)) ∧ Below w.heap.size w wr ∧ w.heap.size < wr.heap.size) (fun _ _ i _ => n - (intOf i).toNat)
  case atStart => exact ⟨0, Nat.zero_le _, rfl, by simpa using R0, hb1, hz1⟩
  case round =>
    clear R0 hb1 hz1
    obtain ⟨k, hk, rfl, hR, hbw, hgr⟩ := hrel
    have HR := Lib.hid hR
    have HBW := Lib.hid hbw
    clear hR hbw
    by_cases hlt : k < n
    · have hkl : k < l.length := by rw [HL.out]; exact hlt
      obtain ⟨b, off, rfl, hb, hin⟩ := HX.out (by intro e; subst e; simp at hkl)
      obtain ⟨h1, h2⟩ := (hin.below HBW.out hb) k (gt l k) (by unfold gt; rw [List.getD_eq_getElem?_getD, List.getElem?_eq_getElem hkl]; rfl)
      have hp := HSM.out _ (gt_mem hkl)
      have HN : Hid (∀ W, PtBlk W w.heap.size ((ptF n fun z => if z < k then (fun p => subP p (u, v)) (gt l z) else (0, 0)).set k ((fun p => subP p (u, v)) (gt l k))) → PtBlk W w.heap.size (ptF n fun z => if z < k + 1 then (fun p => subP p (u, v)) (gt l z) else (0, 0))) := Lib.hid fun W hW => by
        rw [ptF_set] at hW
        rw [ptF_congr (g := fun z => if z = k then (fun p => subP p (u, v)) (gt l k) else if z < k then (fun p => subP p (u, v)) (gt l z) else (0, 0))]
        · exact hW
        · intro i hi
          by_cases e : i = k
          · subst e; simp
          · by_cases e2 : i < k
            · simp [e, e2, show i < k + 1 by omega]
            · simp [e, e2, show ¬ i < k + 1 by omega]
      generalize hpk : gt l k = p at *
      obtain ⟨x, y⟩ := p
      simp only at hp
      have hxx : -10 ≤ x ∧ x ≤ 10 := by omega
      have hyy : -10 ≤ y ∧ y ≤ 10 := by omega
      have K := fun (W : World) (hW : Below w.heap.size w W) => Lib.hid (sub_any x y u v gf W hxx hyy hu hv (PtAt.below hW hgl HGF.out) (Nat.lt_of_lt_of_le hgl hW.size))
      have HPX : Hid (PtAt (wr.alloc (.cells #[.int .i64 x, .int .i64 y] 41)) wr.heap.size x y) := Lib.hid PtAt.new
      have hsz := HBW.out.size
      have HB2 : Hid (Below w.heap.size w (wr.alloc (.cells #[.int .i64 x, .int .i64 y] 41))) := Lib.hid (HBW.out.alloc hsz _)
      have HR2 : Hid (PtBlk (wr.alloc (.cells #[.int .i64 x, .int .i64 y] 41)) w.heap.size (ptF n fun z => if z < k then (fun p => subP p (u, v)) (gt l z) else (0, 0))) := Lib.hid (HR.out.alloc _)
      have hgr2 : wr.heap.size < (wr.alloc (.cells #[.int .i64 x, .int .i64 y] 41)).heap.size := by simp
      clear hin hpk
      go_upto_region 5 with (fail)
      generalize (wr.alloc (.cells #[.int .i64 x, .int .i64 y] 41)) = w2 at *
      obtain ⟨q1, q2⟩ := HPX.out
      have hgw : w.heap.size < w2.heap.size := by omega
      go_wp2_with fail
      refine (K _ HB2.out).out.mono ?_
      rintro e w3 ⟨rfl, hb3⟩
      have HR3 := Lib.hid (HR2.out.below hb3 hgw)
      have HB3 := Lib.hid (HB2.out.trans (hb3.mono (by omega)))
      have hg3 := Nat.lt_of_lt_of_le hgw hb3.size
      clear hb3 K q1 q2
      have f1 := HR3.out.frozen (k * 2)
      have f2 := HR3.out.frozen (k * 2 + 1)
      obtain ⟨z1, z2⟩ := HR3.out.cell (i := k) (by rw [ptF_get hlt])
      go_wp2_with fail
      go_roundw
      case rel => exact ⟨k + 1, by omega, by go_num, HN.out _ (HR3.out.set k _ _), (HB3.out.setCell (p := ⟨w.heap.size, _, none⟩) (Nat.le_refl _) _).setCell (p := ⟨w.heap.size, _, none⟩) (Nat.le_refl _) _, by simpa using hg3⟩
      case measure => simp [intOf]; omega
    · have hkn : k = n := by omega
      have HF : Hid (PtBlk wr w.heap.size (l.map (fun p => subP p (u, v)))) := Lib.hid (by
        rw [HM.out, ptF_congr (g := fun i => if i < k then (fun p => subP p (u, v)) (gt l i) else (0, 0))]
        · exact HR.out
        · intro i hi
          simp [show i < k by omega])
      clear hkn
      go_wp2_with fail
      go_ret
      exact ⟨_, rfl, Nat.le_refl _, HF.out, HBW.out⟩
end Go.Proofs.YtlekncamokiekaaGreatDoor

/- slices.MinFunc by package tile's compare. -/
namespace Go.Proofs.YtlekncamokiekaaGreatDoor
open Go.RowKit Go.Sort
attribute [local go_sem ↓] run_min_mn run_max_mx

set_option maxRecDepth 100000 in
set_option maxHeartbeats 4000000 in
theorem min_any (b off n c : Nat) (l : List Pt) (w : World) (hl : l.length = n) (hn0 : 0 < n) (hn : n ≤ 100) (hx : PtsIn w b off l) (hb : b < w.heap.size) :
    Calls Tryz.prog 36 #[.slice (some ⟨b, off, none⟩) n c, .func (.func 37) #[] #[]] w fun e w' => e = .returned (.agg #[.int .i64 (minL l).1, .int .i64 (minL l).2]) ∧ Below w.heap.size w w' := by
  have HL := Lib.hid hl
  have HC : Hid (∀ W, Below w.heap.size w W → ∀ i, i < n → W.cell? ⟨b, off + i * 2, none⟩ = some (.int .i64 (gt l i).1) ∧ W.cell? ⟨b, off + i * 2 + 1, none⟩ = some (.int .i64 (gt l i).2)) := Lib.hid fun W hW i hi =>
    (hx.below hW hb) i (gt l i) (by unfold gt; rw [List.getD_eq_getElem?_getD, List.getElem?_eq_getElem (by omega)]; rfl)
  have HMN : Hid (minL l = minTo l (n - 1)) := Lib.hid (by unfold minL; rw [hl])
  obtain ⟨z1, z2⟩ := HC.out w (Below.refl _ _) 0 hn0
  simp only [Nat.zero_mul, Nat.add_zero] at z1 z2
  have HM0 : Hid (minTo l 0 = gt l 0) := Lib.hid rfl
  clear hl hx
  generalize hz0 : gt l 0 = o at *
  obtain ⟨ox, oy⟩ := o
  go_enter Tryz.func36, Tryz.ntmps36
  go_upto_region 4 with (fail)
  change Code.wp _ _ _ _ ((w.alloc (Go.Proofs.YtlekncamokiekaaGreatDoor.bx 0 0)).alloc (Go.Proofs.YtlekncamokiekaaGreatDoor.bx ox oy))
  have R0 : PtBlk ((w.alloc (Go.Proofs.YtlekncamokiekaaGreatDoor.bx 0 0)).alloc (Go.Proofs.YtlekncamokiekaaGreatDoor.bx ox oy)) w.heap.size [(0, 0)] := (PtBlk.box _ _ _).alloc _
  have M0 : PtBlk ((w.alloc (Go.Proofs.YtlekncamokiekaaGreatDoor.bx 0 0)).alloc (Go.Proofs.YtlekncamokiekaaGreatDoor.bx ox oy)) (w.heap.size + 1) [(ox, oy)] := by
    have := PtBlk.box (w.alloc (Go.Proofs.YtlekncamokiekaaGreatDoor.bx 0 0)) ox oy
    rwa [World.size_alloc] at this
  have hb0 : Below w.heap.size w ((w.alloc (Go.Proofs.YtlekncamokiekaaGreatDoor.bx 0 0)).alloc (Go.Proofs.YtlekncamokiekaaGreatDoor.bx ox oy)) := ((Below.refl _ _).alloc (Nat.le_refl _) _).alloc (by simp) _
  generalize ((w.alloc (Go.Proofs.YtlekncamokiekaaGreatDoor.bx 0 0)).alloc (Go.Proofs.YtlekncamokiekaaGreatDoor.bx ox oy)) = w1 at *
  rw [← HM0.out] at M0
  clear z1 z2
  go_wp2_with fail
  go_loopw [6] (fun i wr => ∃ k : Nat, k + 1 ≤ n ∧ i = .int .i64 ((k : Int) + 1) ∧ PtBlk wr (w.heap.size + 1) [minTo l k] ∧ PtBlk wr w.heap.size [(0, 0)] ∧ Below w.heap.size w wr) (fun i _ => n - (intOf i).toNat)
  case atStart => exact ⟨0, by omega, rfl, M0, R0, hb0⟩
  case round =>
    clear M0 R0 hb0
    obtain ⟨k, hk, rfl, hM, hR, hbw⟩ := hrel
    have HM := Lib.hid hM
    have HR := Lib.hid hR
    have HBW := Lib.hid hbw
    have hgl := hM.lt
    clear hM hR hbw
    by_cases hlt : k + 1 < n
    · obtain ⟨h1, h2⟩ := HC.out wr HBW.out (k + 1) hlt
      obtain ⟨h3, h4⟩ := HM.out.one
      have HMS : Hid (minTo l (k + 1) = if firstP (gt l (k + 1)) (minTo l k) = true then gt l (k + 1) else minTo l k) := Lib.hid rfl
      obtain ⟨⟨x, y⟩, hp⟩ : ∃ p, gt l (k + 1) = p := ⟨_, rfl⟩
      obtain ⟨⟨u, v⟩, hq⟩ : ∃ p, minTo l k = p := ⟨_, rfl⟩
      rw [hp] at h1 h2 HMS
      rw [hq] at h3 h4 HMS HM
      have HF : Hid (decide (cmpP x y u v < 0) = firstP (x, y) (u, v)) := Lib.hid (cmpQ_first (x, y) (u, v))
      have HP := Lib.hid hp
      have K := fun d os => Lib.hid (Calls.regrown_of (compare_any x y u v (grow (redrawn wr d) os)))
      have t1 := cell_regrown h1
      have t2 := cell_regrown h2
      have t3 := cell_regrown h3
      have t4 := cell_regrown h4
      have hk0 : (0 : Int) ≤ (k : Int) + 1 := by omega
      have hkn : (k : Int) + 1 < (n : Int) := by omega
      have e1 : (((k : Nat) : Int) + 1).toNat = k + 1 := by omega
      clear h1 h2 h3 h4 hp hq
      generalize cmpP x y u v = r at *
      go_wp2_with fail
      refine wp_region_quiet_below (by kernel_rfl) (by kernel_rfl) ?_
      repeat (go_big_quiet_step (first | (with_reducible exact (K _ _).out)))
      refine wpQuiet_nil ?_
      intro _ hw'
      obtain ⟨⟨dq, osq⟩, hw''⟩ := hw'
      subst hw''
      have hbr := below_regrown wr dq osq
      have HM2 := Lib.hid (HM.out.below hbr hgl)
      have HR2 := Lib.hid (HR.out.below hbr (by omega))
      have HB2 := Lib.hid (HBW.out.trans (hbr.mono HBW.out.size))
      obtain ⟨h1, h2⟩ := HC.out _ HB2.out (k + 1) hlt
      rw [HP.out] at h1 h2
      generalize grow (redrawn wr dq) osq = w2 at *
      clear hbr t1 t2 t3 t4
      obtain ⟨h3, h4⟩ := HM2.out.one
      have f1 := HM2.out.frozen 0
      have f2 := HM2.out.frozen 1
      by_cases hr : r < 0
      · have HE : Hid (minTo l (k + 1) = (x, y)) := Lib.hid (by rw [HMS.out, ← HF.out, decide_eq_true hr, if_pos rfl])
        go_wp2_with fail
        go_roundw
        case rel => exact ⟨k + 1, by omega, by go_num, by rw [HE.out]; exact HM2.out.put x y, (HR2.out.far (p := ⟨w.heap.size + 1, 0, none⟩) (by show w.heap.size ≠ w.heap.size + 1; omega) _).far (p := ⟨w.heap.size + 1, 1, none⟩) (by show w.heap.size ≠ w.heap.size + 1; omega) _, (HB2.out.setCell (p := ⟨w.heap.size + 1, 0, none⟩) (Nat.le_succ _) _).setCell (p := ⟨w.heap.size + 1, 1, none⟩) (Nat.le_succ _) _⟩
        case measure => simp [intOf]; omega
      · have HE : Hid (minTo l (k + 1) = (u, v)) := Lib.hid (by rw [HMS.out, ← HF.out, decide_eq_false hr, if_neg (by simp)])
        go_wp2_with fail
        go_roundw
        case rel => exact ⟨k + 1, by omega, by go_num, by rw [HE.out]; exact HM2.out, HR2.out, HB2.out⟩
        case measure => simp [intOf]; omega
    · have hkn : k = n - 1 := by omega
      obtain ⟨⟨x, y⟩, hq⟩ : ∃ p, minTo l k = p := ⟨_, rfl⟩
      have HE : Hid (minL l = (x, y)) := Lib.hid (by rw [HMN.out, ← hkn, hq])
      rw [hq] at HM
      clear hkn hq
      obtain ⟨h3, h4⟩ := HM.out.one
      obtain ⟨h5, h6⟩ := HR.out.one
      have f1 := HR.out.frozen 0
      have f2 := HR.out.frozen 1
      go_wp2_with fail
      have HW : Hid (PtBlk ((wr.setCell ⟨w.heap.size, 0, none⟩ (.int .i64 x)).setCell ⟨w.heap.size, 1, none⟩ (.int .i64 y)) w.heap.size [(x, y)]) := Lib.hid (HR.out.put x y)
      have HB2 : Hid (Below w.heap.size w ((wr.setCell ⟨w.heap.size, 0, none⟩ (.int .i64 x)).setCell ⟨w.heap.size, 1, none⟩ (.int .i64 y))) := Lib.hid ((HBW.out.setCell (p := ⟨w.heap.size, 0, none⟩) (Nat.le_refl _) _).setCell (p := ⟨w.heap.size, 1, none⟩) (Nat.le_refl _) _)
      generalize ((wr.setCell ⟨w.heap.size, 0, none⟩ (.int .i64 x)).setCell ⟨w.heap.size, 1, none⟩ (.int .i64 y)) = W at *
      obtain ⟨p0, p1⟩ := HW.out.one
      refine bodyPost_ret (v := .agg #[.int .i64 x, .int .i64 y]) (by simp [results, Tryz.results36, go_sem, p0, p1]) rfl ?_
      exact ⟨by rw [HE.out], HB2.out⟩
end Go.Proofs.YtlekncamokiekaaGreatDoor

/- Package tile's settled: cells in order, moved such that the first one is (0, 0). -/
namespace Go.Proofs.YtlekncamokiekaaGreatDoor
open Go.RowKit Go.Sort
attribute [local go_sem ↓] run_min_mn run_max_mx

theorem PtBlk.own {w : World} {g base n : Nat} {l : List Pt} (h : PtBlk w g l) (hb : base ≤ g) (hn : l.length = n) (hm : n ≤ 1000) : PtsOwn w base (.slice (some ⟨g, 0, none⟩) n n) l := by
  subst hn
  unfold PtsOwn World.ownsRow
  refine ⟨ptsV_length l, .inr ⟨g, l.length, _, rfl, hb, h, Nat.le_refl _, by simp [maxLen]; omega, by simp [ptsV_length], ?_⟩⟩
  rw [List.take_of_length_le (by simp [ptsV_length])]
def SettledTo (l : List Pt) (n : Nat) (w : World) (e : Ending) (w' : World) : Prop := ∃ g, e = .returned (.slice (some ⟨g, 0, none⟩) n n) ∧ PtsOwn w' w.heap.size (.slice (some ⟨g, 0, none⟩) n n) (normP l) ∧ Below w.heap.size w w'

set_option maxRecDepth 100000 in
set_option maxHeartbeats 4000000 in
theorem settled_any (hS : SortsPts) (b off n c : Nat) (l : List Pt) (w : World) (hl : l.length = n) (hn0 : 0 < n) (hn : n ≤ 100) (hsm : Sm l) (hx : PtsIn w b off l) (hb : b < w.heap.size) :
    Calls Tryz.prog 22 #[.slice (some ⟨b, off, none⟩) n c] w (SettledTo l n w) := by
  have K1 := Lib.hid (min_any b off n c l w hl hn0 hn hx hb)
  have hmem := hsm _ (minL_mem (l := l) (by omega))
  have HX := Lib.hid hx
  have HL := Lib.hid hl
  have HSM := Lib.hid hsm
  have HNE : Hid (∀ s, List.Perm s (l.map fun p => subP p (minL l)) → s.Pairwise leP → s = normP l) := Lib.hid fun s h1 h2 => norm_eq (by omega) h1 h2
  clear hx hl hsm
  generalize minL l = m at *
  obtain ⟨u, v⟩ := m
  simp only at hmem
  go_enter Tryz.func22, Tryz.ntmps22
  go_wp2_with fail
  refine K1.out.mono ?_
  rintro e w1 ⟨rfl, hb1⟩
  have HB1 := Lib.hid hb1
  clear hb1 K1
  go_upto_region 2 with (fail)
  have HF : Hid (PtAt (w1.alloc (Go.Proofs.YtlekncamokiekaaGreatDoor.bx u v)) w1.heap.size u v ∧ Below w.heap.size w (w1.alloc (Go.Proofs.YtlekncamokiekaaGreatDoor.bx u v)) ∧ w1.heap.size < (w1.alloc (Go.Proofs.YtlekncamokiekaaGreatDoor.bx u v)).heap.size) := Lib.hid ⟨PtAt.new, HB1.out.alloc HB1.out.size _, by simp⟩
  change Code.wp _ _ _ _ (w1.alloc (Go.Proofs.YtlekncamokiekaaGreatDoor.bx u v))
  generalize (w1.alloc (Go.Proofs.YtlekncamokiekaaGreatDoor.bx u v)) = w2 at *
  generalize w1.heap.size = gf at *
  have K2 := Lib.hid (mapSub_any u v gf (some ⟨b, off, none⟩) n c l w2 HL.out hn HSM.out (by omega) (by omega) HF.out.1 HF.out.2.2 (fun _ => ⟨b, off, rfl, Nat.lt_of_lt_of_le hb HF.out.2.1.size, HX.out.below HF.out.2.1 hb⟩))
  go_wp2_with fail
  refine K2.out.mono ?_
  rintro e w3 ⟨g, rfl, hg, hblk, hb3⟩
  have h2s := HF.out.2.1.size
  have hln : (l.map fun p => subP p (u, v)).length = n := by rw [List.length_map]; exact HL.out
  have HO := Lib.hid (PtBlk.own (base := w.heap.size) hblk (by omega) hln (by omega))
  have HB3 := Lib.hid (HF.out.2.1.trans (hb3.mono h2s))
  have K3 := Lib.hid (sort_own hS HO.out hln (by omega) hblk.lt)
  have hgb : w.heap.size ≤ g := by omega
  have h3s := HB3.out.size
  clear hblk hb3 hln K2 HF hg
  go_wp2_with fail
  refine K3.out.mono ?_
  clear K3
  rintro e w4 ⟨rfl, l', hp, hs, ho4, hg4⟩
  have HE := Lib.hid (HNE.out l' hp hs)
  have HO4 := Lib.hid ho4
  have HB4 : Hid (Below w.heap.size w w4) := Lib.hid (HB3.out.grown hg4 h3s (fun k hk => by cases hk; exact hgb))
  clear hp hs ho4 hg4
  go_wp2_with fail
  go_ret
  exact ⟨g, rfl, by rw [← HE.out]; exact HO4.out, HB4.out⟩
end Go.Proofs.YtlekncamokiekaaGreatDoor

/- slices.Equal and the search for a list among lists, in package tile. -/
namespace Go.Proofs.YtlekncamokiekaaGreatDoor
open Go.RowKit Go.Sort
attribute [local go_sem ↓] run_min_mn run_max_mx Go.wp_at_zero Go.wp_at_succ

set_option maxRecDepth 100000 in
set_option maxHeartbeats 2000000 in
theorem equal_any (A B : Option Addr) (n m c d : Nat) (l r : List Pt) (w : World) (hl : l.length = n) (hn : n ≤ 10000) (hx : PtsAt w A l) (hr : r.length = m) (hm : m ≤ 10000) (hy : PtsAt w B r) :
    Calls Tryz.prog 42 #[.slice A n c, .slice B m d] w fun e w' => e = .returned (.bool (decide (l = r))) ∧ Below w.heap.size w w' := by
  have HL := Lib.hid hl
  have HR := Lib.hid hr
  have HX := Lib.hid hx
  have HY := Lib.hid hy
  clear hl hr hx hy
  by_cases hnm : n = m
  · subst hnm
    go_enter Tryz.func42, Tryz.ntmps42
    go_wp2_with fail
    go_loopw [5, 13] (fun _ i wr => ∃ k : Nat, k ≤ n ∧ i = .int .i64 k ∧ l.take k = r.take k ∧ Below w.heap.size w wr) (fun _ i _ => n - (intOf i).toNat)
    case atStart => exact ⟨0, Nat.zero_le _, rfl, rfl, Below.refl _ _⟩
    case round =>
      obtain ⟨k, hk, rfl, he, hbw⟩ := hrel
      have HE := Lib.hid he
      clear he
      by_cases hlt : k < n
      · have hkl : k < l.length := by rw [HL.out]; exact hlt
        have hkr : k < r.length := by rw [HR.out]; exact hlt
        obtain ⟨b, off, rfl, hb, hin⟩ := HX.out (by intro e; subst e; simp at hkl)
        obtain ⟨b', off', rfl, hb', hin'⟩ := HY.out (by intro e; subst e; simp at hkr)
        obtain ⟨h1, h2⟩ := (hin.below hbw hb) k _ (List.getElem?_eq_getElem hkl)
        obtain ⟨h3, h4⟩ := (hin'.below hbw hb') k _ (List.getElem?_eq_getElem hkr)
        have HT : Hid (l[k] = r[k] → l.take (k + 1) = r.take (k + 1)) := Lib.hid fun e => by
          rw [List.take_succ_eq_append_getElem hkl, List.take_succ_eq_append_getElem hkr, HE.out, e]
        have HF : Hid (l[k] ≠ r[k] → l ≠ r) := Lib.hid fun e e2 => by subst e2; exact e rfl
        clear hin hin'
        generalize l[k] = p at *
        generalize r[k] = q at *
        obtain ⟨x, y⟩ := p
        obtain ⟨u, v⟩ := q
        have gp := guard_pt
        have ep := eq_pt x y u v
        have t1 := cell_regrown h1
        have t2 := cell_regrown h2
        have t3 := cell_regrown h3
        have t4 := cell_regrown h4
        clear h1 h2 h3 h4
        cases he : eqI x y u v
        · have HD : Hid (decide (l = r) = false) := Lib.hid (decide_eq_false (HF.out (fun e => by rw [eqI_iff.2 e] at he; cases he)))
          go_wp2_with fail
          refine wp_region_quiet_below (by kernel_rfl) (by kernel_rfl) ?_
          repeat (go_big_quiet_step (fail))
          refine wpQuiet_nil ?_
          intro _ hw'
          obtain ⟨⟨dq, osq⟩, hw''⟩ := hw'
          subst hw''
          have HBE := Lib.hid (hbw.trans ((below_regrown wr dq osq).mono hbw.size))
          go_wp2_with fail
          go_ret
          exact ⟨retS_bool HD.out.symm, HBE.out⟩
        · have HT2 := Lib.hid (HT.out (eqI_iff.1 he))
          go_wp2_with fail
          refine wp_region_quiet_below (by kernel_rfl) (by kernel_rfl) ?_
          repeat (go_big_quiet_step (fail))
          refine wpQuiet_nil ?_
          intro _ hw'
          obtain ⟨⟨dq, osq⟩, hw''⟩ := hw'
          subst hw''
          have HBE := Lib.hid (hbw.trans ((below_regrown wr dq osq).mono hbw.size))
          go_wp2_with fail
          go_roundw
          case rel => exact ⟨k + 1, by omega, by go_num, HT2.out, HBE.out⟩
          case measure => simp [intOf]; omega
      · obtain rfl : k = n := by omega
        have HD : Hid (decide (l = r) = true) := Lib.hid (decide_eq_true (by
          have := HE.out
          rwa [List.take_of_length_le (by rw [HL.out]; omega), List.take_of_length_le (by rw [HR.out]; omega)] at this))
        go_wp2_with fail
        go_ret
        exact ⟨retS_bool HD.out.symm, hbw⟩
  · have HD : Hid (decide (l = r) = false) := Lib.hid (decide_eq_false (fun e => hnm (by rw [← HL.out, ← HR.out, e])))
    go_enter Tryz.func42, Tryz.ntmps42
    go_wp2
    go_ret
    exact ⟨retS_bool HD.out.symm, Below.refl _ _⟩

/-- The captured list lies at g. -/
def CapAt (w : World) (g : Nat) (A : Option Addr) (n c : Nat) : Prop := w.cell? ⟨g, 0, none⟩ = some (.slice A n c)
theorem CapAt.below {B : Nat} {w w' : World} {g : Nat} {A : Option Addr} {n c : Nat} (hb : Below B w w') (hg : g < B) (h : CapAt w g A n c) : CapAt w' g A n c := (hb.cell (p := ⟨g, 0, none⟩) hg).trans h

theorem isSame_any (Ab : Option Addr) (nb cb : Nat) (b : List Pt) (g : Nat) (A : Option Addr) (n c : Nat) (l : List Pt) (w : World) (hb : b.length = nb) (hnb : nb ≤ 10000) (hxb : PtsAt w Ab b) (hl : l.length = n) (hn : n ≤ 10000) (hx : PtsAt w A l) (hg : CapAt w g A n c) :
    Calls Tryz.prog 41 #[.slice Ab nb cb, .pointer (some ⟨g, 0, none⟩)] w fun e w' => e = .returned (.bool (decide (l = b))) ∧ Below w.heap.size w w' := by
  have K := Lib.hid (equal_any A Ab n nb c cb l b w hl hn hx hb hnb hxb)
  have hg' : w.cell? ⟨g, 0, none⟩ = some (.slice A n c) := hg
  clear hl hx hb hxb hg
  generalize decide (l = b) = r at *
  go_enter Tryz.func41, Tryz.ntmps41
  go_wp2_with fail
  refine K.out.mono ?_
  rintro e w1 ⟨rfl, hb⟩
  have HB := Lib.hid hb
  clear hb
  go_wp2_with fail
  go_ret
  exact ⟨rfl, HB.out⟩

def FoundW (out : List (List Pt)) (l : List Pt) (w : World) (e : Ending) (w' : World) : Prop := ∃ i : Int, e = .returned (.int .i64 i) ∧ decide (0 ≤ i) = hasW out l ∧ Below w.heap.size w w'

set_option maxHeartbeats 800000 in
theorem indexW_any (A : Option Addr) (n c : Nat) (Ks : List (List Pt)) (g : Nat) (Al : Option Addr) (nl cl : Nat) (l : List Pt) (w : World) (hn : Ks.length = n) (hbig : n ≤ 1000000) (hx : PolysAt w A Ks) (hK : ∀ K ∈ Ks, K.length ≤ 10000) (hl : l.length = nl) (hnl : nl ≤ 10000) (hxl : PtsAt w Al l) (pg : CapAt w g Al nl cl) (hg : g < w.heap.size) :
    Calls Tryz.prog 40 #[.slice A n c, .func (.func 41) #[] #[.pointer (some ⟨g, 0, none⟩)]] w (FoundW Ks l w) := by
  have HN := Lib.hid hn
  have HX := Lib.hid hx
  have HK := Lib.hid hK
  have HG := Lib.hid pg
  have HXL := Lib.hid hxl
  have HLL := Lib.hid hl
  clear hn hx hK pg hxl hl
  go_enter Tryz.func40, Tryz.ntmps40
  go_wp2
  go_loopw [5, 8] (fun _ i wr => ∃ k : Nat, k ≤ n ∧ i = .int .i64 k ∧ hasW (Ks.take k) l = false ∧ Below w.heap.size w wr) (fun _ i _ => n - (intOf i).toNat)
  case atStart => exact ⟨0, Nat.zero_le _, rfl, rfl, Below.refl _ _⟩
  case round =>
    obtain ⟨k, hk, rfl, hz, hbw⟩ := hrel
    have HZ := Lib.hid hz
    clear hz
    by_cases hlt : k < n
    · have hlk : k < Ks.length := by have := HN.out; omega
      obtain ⟨b, off, rfl, hbl, hps⟩ := HX.out (by intro e; subst e; simp at hlk)
      obtain ⟨A1, n1, c1, h1, h2, h3, h4⟩ := (hps.below hbw hbl) k _ (List.getElem?_eq_getElem hlk)
      have hs : hasW (Ks.take (k + 1)) l = decide (l = Ks[k]) := by
        rw [List.take_succ_eq_append_getElem hlk]
        unfold hasW at *
        rw [List.any_append, HZ.out]; simp
      have hall : decide (l = Ks[k]) = true → hasW Ks l = true := fun h => by
        unfold hasW
        exact List.any_eq_true.2 ⟨_, List.getElem_mem hlk, h⟩
      have HS := Lib.hid hs
      have HA := Lib.hid hall
      have F := Lib.hid (isSame_any A1 n1 c1 Ks[k] g Al nl cl l wr h2 (by have := HK.out _ (List.getElem_mem hlk); omega) h4 HLL.out hnl (HXL.out.below hbw) (CapAt.below hbw hg HG.out))
      clear hs hall hps h2 h3 h4
      generalize decide (l = Ks[k]) = r at *
      go_wp2_with fail
      refine (F.out).mono ?_
      rintro e w1 ⟨rfl, hb1⟩
      have hbw1 := hbw.trans (hb1.mono hbw.size)
      clear hb1 h1 F
      cases r
      · go_wp2_with fail
        go_roundw
        case rel => exact ⟨k + 1, by omega, by go_num, HS.out, hbw1⟩
        case measure => simp [intOf]; omega
      · go_wp2_with fail
        go_ret
        exact ⟨_, rfl, by rw [HA.out trivial]; simp, hbw1⟩
    · have hfull : hasW Ks l = false := by
        have := HZ.out
        rw [List.take_of_length_le (by have := HN.out; omega)] at this
        exact this
      have HF := Lib.hid hfull
      clear hfull
      go_wp2
      go_ret
      exact ⟨_, rfl, by rw [HF.out]; rfl, hbw⟩

theorem containsW_any (A : Option Addr) (n c : Nat) (Ks : List (List Pt)) (g : Nat) (Al : Option Addr) (nl cl : Nat) (l : List Pt) (w : World) (hn : Ks.length = n) (hbig : n ≤ 1000000) (hx : PolysAt w A Ks) (hK : ∀ K ∈ Ks, K.length ≤ 10000) (hl : l.length = nl) (hnl : nl ≤ 10000) (hxl : PtsAt w Al l) (pg : CapAt w g Al nl cl) (hg : g < w.heap.size) :
    Calls Tryz.prog 23 #[.slice A n c, .func (.func 41) #[] #[.pointer (some ⟨g, 0, none⟩)]] w fun e w' => e = .returned (.bool (hasW Ks l)) ∧ Below w.heap.size w w' := by
  have K := Lib.hid (indexW_any A n c Ks g Al nl cl l w hn hbig hx hK hl hnl hxl pg hg)
  clear hn hx hK pg hxl hl
  go_enter Tryz.func23, Tryz.ntmps23
  go_wp2_with fail
  refine (K.out).mono ?_
  rintro e w' ⟨i, rfl, hi, hb⟩
  have HI := Lib.hid hi
  clear hi
  go_wp2
  go_ret
  exact ⟨retS_bool HI.out, hb⟩
end Go.Proofs.YtlekncamokiekaaGreatDoor

/- Package tile's orientations. -/
namespace Go.Proofs.YtlekncamokiekaaGreatDoor
open Go.RowKit Go.Sort
attribute [local go_sem ↓] run_min_mn run_max_mx

def sideN (l : List Pt) : Nat → List Pt
  | 0 => l
  | s + 1 => (sideN l s).map flipP
def outS (l : List Pt) (T : Nat) : Nat → List (List Pt)
  | 0 => []
  | s + 1 => turnsTo (sideN l s) (outS l T s) T
def sidesN (f : Bool) : Nat := if f = true then 2 else 1
theorem ways_out (t f : Bool) (l : List Pt) : waysL t f l = outS l (turnsN t) (sidesN f) := by cases f <;> rfl
theorem sideN_length (l : List Pt) : ∀ s, (sideN l s).length = l.length
  | 0 => rfl
  | s + 1 => by unfold sideN; rw [List.length_map, sideN_length l s]
theorem Sm.sideN {l : List Pt} (h : Sm l) : ∀ s, Sm (sideN l s)
  | 0 => h
  | s + 1 => (h.sideN s).flip
theorem outS_mem {l : List Pt} {n T : Nat} (hl : l.length = n) : ∀ s, ∀ b ∈ outS l T s, b.length = n
  | 0, b, hb => by cases hb
  | s + 1, b, hb => turnsTo_mem (by rw [sideN_length, hl]) (outS_mem hl s) T b hb
theorem outS_length (l : List Pt) (T : Nat) : ∀ s, (outS l T s).length ≤ s * T
  | 0 => Nat.zero_le _
  | s + 1 => by
    have := outS_length l T s
    have h2 := turnsTo_length (sideN l s) (outS l T s) T
    show (turnsTo _ _ _).length ≤ _
    rw [Nat.succ_mul]; omega
/-- A list of points that an append to a row of lists does not touch: the caller's, or one in a block of points. -/
def Lst (B : Nat) (w : World) (A : Option Addr) (l : List Pt) : Prop := (∃ b off, A = some ⟨b, off, none⟩ ∧ b < B ∧ b < w.heap.size ∧ PtsIn w b off l) ∨ PtsTy w A l
theorem Lst.at_ {B : Nat} {w : World} {A : Option Addr} {l : List Pt} (h : Lst B w A l) : ∃ b off, A = some ⟨b, off, none⟩ ∧ b < w.heap.size ∧ PtsIn w b off l := by
  rcases h with ⟨b, off, e, -, h1, h2⟩ | h
  · exact ⟨b, off, e, h1, h2⟩
  · obtain ⟨g, e, h1, h2⟩ := h.lt
    exact ⟨g, 0, e, h1, h2⟩
theorem Lst.below {B : Nat} {w w' : World} {A : Option Addr} {l : List Pt} (h : Lst B w A l) (hb : Below w.heap.size w w') : Lst B w' A l := by
  rcases h with ⟨b, off, e, h0, h1, h2⟩ | h
  · exact .inl ⟨b, off, e, h0, Nat.lt_of_lt_of_le h1 hb.size, h2.below hb h1⟩
  · exact .inr (h.below hb)
theorem Lst.kept {B : Nat} {w w' : World} {A : Option Addr} {l : List Pt} {v : Value} {L : List (List Pt)} (h : Lst B w A l) (ho : PolysOwn w B v L) (hg : w.grownBy w' v.ownBlock) : Lst B w' A l := by
  rcases h with ⟨b, off, e, h0, h1, h2⟩ | h
  · refine .inl ⟨b, off, e, h0, Nat.lt_of_lt_of_le h1 hg.size, h2.same (hg.block b h1 fun q => ?_)⟩
    have := (ho.base b q.symm).1
    omega
  · refine .inr (h.kept hg fun k cur hk hc => ?_)
    obtain ⟨cur', hc'⟩ := ho.typed k hk
    rw [hc'] at hc
    simp only [Option.some.injEq, Obj.cells.injEq] at hc
    exact absurd hc.2.1 (by decide)

theorem mkSame_any (A : Option Addr) (n c : Nat) (w : World) :
    Calls Tryz.prog 24 #[.slice A n c] w fun e w' => ∃ g, e = .returned (.func (.func 41) #[] #[.pointer (some ⟨g, 0, none⟩)]) ∧ CapAt w' g A n c ∧ g < w'.heap.size ∧ Below w.heap.size w w' := by
  have HB : Hid (Below w.heap.size w (w.alloc (.cells #[.slice A n c] 22))) := Lib.hid ((Below.refl _ _).alloc (Nat.le_refl _) _)
  have HC : Hid (CapAt (w.alloc (.cells #[.slice A n c] 22)) w.heap.size A n c) := Lib.hid (by unfold CapAt; simp)
  go_enter Tryz.func24, Tryz.ntmps24
  go_wp2_with fail
  go_ret
  exact ⟨_, rfl, HC.out, by simp, HB.out⟩
def OrTo (L : List (List Pt)) (w : World) (e : Ending) (w' : World) : Prop := ∃ v, e = .returned v ∧ PolysOwn w' w.heap.size v L ∧ Below w.heap.size w w'
theorem sides_le (f : Bool) : sidesN f ≤ 2 := by cases f <;> decide
theorem turns_le (t : Bool) : turnsN t ≤ 4 := by cases t <;> decide

set_option maxRecDepth 100000 in
set_option maxHeartbeats 8000000 in
theorem orient_any (hS : SortsPts) (b off n c : Nat) (l : List Pt) (t f : Bool) (w : World) (hl : l.length = n) (hn0 : 0 < n) (hn : n ≤ 100) (hsm : Sm l) (hx : PtsIn w b off l) (hb : b < w.heap.size) :
    Calls Tryz.prog 11 #[.agg #[.slice (some ⟨b, off, none⟩) n c, .bool t, .bool f]] w (OrTo (waysL t f l) w) := by
  have HB0 : Hid (Below w.heap.size w (w.alloc (.cells #[.slice (some ⟨b, off, none⟩) n c, .bool t, .bool f] 24))) := Lib.hid ((Below.refl _ _).alloc (Nat.le_refl _) _)
  have HC0 : Hid (Blk (w.alloc (.cells #[.slice (some ⟨b, off, none⟩) n c, .bool t, .bool f] 24)) w.heap.size 24 #[.slice (some ⟨b, off, none⟩) n c, .bool t, .bool f]) := Lib.hid (Blk.new _ _ _)
  have HL := Lib.hid hl
  have HSM := Lib.hid hsm
  have HX := Lib.hid hx
  have HW := Lib.hid (ways_out t f l)
  have hT := turns_le t
  have hF := sides_le f
  clear hl hsm hx
  go_enter Tryz.func11, Tryz.ntmps11
  go_upto_region 1 with (fail)
  generalize (w.alloc (.cells #[.slice (some ⟨b, off, none⟩) n c, .bool t, .bool f] 24)) = w0 at *
  have k0 := (HC0.out.cell 0).trans (show _ = some (Value.slice (some ⟨b, off, none⟩) n c) from rfl)
  have k1 := (HC0.out.cell 1).trans (show _ = some (Value.bool t) from rfl)
  have k2 := (HC0.out.cell 2).trans (show _ = some (Value.bool f) from rfl)
  go_upto_if 10 with (fail)
  go_cut [3] (fun s wx => s = .int .i64 (sidesN f : Nat) ∧ wx = w0)
  case first =>
    clear hF
    cases f
    · go_wp2_with fail
      go_meet
      exact ⟨rfl, rfl⟩
    · go_wp2_with fail
      go_meet
      exact ⟨rfl, rfl⟩
  case rest =>
    obtain ⟨rfl, rfl⟩ := hcut
    go_upto_if 12 with (fail)
    go_cut [4] (fun s wx => s = .int .i64 (turnsN t : Nat) ∧ wx = wc)
    case first =>
      clear hT
      cases t
      · go_wp2_with fail
        go_meet
        exact ⟨rfl, rfl⟩
      · go_wp2_with fail
        go_meet
        exact ⟨rfl, rfl⟩
    case rest =>
      obtain ⟨rfl, rfl⟩ := hcut
      generalize turnsN t = T at *
      generalize sidesN f = S at *
      have hbw : b < wc.heap.size := Nat.lt_of_lt_of_le hb HB0.out.size
      have H00 : Hid (Lst w.heap.size wc (some ⟨b, off, none⟩) l) := Lib.hid (.inl ⟨b, off, rfl, hb, hbw, HX.out.below HB0.out hb⟩)
      clear hbw
      go_wp2_with fail
      go_loopw [5, 6, 7, 8, 16, 20] (fun v sd _ _ i _ wr => ∃ (s : Nat) (A : Option Addr) (c2 : Nat), s ≤ S ∧ i = .int .i64 s ∧ sd = .slice A n c2 ∧ PolysOwn wr w.heap.size v (outS l T s) ∧ Lst w.heap.size wr A (sideN l s) ∧ Below w.heap.size w wr) (fun _ _ _ _ i _ _ => S - (intOf i).toNat)
      case atStart => exact ⟨0, _, c, Nat.zero_le _, rfl, rfl, PolysOwn.nil _ _, H00.out, HB0.out⟩
      case round =>
        clear H00 k0 k1 k2
        obtain ⟨s, A, c2, hs, rfl, rfl, hO, hLs, hbw⟩ := hrel
        have HO := Lib.hid hO
        have HLs := Lib.hid hLs
        have HBW := Lib.hid hbw
        have HSS := Lib.hid (HSM.out.sideN s)
        have HSL : Hid ((sideN l s).length = n) := Lib.hid (by rw [sideN_length, HL.out])
        have HOM : Hid (∀ b ∈ outS l T s, b.length = n) := Lib.hid (outS_mem HL.out s)
        have HOL : Hid ((outS l T s).length ≤ 8) := Lib.hid (by
          have := outS_length l T s
          have h2 : s * T ≤ 2 * 4 := Nat.mul_le_mul (by omega) hT
          omega)
        have HNX : Hid (outS l T (s + 1) = turnsTo (sideN l s) (outS l T s) T) := Lib.hid rfl
        have HNS : Hid (sideN l (s + 1) = (sideN l s).map flipP) := Lib.hid rfl
        clear hO hLs hbw
        by_cases hlt : s < S
        · generalize sideN l s = sd at *
          generalize outS l T s = out at *
          go_upto_block 2 with (fail)
          go_cut [5, 7, 8, 20] (fun v _ _ _ wx => PolysOwn wx w.heap.size v (turnsTo sd out T) ∧ Lst w.heap.size wx A sd ∧ Below w.heap.size w wx)
          case first =>
            go_wp2_with fail
            go_loopw [5, 7, 8, 20] (fun v wy _ i wx => ∃ (k : Nat) (A7 : Option Addr) (c7 : Nat), k ≤ T ∧ i = .int .i64 k ∧ wy = .slice A7 n c7 ∧ PolysOwn wx w.heap.size v (turnsTo sd out k) ∧ Lst w.heap.size wx A7 (rotN sd k) ∧ Lst w.heap.size wx A sd ∧ Below w.heap.size w wx) (fun _ _ _ i _ => T - (intOf i).toNat)
            case atStart => exact ⟨0, A, c2, Nat.zero_le _, rfl, rfl, HO.out, HLs.out, HLs.out, HBW.out⟩
            case round =>
              obtain ⟨k, A7, c7, hk, rfl, rfl, hO, hL7, hL6, hbw⟩ := hrel
              have HO := Lib.hid hO
              have HL7 := Lib.hid hL7
              have HL6 := Lib.hid hL6
              have HBW := Lib.hid hbw
              clear hO hL7 hL6 hbw
              by_cases hkt : k < T
              · have HRL : Hid ((rotN sd k).length = n) := Lib.hid (by rw [rotN_length, HSL.out])
                have HRS := Lib.hid (HSS.out.rotN k)
                have HTM : Hid (∀ b ∈ turnsTo sd out k, b.length = n) := Lib.hid (turnsTo_mem HSL.out HOM.out k)
                have HTL : Hid ((turnsTo sd out k).length ≤ 12) := Lib.hid (by have := turnsTo_length sd out k; have := HOL.out; omega)
                have HTN : Hid (turnsTo sd out (k + 1) = addW (turnsTo sd out k) (normP (rotN sd k))) := Lib.hid rfl
                have HRN : Hid (rotN sd (k + 1) = (rotN sd k).map rotP) := Lib.hid rfl
                have HNL : Hid ((normP (rotN sd k)).length = n) := Lib.hid (by rw [normP_length, HRL.out])
                generalize turnsTo sd out k = cur at *
                generalize hnx : turnsTo sd out (k + 1) = nxt at *
                have HTE := Lib.hid hnx
                clear hnx
                generalize hnm : normP (rotN sd k) = nm at *
                have HNM := Lib.hid hnm
                clear hnm
                obtain ⟨b7, o7, rfl, hb7, hin7⟩ := HL7.out.at_
                have K1 := Lib.hid (settled_any hS b7 o7 n c7 (rotN sd k) wr HRL.out hn0 hn HRS.out hin7 hb7)
                clear hin7
                go_wp2_with fail
                refine K1.out.mono ?_
                clear K1
                rintro e w1 ⟨gn, rfl, hon, hb1⟩
                rw [HNM.out] at hon
                have hbr1 : Below wr.heap.size wr w1 := hb1
                have HON := Lib.hid hon
                have HO1 := Lib.hid (HO.out.belows hbr1)
                have HL71 := Lib.hid (HL7.out.below hbr1)
                have HL61 := Lib.hid (HL6.out.below hbr1)
                have HB1 := Lib.hid (HBW.out.trans (hbr1.mono HBW.out.size))
                clear hon hb1 hbr1 HO HL7 HL6 HBW hb7
                obtain ⟨Ao, co, rfl, hpo⟩ := HO1.out.slice (fun q hq => by rw [HTM.out q hq]; omega)
                have HPO := Lib.hid hpo
                have HPN : Hid (PtsAt w1 (some ⟨gn, 0, none⟩) nm) := Lib.hid (by
                  obtain ⟨A', c', e, -, h, -⟩ := HON.out.slice
                  simp only [Value.slice.injEq] at e
                  rw [e.1]; exact h)
                clear hpo
                go_wp2_with fail
                refine (mkSame_any (some ⟨gn, 0, none⟩) n n w1).mono ?_
                rintro e w2 ⟨gq, rfl, hcap, hgq, hb2⟩
                have HC2 := Lib.hid hcap
                have HO2 := Lib.hid (HO1.out.belows hb2)
                have HON2 := Lib.hid (HON.out.belows hb2 (Nat.le_refl _))
                have HL72 := Lib.hid (HL71.out.below hb2)
                have HL62 := Lib.hid (HL61.out.below hb2)
                have HB2 := Lib.hid (HB1.out.trans (hb2.mono HB1.out.size))
                have K3 := Lib.hid (containsW_any Ao cur.length co cur gq (some ⟨gn, 0, none⟩) n n nm w2 rfl (by have := HTL.out; omega) (HPO.out.below hb2) (fun q hq => by rw [HTM.out q hq]; omega) HNL.out (by omega) (HPN.out.below hb2) HC2.out hgq)
                clear hcap hb2 HO1 HON HL71 HL61 HB1 HPO HPN HC2 hgq
                go_wp2_with fail
                refine K3.out.mono ?_
                clear K3
                rintro e w3 ⟨rfl, hb3⟩
                have HO3 := Lib.hid (HO2.out.belows hb3)
                have HON3 := Lib.hid (HON2.out.belows hb3 (Nat.le_refl _))
                have HL73 := Lib.hid (HL72.out.below hb3)
                have HL63 := Lib.hid (HL62.out.below hb3)
                have HB3 := Lib.hid (HB2.out.trans (hb3.mono HB2.out.size))
                clear hb3 HO2 HON2 HL72 HL62 HB2
                have HAD : Hid (addW cur nm = if hasW cur nm = true then cur else cur ++ [nm]) := Lib.hid rfl
                generalize hasW cur nm = r at *
                go_upto_if 28 with (fail)
                go_cut [5] (fun v wx => PolysOwn wx w.heap.size v nxt ∧ Lst w.heap.size wx (some ⟨b7, o7, none⟩) (rotN sd k) ∧ Lst w.heap.size wx A sd ∧ Below w.heap.size w wx)
                case first =>
                  cases r
                  · have HBA : Hid (Below w3.heap.size w3 (w3.alloc (.cells #[.slice (some ⟨gn, 0, none⟩) n n] 22))) := Lib.hid ((Below.refl _ _).alloc (Nat.le_refl _) _)
                    have HOB := Lib.hid (HO3.out.belows HBA.out)
                    have HTY : Hid (PtsTy (w3.alloc (.cells #[.slice (some ⟨gn, 0, none⟩) n n] 22)) (some ⟨gn, 0, none⟩) nm) := Lib.hid (by
                      obtain ⟨A', c', e, h, -⟩ := HON3.out.ty (by intro e; have := HNL.out; rw [e] at this; simp at this; omega)
                      simp only [Value.slice.injEq] at e
                      rw [← e.1] at h
                      exact h.below HBA.out)
                    have hcell : (w3.alloc (.cells #[.slice (some ⟨gn, 0, none⟩) n n] 22)).cell? ⟨w3.heap.size, 0, none⟩ = some (.slice (some ⟨gn, 0, none⟩) n n) := by simp
                    have hHC := Lib.hid hcell
                    have HL7A := Lib.hid (HL73.out.below HBA.out)
                    have HL6A := Lib.hid (HL63.out.below HBA.out)
                    have HB3A := Lib.hid (HB3.out.trans (HBA.out.mono HB3.out.size))
                    have hbs : w.heap.size ≤ (w3.alloc (.cells #[.slice (some ⟨gn, 0, none⟩) n n] 22)).heap.size := HB3A.out.size
                    have hlc : cur.length + 1 ≤ 100000 := by have := HTL.out; omega
                    clear hcell
                    go_wp2_with (at_builtin; refine wpList_plapp rfl (.tmp 29) (.tmp 31) rfl w.heap.size _ cur w3.heap.size (some ⟨gn, 0, none⟩) n n nm rfl rfl HOB.out hHC.out HNL.out (fun _ => HTY.out) hlc hbs ?_; intro v4 w4 ho hg hat; have HO4 := Lib.hid ho; have HL74 := Lib.hid (HL7A.out.kept HOB.out hg); have HL64 := Lib.hid (HL6A.out.kept HOB.out hg); have HB4 : Hid (Below w.heap.size w w4) := Lib.hid (HB3A.out.grown hg hbs (fun q hq => (HOB.out.base q hq).1)); clear ho hg hat)
                    go_meet
                    exact ⟨by rw [HTN.out, HAD.out]; exact HO4.out, HL74.out, HL64.out, HB4.out⟩
                  · go_wp2_with fail
                    go_meet
                    exact ⟨by rw [HTN.out, HAD.out]; exact HO3.out, HL73.out, HL63.out, HB3.out⟩
                case rest =>
                  obtain ⟨hO5, hL75, hL65, hb5⟩ := hcut
                  have HO5 := Lib.hid hO5
                  have HL65 := Lib.hid hL65
                  have HB5 := Lib.hid hb5
                  have K4 := Lib.hid (mapRot_any (some ⟨b7, o7, none⟩) n c7 (rotN sd k) wc HRL.out hn HRS.out (by obtain ⟨q, oq, e, h1, h2⟩ := hL75.at_; exact fun _ => ⟨q, oq, e, h1, h2⟩))
                  clear hO5 hL75 hL65 hb5 HO3 HON3 HL73 HL63 HB3
                  go_wp2_with fail
                  refine K4.out.mono ?_
                  clear K4
                  rintro e w6 ⟨g6, rfl, -, hblk, hb6⟩
                  have HO6 := Lib.hid (HO5.out.belows hb6)
                  have HL66 := Lib.hid (HL65.out.below hb6)
                  have HL76 : Hid (Lst w.heap.size w6 (some ⟨g6, 0, none⟩) (rotN sd (k + 1))) := Lib.hid (.inr (by rw [HRN.out]; exact hblk.ty))
                  have HB6 := Lib.hid (HB5.out.trans (hb6.mono HB5.out.size))
                  clear hblk hb6
                  go_wp2_with fail
                  go_roundw
                  case rel => exact ⟨k + 1, _, _, by omega, by go_num, rfl, by rw [HTE.out]; exact HO6.out, HL76.out, HL66.out, HB6.out⟩
                  case measure => simp [intOf]; omega
              · have hkT : k = T := by omega
                have HFT : Hid (turnsTo sd out k = turnsTo sd out T) := Lib.hid (by rw [hkT])
                clear hkT
                go_wp2_with fail
                go_meet
                exact ⟨by rw [← HFT.out]; exact HO.out, HL6.out, HBW.out⟩
          case rest =>
            obtain ⟨hO5, hL5, hb5⟩ := hcut
            have HO5 := Lib.hid hO5
            have HB5 := Lib.hid hb5
            have K4 := Lib.hid (mapFlip_any A n c2 sd wc HSL.out hn HSS.out (by obtain ⟨q, oq, e, h1, h2⟩ := hL5.at_; exact fun _ => ⟨q, oq, e, h1, h2⟩))
            clear hO5 hL5 hb5 HO HLs HBW
            go_wp2_with fail
            refine K4.out.mono ?_
            clear K4
            rintro e w6 ⟨g6, rfl, -, hblk, hb6⟩
            have HO6 := Lib.hid (HO5.out.belows hb6)
            have HL76 : Hid (Lst w.heap.size w6 (some ⟨g6, 0, none⟩) (sideN l (s + 1))) := Lib.hid (.inr (by rw [HNS.out]; exact hblk.ty))
            have HB6 := Lib.hid (HB5.out.trans (hb6.mono HB5.out.size))
            clear hblk hb6
            go_wp2_with fail
            go_roundw
            case rel => exact ⟨s + 1, _, _, by omega, by go_num, rfl, by rw [HNX.out]; exact HO6.out, HL76.out, HB6.out⟩
            case measure => simp [intOf]; omega
        · have hsS : s = S := by omega
          have HFIN : Hid (waysL t f l = outS l T s) := Lib.hid (by rw [HW.out, hsS])
          clear hsS
          go_wp2_with fail
          go_ret
          exact ⟨_, rfl, by rw [HFIN.out]; exact HO.out, HBW.out⟩
end Go.Proofs.YtlekncamokiekaaGreatDoor

/- Package tile's sets of cells: has and with. (Written by gencells.py.) -/
namespace Go.Proofs.YtlekncamokiekaaGreatDoor
open Go.RowKit Go.Sort
attribute [local go_sem ↓] run_min_mn run_max_mx

/-- A set of cells: a number for each row. -/
def rowsC (R : Nat → Nat) : Array Value := #[.int .u8 (R 0 : Nat), .int .u8 (R 1 : Nat), .int .u8 (R 2 : Nat), .int .u8 (R 3 : Nat), .int .u8 (R 4 : Nat), .int .u8 (R 5 : Nat)]
/-- The set with one cell more. -/
def setC (R : Nat → Nat) (x y : Nat) : Nat → Nat := fun i => if i = y then R y ||| 2 ^ x else R i
theorem bit_all : ((List.range 64).all fun r => (List.range 6).all fun x => (Go.bits BinOp.and IntKind.u8 ((r : Int) / 2 ^ x) 1 == 1) == r.testBit x) = true := by kernel_rfl
theorem bit_has {r x : Nat} (hr : r < 64) (hx : x < 6) : (Go.bits BinOp.and IntKind.u8 ((r : Int) / 2 ^ x) 1 == 1) = r.testBit x := by
  have h := bit_all
  simp only [List.all_eq_true, List.mem_range, beq_iff_eq] at h
  exact h r hr x hx
theorem bor_all : ((List.range 64).all fun r => (List.range 6).all fun x => Go.bits BinOp.or IntKind.u8 (r : Int) (2 ^ x % 256) == ((r ||| 2 ^ x : Nat) : Int)) = true := by kernel_rfl
theorem bit_or {r x : Nat} (hr : r < 64) (hx : x < 6) : Go.bits BinOp.or IntKind.u8 (r : Int) (2 ^ x % 256) = ((r ||| 2 ^ x : Nat) : Int) := by
  have h := bor_all
  simp only [List.all_eq_true, List.mem_range, beq_iff_eq] at h
  exact h r hr x hx
theorem setC_lt {R : Nat → Nat} {x y : Nat} (hR : ∀ i, R i < 64) (hx : x < 6) : ∀ i, setC R x y i < 64 := by
  intro i
  unfold setC
  split
  · exact Nat.or_lt_two_pow (n := 6) (hR y) (Nat.pow_lt_pow_right (by omega) hx)
  · exact hR i
theorem setC_bit (R : Nat → Nat) (x y i k : Nat) : (setC R x y i).testBit k = ((R i).testBit k || (decide (i = y) && decide (k = x))) := by
  unfold setC
  split
  · next e => subst e; rw [Nat.testBit_or, Nat.testBit_two_pow]; simp [eq_comm]
  · next e => simp [e]

set_option linter.unusedSimpArgs false in
set_option maxRecDepth 100000 in
set_option maxHeartbeats 2000000 in
theorem has_any (R : Nat → Nat) (x y : Nat) (w : World) (hR : ∀ i, R i < 64) (hx : x < 6) (hy : y < 6) :
    Calls Tryz.prog 20 #[.agg (rowsC R), .agg #[.int .i64 (x : Int), .int .i64 (y : Int)]] w fun e w' => e = .returned (.bool ((R y).testBit x)) ∧ Below w.heap.size w w' := by
  have HB : ∀ i, Hid ((Go.bits BinOp.and IntKind.u8 ((R i : Int) / 2 ^ x) 1 == 1) = (R i).testBit x) := fun i => Lib.hid (bit_has (hR i) hx)
  have hx0 : (0 : Int) ≤ (x : Int) := by omega
  have hx6 : (x : Int) < 6 := by omega
  unfold rowsC
  clear hR hx
  rcases (by omega : y = 0 ∨ y = 1 ∨ y = 2 ∨ y = 3 ∨ y = 4 ∨ y = 5) with rfl | rfl | rfl | rfl | rfl | rfl
  · have F := HB 0
    clear HB
    generalize R 0 = q at *
    go_enter Tryz.func20, Tryz.ntmps20
    go_upto_region 1 with (fail)
    go_region
    all_goals (go_wp2_with fail; go_ret)
    all_goals exact ⟨retS_bool F.out, by go_grown⟩
  · have F := HB 1
    clear HB
    generalize R 1 = q at *
    go_enter Tryz.func20, Tryz.ntmps20
    go_upto_region 1 with (fail)
    go_region
    all_goals (go_wp2_with fail; go_ret)
    all_goals exact ⟨retS_bool F.out, by go_grown⟩
  · have F := HB 2
    clear HB
    generalize R 2 = q at *
    go_enter Tryz.func20, Tryz.ntmps20
    go_upto_region 1 with (fail)
    go_region
    all_goals (go_wp2_with fail; go_ret)
    all_goals exact ⟨retS_bool F.out, by go_grown⟩
  · have F := HB 3
    clear HB
    generalize R 3 = q at *
    go_enter Tryz.func20, Tryz.ntmps20
    go_upto_region 1 with (fail)
    go_region
    all_goals (go_wp2_with fail; go_ret)
    all_goals exact ⟨retS_bool F.out, by go_grown⟩
  · have F := HB 4
    clear HB
    generalize R 4 = q at *
    go_enter Tryz.func20, Tryz.ntmps20
    go_upto_region 1 with (fail)
    go_region
    all_goals (go_wp2_with fail; go_ret)
    all_goals exact ⟨retS_bool F.out, by go_grown⟩
  · have F := HB 5
    clear HB
    generalize R 5 = q at *
    go_enter Tryz.func20, Tryz.ntmps20
    go_upto_region 1 with (fail)
    go_region
    all_goals (go_wp2_with fail; go_ret)
    all_goals exact ⟨retS_bool F.out, by go_grown⟩

set_option linter.unusedSimpArgs false in
set_option maxRecDepth 100000 in
set_option maxHeartbeats 2000000 in
theorem with_any (R : Nat → Nat) (x y : Nat) (w : World) (hR : ∀ i, R i < 64) (hx : x < 6) (hy : y < 6) :
    Calls Tryz.prog 21 #[.agg (rowsC R), .agg #[.int .i64 (x : Int), .int .i64 (y : Int)]] w fun e w' => e = .returned (.agg (rowsC (setC R x y))) ∧ Below w.heap.size w w' := by
  have HB : ∀ i, Hid (Go.bits BinOp.or IntKind.u8 (R i : Int) (2 ^ x % 256) = ((R i ||| 2 ^ x : Nat) : Int)) := fun i => Lib.hid (bit_or (hR i) hx)
  have hx0 : (0 : Int) ≤ (x : Int) := by omega
  have hx6 : (x : Int) < 6 := by omega
  have E : ∀ i, i ≠ y → setC R x y i = R i := fun i h => by unfold setC; rw [if_neg h]
  have E' : setC R x y y = R y ||| 2 ^ x := by unfold setC; rw [if_pos rfl]
  unfold rowsC
  clear hR hx
  rcases (by omega : y = 0 ∨ y = 1 ∨ y = 2 ∨ y = 3 ∨ y = 4 ∨ y = 5) with rfl | rfl | rfl | rfl | rfl | rfl
  · have F := HB 0
    rw [E', E 1 (by omega), E 2 (by omega), E 3 (by omega), E 4 (by omega), E 5 (by omega)]
    clear HB E E'
    generalize R 0 ||| 2 ^ x = q' at *
    generalize R 0 = q at *
    go_enter Tryz.func21, Tryz.ntmps21
    go_upto_region 1 with (fail)
    go_region
    all_goals (go_wp2_with fail)

    all_goals go_returns
    all_goals exact ⟨by rw [F.out], by go_grown⟩
  · have F := HB 1
    rw [E 0 (by omega), E', E 2 (by omega), E 3 (by omega), E 4 (by omega), E 5 (by omega)]
    clear HB E E'
    generalize R 1 ||| 2 ^ x = q' at *
    generalize R 1 = q at *
    go_enter Tryz.func21, Tryz.ntmps21
    go_upto_region 1 with (fail)
    go_region
    all_goals (go_wp2_with fail)

    all_goals go_returns
    all_goals exact ⟨by rw [F.out], by go_grown⟩
  · have F := HB 2
    rw [E 0 (by omega), E 1 (by omega), E', E 3 (by omega), E 4 (by omega), E 5 (by omega)]
    clear HB E E'
    generalize R 2 ||| 2 ^ x = q' at *
    generalize R 2 = q at *
    go_enter Tryz.func21, Tryz.ntmps21
    go_upto_region 1 with (fail)
    go_region
    all_goals (go_wp2_with fail)

    all_goals go_returns
    all_goals exact ⟨by rw [F.out], by go_grown⟩
  · have F := HB 3
    rw [E 0 (by omega), E 1 (by omega), E 2 (by omega), E', E 4 (by omega), E 5 (by omega)]
    clear HB E E'
    generalize R 3 ||| 2 ^ x = q' at *
    generalize R 3 = q at *
    go_enter Tryz.func21, Tryz.ntmps21
    go_upto_region 1 with (fail)
    go_region
    all_goals (go_wp2_with fail)

    all_goals go_returns
    all_goals exact ⟨by rw [F.out], by go_grown⟩
  · have F := HB 4
    rw [E 0 (by omega), E 1 (by omega), E 2 (by omega), E 3 (by omega), E', E 5 (by omega)]
    clear HB E E'
    generalize R 4 ||| 2 ^ x = q' at *
    generalize R 4 = q at *
    go_enter Tryz.func21, Tryz.ntmps21
    go_upto_region 1 with (fail)
    go_region
    all_goals (go_wp2_with fail)

    all_goals go_returns
    all_goals exact ⟨by rw [F.out], by go_grown⟩
  · have F := HB 5
    rw [E 0 (by omega), E 1 (by omega), E 2 (by omega), E 3 (by omega), E 4 (by omega), E']
    clear HB E E'
    generalize R 5 ||| 2 ^ x = q' at *
    generalize R 5 = q at *
    go_enter Tryz.func21, Tryz.ntmps21
    go_upto_region 1 with (fail)
    go_region
    all_goals (go_wp2_with fail)

    all_goals go_returns
    all_goals exact ⟨by rw [F.out], by go_grown⟩
end Go.Proofs.YtlekncamokiekaaGreatDoor

/- Package tile's isCutter. -/
namespace Go.Proofs.YtlekncamokiekaaGreatDoor
open Go.RowKit Go.Sort
attribute [local go_sem ↓] run_min_mn run_max_mx

/-- The set of the first k cells of a list. -/
def SetOf (l : List Pt) (k : Nat) (R : Nat → Nat) : Prop := (∀ i, R i < 64) ∧ ∀ x y : Nat, x < 6 → y < 6 → (R y).testBit x = hasB (l.take k) ((x : Int), (y : Int))
theorem hasB_succ {l : List Pt} {k : Nat} (h : k < l.length) (p : Pt) : hasB (l.take (k + 1)) p = (hasB (l.take k) p || decide (l[k] = p)) := by
  unfold hasB
  rw [List.take_succ_eq_append_getElem h, List.any_append]
  simp
theorem SetOf.zero (l : List Pt) : SetOf l 0 (fun _ => 0) := ⟨fun _ => by simp, fun x y _ _ => by simp [hasB]⟩
theorem SetOf.succ {l : List Pt} {k X Y : Nat} {R : Nat → Nat} (h : SetOf l k R) (hk : k < l.length) (hX : X < 6) (hY : Y < 6) (hp : l[k] = ((X : Int), (Y : Int))) : SetOf l (k + 1) (setC R X Y) := by
  refine ⟨setC_lt h.1 hX, fun x y hx hy => ?_⟩
  rw [setC_bit, h.2 x y hx hy, hasB_succ hk, hp]
  congr 1
  by_cases h1 : y = Y <;> by_cases h2 : x = X <;> simp [h1, h2, Prod.ext_iff] <;> omega

/-- A whole array is stored into a block of its own. -/
theorem wpList_putcells {w : World} {ops : Array Oper} {rest : List Oper} {o : Oper} {a : Act} {Q : Exit → Act → World → Prop} (hgd : o.guard = none) (ty : TypeId) (x y : Operand) (ho : o.op = .store ty x y)
    (g : Nat) (cells : List Value) (hx : a.eval x = .pointer (some ⟨g, 0, none⟩)) (hy : a.eval y = .agg cells.toArray) (t : TypeId) (old : List Value) (hg : w.heap[g]? = some (.cells old.toArray t (0, 0)))
    (hi : (Tryz.prog.info? ty).map (·.size) = some cells.length) (hold : old.length = cells.length) (h1 : ∀ v ∈ cells, v.oneCell' = true) (B : Nat) (w0 : World) (hb : Below B w0 w) (hBg : B ≤ g)
    (h : ∀ w', Hid (w'.heap[g]? = some (.cells cells.toArray t (0, 0))) → Hid (Below B w0 w') → wpList Tryz.prog ops Q rest (a.put o.dst undef) w') : wpList Tryz.prog ops Q (o :: rest) a w :=
  wpList_plain hgd fun _ hK => wp_store_row ty x y ho g cells.toArray hx hy t old.toArray hg (by simpa using hi) (by simpa using hold) (all_oneCell_toArray h1)
    (hK _ _ (h _ (Lib.hid (setRow_heap w g _ _ t _ hg)) (Lib.hid (below_setRow hb hBg _))))
def rowsL (R : Nat → Nat) : List Value := [.int .u8 (R 0 : Nat), .int .u8 (R 1 : Nat), .int .u8 (R 2 : Nat), .int .u8 (R 3 : Nat), .int .u8 (R 4 : Nat), .int .u8 (R 5 : Nat)]
theorem i_cells : (Tryz.prog.info? 55).map (·.size) = some 6 := by kernel_rfl
theorem rowsL_cell (R : Nat → Nat) : ∀ v ∈ rowsL R, v.oneCell' = true := by
  intro v hv
  simp only [rowsL, List.mem_cons, List.not_mem_nil, or_false] at hv
  rcases hv with rfl | rfl | rfl | rfl | rfl | rfl <;> rfl
/-- What lies in memory in a round. -/
def Cst (w w' : World) (g q : Nat) (R : Nat → Nat) (x y : Int) : Prop := Blk w' g 55 (rowsC R) ∧ PtAt w' q x y ∧ Below w.heap.size w w'
theorem Cst.below {w W w' : World} {g q : Nat} {R : Nat → Nat} {x y : Int} (h : Cst w W g q R x y) (hb : Below W.heap.size W w') : Cst w w' g q R x y := by
  refine ⟨h.1.same (hb.block g h.1.lt), ⟨?_, ?_⟩, h.2.2.trans (hb.mono h.2.2.size)⟩
  · exact (hb.cell (p := ⟨q, 0, none⟩) (block_lt_of_cell h.2.1.1)).trans h.2.1.1
  · exact (hb.cell (p := ⟨q, 1, none⟩) (block_lt_of_cell h.2.1.2)).trans h.2.1.2
theorem Cst.cells {w W : World} {g q : Nat} {R : Nat → Nat} {x y : Int} (h : Cst w W g q R x y) :
    (W.cell? ⟨g, 0, none⟩ = some (.int .u8 (R 0 : Nat)) ∧ W.cell? ⟨g, 1, none⟩ = some (.int .u8 (R 1 : Nat)) ∧ W.cell? ⟨g, 2, none⟩ = some (.int .u8 (R 2 : Nat)) ∧ W.cell? ⟨g, 3, none⟩ = some (.int .u8 (R 3 : Nat)) ∧ W.cell? ⟨g, 4, none⟩ = some (.int .u8 (R 4 : Nat)) ∧ W.cell? ⟨g, 5, none⟩ = some (.int .u8 (R 5 : Nat))) ∧
    W.cell? ⟨q, 0, none⟩ = some (.int .i64 x) ∧ W.cell? ⟨q, 1, none⟩ = some (.int .i64 y) :=
  ⟨⟨h.1.cell 0, h.1.cell 1, h.1.cell 2, h.1.cell 3, h.1.cell 4, h.1.cell 5⟩, h.2.1.1, h.2.1.2⟩

set_option maxRecDepth 100000 in
set_option maxHeartbeats 2000000 in
theorem isCutter_any (A : Option Addr) (n c : Nat) (l : List Pt) (t f : Bool) (w : World) (hl : l.length = n) (hn : n ≤ 10000) (hc : n ≤ c) (hx : PtsAt w A l) :
    Calls Tryz.prog 10 #[.agg #[.slice A n c, .bool t, .bool f]] w fun e w' => e = .returned (.bool (cutterB l)) ∧ Below w.heap.size w w' := by
  have HB0 : Hid (Below w.heap.size w (w.alloc (.cells #[.slice A n c, .bool t, .bool f] 24))) := Lib.hid ((Below.refl _ _).alloc (Nat.le_refl _) _)
  have HC0 : Hid (Blk (w.alloc (.cells #[.slice A n c, .bool t, .bool f] 24)) w.heap.size 24 #[.slice A n c, .bool t, .bool f]) := Lib.hid (Blk.new _ _ _)
  have HL := Lib.hid hl
  have HX := Lib.hid hx
  have HSZ : Hid ((w.alloc (.cells #[.slice A n c, .bool t, .bool f] 24)).heap.size = w.heap.size + 1) := Lib.hid (by simp)
  clear hl hx
  go_enter Tryz.func10, Tryz.ntmps10
  go_upto_region 1 with (fail)
  generalize (w.alloc (.cells #[.slice A n c, .bool t, .bool f] 24)) = w0 at *
  have k0 := (HC0.out.cell 0).trans (show _ = some (Value.slice A n c) from rfl)
  by_cases h1 : n < 1
  · have HD : Hid (cutterB l = false) := Lib.hid (by unfold cutterB; rw [decide_eq_false (by rw [HL.out]; omega)]; rfl)
    go_wp2_with fail
    go_ret
    exact ⟨retS_bool HD.out.symm, HB0.out⟩
  · by_cases h6 : 6 < n
    · have HD : Hid (cutterB l = false) := Lib.hid (by unfold cutterB; rw [decide_eq_false (by rw [HL.out]; omega)]; rfl)
      go_wp2_with fail
      go_ret
      exact ⟨retS_bool HD.out.symm, HB0.out⟩
    · have HD1 : Hid (decide (1 ≤ l.length ∧ l.length ≤ 6) = true) := Lib.hid (decide_eq_true (by rw [HL.out]; omega))
      go_upto_region 4 with (fail)
      have HW1 : Hid (Below w.heap.size w (w0.alloc (.cells (rowsC fun _ => 0)  55)) ∧ Blk (w0.alloc (.cells (rowsC fun _ => 0)  55)) w0.heap.size 55 (rowsC fun _ => 0) ∧ Blk (w0.alloc (.cells (rowsC fun _ => 0)  55)) w.heap.size 24 #[.slice A n c, .bool t, .bool f]) := Lib.hid
        ⟨HB0.out.alloc (HSZ.out ▸ Nat.le_succ _) _, Blk.new _ _ _, HC0.out.alloc _⟩
      change Code.wp _ _ _ _ (w0.alloc (.cells (rowsC fun _ => 0)  55))
      have HG : Hid (w.heap.size ≤ w0.heap.size) := Lib.hid (by rw [HSZ.out]; omega)
      generalize (w0.alloc (.cells (rowsC fun _ => 0)  55)) = w1 at *
      generalize w0.heap.size = g at *
      clear k0
      have k0 := (HW1.out.2.2.cell 0).trans (show _ = some (Value.slice A n c) from rfl)
      go_wp2_with fail
      go_loopw [2, 5, 19] (fun r _ i wr => ∃ (k : Nat) (R : Nat → Nat), k ≤ n ∧ i = .int .i64 k ∧ r = .bool false ∧ (l.take k).all cellB = true ∧ twiceTo l k = false ∧ SetOf l k R ∧ Blk wr g 55 (rowsC R) ∧ Below w.heap.size w wr) (fun _ _ i _ => n - (intOf i).toNat)
      case atStart => exact ⟨0, _, Nat.zero_le _, rfl, rfl, rfl, rfl, SetOf.zero l, HW1.out.2.1, HW1.out.1⟩
      case round =>
        clear k0 HW1
        obtain ⟨k, R, hk, rfl, rfl, he, h2, hS, hb, hbw⟩ := hrel
        have HE := Lib.hid he
        have H2 := Lib.hid h2
        have HS := Lib.hid hS
        have HR := Lib.hid hb
        have HBW := Lib.hid hbw
        clear he h2 hS hb hbw
        by_cases hlt : k < n
        · have hkl : k < l.length := by rw [HL.out]; exact hlt
          obtain ⟨b, off, rfl, hb, hin⟩ := HX.out (by intro e; subst e; simp at hkl)
          obtain ⟨h1, h2⟩ := (hin.below HBW.out hb) k _ (List.getElem?_eq_getElem hkl)
          have HT : Hid ((l.take (k + 1)).all cellB = cellB l[k]) := Lib.hid (by rw [all_take hkl, HE.out, Bool.true_and])
          have HA : Hid (cellB l[k] = false → cutterB l = false) := Lib.hid fun e => by
            unfold cutterB
            have : l.all cellB = false := List.all_eq_false.2 ⟨_, List.getElem_mem hkl, by rw [e]; simp⟩
            rw [this]; simp
          have hgt : gt l k = l[k] := by unfold gt; rw [List.getD_eq_getElem?_getD, List.getElem?_eq_getElem hkl]; rfl
          have HU : Hid (twiceTo l (k + 1) = hasB (l.take k) l[k]) := Lib.hid (by rw [twiceTo_succ, H2.out, Bool.false_or, hgt])
          have HV : Hid (hasB (l.take k) l[k] = true → cutterB l = false) := Lib.hid fun e => by
            have : twiceTo l l.length = true := by
              unfold twiceTo
              exact List.any_eq_true.2 ⟨k, List.mem_range.2 hkl, by rw [hgt]; exact e⟩
            unfold cutterB
            rw [this]; simp
          have HSN : Hid (∀ X Y : Nat, X < 6 → Y < 6 → l[k] = ((X : Int), (Y : Int)) → SetOf l (k + 1) (setC R X Y)) := Lib.hid fun X Y hX hY hp => HS.out.succ hkl hX hY hp
          clear hin hgt
          generalize l[k] = p at *
          obtain ⟨x, y⟩ := p
          go_upto_region 7 with (fail)
          have HW : Hid (Cst w (wr.alloc (Go.Proofs.YtlekncamokiekaaGreatDoor.bx x y)) g wr.heap.size R x y) := Lib.hid ⟨HR.out.alloc _, PtAt.new, HBW.out.alloc HBW.out.size _⟩
          change Code.wp _ _ _ _ (wr.alloc (Go.Proofs.YtlekncamokiekaaGreatDoor.bx x y))
          generalize wr.heap.size = q at *
          generalize (wr.alloc (Go.Proofs.YtlekncamokiekaaGreatDoor.bx x y)) = W at *
          clear h1 h2
          obtain ⟨-, p1, p2⟩ := HW.out.cells
          go_wp2_with fail
          refine (inside_any x y W).mono ?_
          rintro e w2 ⟨rfl, hb2⟩
          have HW2 := Lib.hid (HW.out.below hb2)
          clear hb2 p1 p2 HW
          cases hcb : cellB (x, y)
          · have HF : Hid (cutterB l = false) := Lib.hid (HA.out hcb)
            clear hcb
            go_wp2_with fail
            go_ret
            exact ⟨retS_bool HF.out.symm, HW2.out.2.2⟩
          · have hxy := hcb
            unfold cellB at hxy
            simp only [decide_eq_true_eq] at hxy
            obtain ⟨X, rfl⟩ : ∃ X : Nat, x = X := ⟨x.toNat, by omega⟩
            obtain ⟨Y, rfl⟩ : ∃ Y : Nat, y = Y := ⟨y.toNat, by omega⟩
            have hX : X < 6 := by omega
            have hY : Y < 6 := by omega
            have HT2 : Hid ((l.take (k + 1)).all cellB = true) := Lib.hid (HT.out.trans hcb)
            clear hcb hxy HT HA
            obtain ⟨⟨c0, c1, c2, c3, c4, c5⟩, p1, p2⟩ := HW2.out.cells
            go_wp2_with fail
            refine (has_any R X Y w2 HS.out.1 hX hY).mono ?_
            rintro e w3 ⟨rfl, hb3⟩
            rw [HS.out.2 X Y hX hY]
            have HW3 := Lib.hid (HW2.out.below hb3)
            clear hb3 c0 c1 c2 c3 c4 c5 p1 p2 HW2
            cases hr : hasB (l.take k) ((X : Int), (Y : Int))
            · have HU2 : Hid (twiceTo l (k + 1) = false) := Lib.hid (HU.out.trans hr)
              clear hr HU HV
              obtain ⟨⟨c0, c1, c2, c3, c4, c5⟩, p1, p2⟩ := HW3.out.cells
              go_wp2_with fail
              refine (with_any R X Y w3 HS.out.1 hX hY).mono ?_
              rintro e w4 ⟨rfl, hb4⟩
              have HW4 := Lib.hid (HW3.out.below hb4)
              clear hb4 c0 c1 c2 c3 c4 c5 p1 p2 HW3
              have HSX := Lib.hid (HSN.out X Y hX hY rfl)
              generalize setC R X Y = R2 at *
              go_wp2_with (refine wpList_putcells rfl 55 (.tmp 3) (.tmp 33) rfl g (rowsL R2) rfl rfl 55 (rowsL R) HW4.out.1 i_cells rfl (rowsL_cell _) w.heap.size w HW4.out.2.2 HG.out ?_; intro w5 H5 HB5)
              go_roundw
              case rel => exact ⟨k + 1, R2, by omega, by go_num, rfl, HT2.out, HU2.out, HSX.out, H5.out, HB5.out⟩
              case measure => simp [intOf]; omega
            · have HF : Hid (cutterB l = false) := Lib.hid (HV.out hr)
              clear hr
              go_wp2_with fail
              go_ret
              exact ⟨retS_bool HF.out.symm, HW3.out.2.2⟩
        · have HD : Hid (cutterB l = true) := Lib.hid (by
            obtain rfl : k = n := by omega
            unfold cutterB
            have h := HE.out
            have h2 := H2.out
            rw [List.take_of_length_le (by rw [HL.out]; omega)] at h
            rw [HD1.out, h, HL.out, h2]; rfl)
          go_wp2_with fail
          go_ret
          exact ⟨retS_bool HD.out.symm, HBW.out⟩
end Go.Proofs.YtlekncamokiekaaGreatDoor

/- The exported Ways of package tile. -/
namespace Go.Proofs.YtlekncamokiekaaGreatDoor
open Go.RowKit Go.Sort
attribute [local go_sem ↓] run_min_mn run_max_mx

def WaysTo (l : List Pt) (t f : Bool) (w : World) : Ending → World → Prop := fun e w' =>
  Below w.heap.size w w' ∧ ((cutterB l = false ∧ e = .returned (.tuple #[.slice none 0 0, .int .i64 1])) ∨ (cutterB l = true ∧ ∃ v, e = .returned (.tuple #[v, .int .i64 0]) ∧ PolysOwn w' w.heap.size v (waysL t f l)))

set_option maxRecDepth 100000 in
set_option maxHeartbeats 2000000 in
theorem ways_any (hS : SortsPts) (A : Option Addr) (n c : Nat) (l : List Pt) (t f : Bool) (w : World) (hl : l.length = n) (hn : n ≤ 10000) (hc : n ≤ c) (hx : PtsAt w A l) :
    Calls Tryz.prog 5 #[.agg #[.slice A n c, .bool t, .bool f]] w (WaysTo l t f w) := by
  have HB0 : Hid (Below w.heap.size w (w.alloc (.cells #[.slice A n c, .bool t, .bool f] 24))) := Lib.hid ((Below.refl _ _).alloc (Nat.le_refl _) _)
  have HC0 : Hid (Blk (w.alloc (.cells #[.slice A n c, .bool t, .bool f] 24)) w.heap.size 24 #[.slice A n c, .bool t, .bool f]) := Lib.hid (Blk.new _ _ _)
  have HL := Lib.hid hl
  have HX := Lib.hid hx
  clear hl hx
  go_enter Tryz.func5, Tryz.ntmps5
  go_upto_region 1 with (fail)
  generalize (w.alloc (.cells #[.slice A n c, .bool t, .bool f] 24)) = w0 at *
  have k0 := (HC0.out.cell 0).trans (show _ = some (Value.slice A n c) from rfl)
  have k1 := (HC0.out.cell 1).trans (show _ = some (Value.bool t) from rfl)
  have k2 := (HC0.out.cell 2).trans (show _ = some (Value.bool f) from rfl)
  have HLT : Hid (w.heap.size < w0.heap.size) := Lib.hid HC0.out.lt
  go_wp2_with fail
  refine (isCutter_any A n c l t f w0 HL.out hn hc (HX.out.below HB0.out)).mono ?_
  rintro e w2 ⟨rfl, hb2⟩
  have HB2 := Lib.hid (HB0.out.trans (hb2.mono HB0.out.size))
  have HC2 : Hid (Blk w2 w.heap.size 24 #[.slice A n c, .bool t, .bool f]) := Lib.hid (HC0.out.same (hb2.block _ HLT.out))
  clear k0 k1 k2 hb2 HC0 HLT
  cases hcb : cutterB l
  · have HF : Hid (cutterB l = false) := Lib.hid hcb
    clear hcb
    go_wp2_with fail
    go_returns
    exact ⟨HB2.out, .inl ⟨HF.out, rfl⟩⟩
  · obtain ⟨hn0, hn6, hsm⟩ := cutterB_sm hcb
    have HF : Hid (cutterB l = true) := Lib.hid hcb
    rw [HL.out] at hn0 hn6
    have HSM := Lib.hid hsm
    clear hcb hsm
    obtain ⟨b, off, rfl, hb, hin⟩ := HX.out (by intro e; subst e; have := HL.out; simp at this; omega)
    have HIN := Lib.hid (hin.below HB2.out hb)
    have hb2 : b < w2.heap.size := Nat.lt_of_lt_of_le hb HB2.out.size
    clear hin
    have k0 := (HC2.out.cell 0).trans (show _ = some (Value.slice (some ⟨b, off, none⟩) n c) from rfl)
    have k1 := (HC2.out.cell 1).trans (show _ = some (Value.bool t) from rfl)
    have k2 := (HC2.out.cell 2).trans (show _ = some (Value.bool f) from rfl)
    go_wp2_with fail
    refine (orient_any hS b off n c l t f w2 HL.out (by omega) (by omega) HSM.out HIN.out hb2).mono ?_
    rintro e w3 ⟨v, rfl, hO, hb3⟩
    have HO := Lib.hid (hO.low HB2.out.size)
    have HB3 := Lib.hid (HB2.out.trans (hb3.mono HB2.out.size))
    clear hO hb3 k0 k1 k2
    go_wp2_with fail
    go_returns
    exact ⟨HB3.out, .inr ⟨HF.out, v, rfl, HO.out⟩⟩
end Go.Proofs.YtlekncamokiekaaGreatDoor

/- A region that draws its order, whose last operations wait for all others: these are peeled off, and what is held need be held no longer than to them. -/
namespace Go.Proofs.YtlekncamokiekaaGreatDoor

theorem wp_both {P : Program} {o : Oper} {Q Q' : Exit → Act → World → Prop} {a : Act} {w : World} {K K' : Act → World → Prop} (h : ∀ a w, K a w → K' a w) (hp : ∀ c a w, Q (.panic c) a w → Q' (.panic c) a w) (ho : LetsOut Q → LetsOut Q')
    (hh : o.wp P a w K Q) : o.wp P a w K' Q' := by
  unfold Oper.wp at *
  generalize (execOp a.eval o).run P w = r at *
  cases r with
  | ok n w' =>
    cases n <;> simp only [Oper.upon] at hh ⊢ <;>
      first
        | exact h _ _ hh
        | exact Calls.mono hh (fun e w'' he => by
            cases e with
            | returned v => exact h _ _ he
            | panicked c => exact hp _ _ _ he
            | outgrown => exact ho he)
        | exact Rows.mono hh (fun _ _ he => h _ _ he)
  | halt x w' =>
    cases x <;> simp only [Oper.upon] at hh ⊢
    all_goals first | exact hp _ _ _ hh | exact hh
/-- What the front has to come to: the last operation runs well. -/
def QL (P : Program) (last : Oper) (Q : Exit → Act → World → Prop) : Exit → Act → World → Prop
  | .normal, a, w => wpList P #[] Q [last] a w
  | .panic _, _, _ => False
  | e, a, w => Q e a w
theorem ql_out {P : Program} {last : Oper} {Q : Exit → Act → World → Prop} (h : LetsOut (QL P last Q)) : LetsOut Q := by
  obtain ⟨a, w, h⟩ := h
  exact ⟨a, w, h⟩
theorem ql_wp {P : Program} {last o : Oper} {Q : Exit → Act → World → Prop} {a : Act} {w : World} {K K' : Act → World → Prop} (h : ∀ a w, K a w → K' a w) (hh : o.wp P a w K (QL P last Q)) : o.wp P a w K' Q :=
  wp_both h (fun _ _ _ he => (he : False).elim) ql_out hh
structure Peels (md : Region.Mode) (front : Array Oper) (last : Oper) : Prop where
  guard : last.guard = none
  inside : ∀ e ∈ last.after, Region.binds md e = true → e.on < front.size
  waits : ∀ i, i < front.size → ∃ e ∈ last.after, Region.binds md e = true ∧ e.on = i
  order : ∀ (i : Nat) (o : Oper), front[i]? = some o → ∀ e ∈ o.after, Region.binds md e = true → e.on < i
  plain : ∀ (i : Nat) (o : Oper), front[i]? = some o → o.guard = none
theorem getD_push {l : Array Bool} {i : Nat} (h : i < l.size) (d : Bool) : (l.push false).getD i d = l.getD i d := by
  simp [Array.getElem?_push, h, Nat.ne_of_lt h, Array.getD_eq_getD_getElem?]
theorem getD_push_false (l : Array Bool) (i : Nat) : (l.push false).getD i false = l.getD i false := by
  simp only [Array.getD_eq_getD_getElem?, Array.getElem?_push]
  split
  · rename_i h; subst h; simp
  · rfl
theorem least_open (l : Array Bool) (n : Nat) : (∀ i, i < n → l.getD i true = true) ∨ ∃ i, i < n ∧ l.getD i true = false ∧ ∀ j, j < i → l.getD j true = true := by
  induction n with
  | zero => exact .inl fun i h => by omega
  | succ n ih =>
    rcases ih with h | ⟨i, h1, h2, h3⟩
    · by_cases hn : l.getD n true = true
      · refine .inl fun i hi => ?_
        by_cases e : i = n
        · rw [e]; exact hn
        · exact h i (by omega)
      · exact .inr ⟨n, by omega, by simpa using hn, h⟩
    · exact .inr ⟨i, by omega, h2, h3⟩
theorem getD_true_false {l : Array Bool} {i : Nat} (h : i < l.size) (e : l.getD i true = true) : l.getD i false = true := by
  simp only [Array.getD_eq_getD_getElem?, Array.getElem?_eq_getElem h, Option.getD_some] at *
  exact e
theorem any_done {P : Program} {md : Region.Mode} {ops : Array Oper} {Q : Exit → Act → World → Prop} {listed : Array Bool} {a : Act} {w : World} (hr : Region.ready md ops listed = []) (h : Q .normal a w) : ∀ fuel, wpAny P md ops Q fuel listed a w
  | 0 => ⟨hr, h⟩
  | _ + 1 => ⟨fun _ => h, by rw [hr]; intro i hi; cases hi⟩

section
variable {P : Program} {md : Region.Mode} {front : Array Oper} {last : Oper} {Q : Exit → Act → World → Prop}
theorem push_front {i : Nat} (h : i < front.size) : (front.push last)[i]? = front[i]? := by rw [Array.getElem?_push, if_neg (by omega)]
theorem push_last : (front.push last)[front.size]? = some last := by rw [Array.getElem?_push, if_pos rfl]
theorem ready_front {listed : Array Bool} (hs : listed.size = front.size) {i : Nat} (hi : i < front.size) : i ∈ Region.ready md (front.push last) (listed.push false) ↔ i ∈ Region.ready md front listed := by
  rw [mem_ready, mem_ready, push_front hi, getD_push (by omega)]
  simp only [getD_push_false]
theorem peel_step (hp : Peels md front last) {fuel : Nat} {listed : Array Bool} {a : Act} {w : World} (hs : listed.size = front.size) (h0 : Region.ready md front listed = [] → QL P last Q .normal a w)
    (h1 : ∀ i, i ∈ Region.ready md front listed → wpOp P (front.push last) Q i (wpAny P md (front.push last) Q fuel ((listed.push false).setIfInBounds i true)) a w) : wpAny P md (front.push last) Q (fuel + 1) (listed.push false) a w := by
  have hopen : (listed.push false).getD front.size true = false := by simp [Array.getD_eq_getD_getElem?, ← hs]
  refine ⟨fun hn => ?_, fun i hi => ?_⟩
  · exfalso
    rcases least_open listed front.size with h | ⟨i, hi, h2, h3⟩
    · have : front.size ∈ Region.ready md (front.push last) (listed.push false) := by
        rw [mem_ready]
        refine ⟨hopen, last, push_last, fun e he hb => ?_⟩
        rw [getD_push_false]
        have := hp.inside e he hb
        exact getD_true_false (by omega) (h _ this)
      rw [hn] at this; cases this
    · have hf : front[i]? = some front[i] := Array.getElem?_eq_getElem hi
      have : i ∈ Region.ready md front listed := by
        rw [mem_ready]
        refine ⟨h2, front[i], hf, fun e he hb => ?_⟩
        have := hp.order i _ hf e he hb
        exact getD_true_false (by omega) (h3 _ this)
      rw [← ready_front (last := last) hs hi, hn] at this; cases this
  · by_cases hlt : i < front.size
    · exact h1 i ((ready_front hs hlt).1 hi)
    · have hall := mem_ready.1 hi
      obtain ⟨hx, o, ho, hw⟩ := hall
      obtain rfl : i = front.size := by
        have := (Array.getElem?_eq_some_iff.1 ho).1
        simp at this; omega
      rw [push_last] at ho
      obtain rfl := Option.some.inj ho
      have hl : ∀ j, j < front.size → listed.getD j false = true := fun j hj => by
        obtain ⟨e, he, hb, rfl⟩ := hp.waits j hj
        have := hw e he hb
        rwa [getD_push_false] at this
      have hr0 : Region.ready md front listed = [] := by
        refine List.eq_nil_iff_forall_not_mem.2 fun j hj => ?_
        have hj := mem_ready.1 hj
        obtain ⟨h2, o, ho, -⟩ := hj
        have hjs := (Array.getElem?_eq_some_iff.1 ho).1
        have := hl j hjs
        simp only [Array.getD_eq_getD_getElem?, Array.getElem?_eq_getElem (show j < listed.size by omega), Option.getD_some] at this h2
        rw [this] at h2; cases h2
      have hr1 : Region.ready md (front.push last) ((listed.push false).setIfInBounds front.size true) = [] := by
        refine List.eq_nil_iff_forall_not_mem.2 fun j hj => ?_
        have hj := mem_ready.1 hj
        obtain ⟨h2, o, ho, -⟩ := hj
        have hjs := (Array.getElem?_eq_some_iff.1 ho).1
        simp only [Array.size_push] at hjs
        by_cases e : j = front.size
        · subst e
          simp [Array.getD_eq_getD_getElem?, ← hs] at h2
        · have := hl j (by omega)
          have hjl : j < listed.size := by omega
          simp only [Array.getD_eq_getD_getElem?, Array.getElem?_eq_getElem hjl, Option.getD_some] at this
          rw [Array.getD_eq_getD_getElem?, Array.getElem?_setIfInBounds_ne (by omega), Array.getElem?_push, if_neg (by omega), Array.getElem?_eq_getElem hjl, Option.getD_some, this] at h2
          cases h2
      have hq := h0 hr0
      unfold QL wpList at hq
      unfold wpOp
      rw [push_last]
      simp only [Region.wanted, hp.guard, if_true] at hq ⊢
      rcases hq with hq | hq
      · exact .inl (wp_both (fun a w hq => any_done hr1 hq fuel) (fun _ _ _ h => h) (fun h => h) hq)
      · exact .inr hq
theorem peel_any (hp : Peels md front last) : ∀ (fuel : Nat) (listed : Array Bool) (a : Act) (w : World), listed.size = front.size → wpAny P md front (QL P last Q) fuel listed a w → wpAny P md (front.push last) Q (fuel + 1) (listed.push false) a w := by
  intro fuel
  induction fuel with
  | zero =>
    intro listed a w hs h
    exact peel_step hp hs (fun _ => h.2) (fun i hi => by rw [h.1] at hi; cases hi)
  | succ fuel ih =>
    intro listed a w hs h
    refine peel_step hp hs h.1 fun i hi => ?_
    have h2 := h.2 i hi
    obtain ⟨-, o, ho, -⟩ := mem_ready.1 hi
    have hlt := (Array.getElem?_eq_some_iff.1 ho).1
    unfold wpOp at h2 ⊢
    rw [push_front hlt, ho]
    rw [ho] at h2
    simp only [Region.wanted, hp.plain i o ho, if_true] at h2 ⊢
    rcases h2 with h2 | h2
    · refine .inl (ql_wp (fun a w hk => ?_) h2)
      have := ih (listed.setIfInBounds i true) a w (by simpa using hs) hk
      rwa [show (listed.setIfInBounds i true).push false = (listed.push false).setIfInBounds i true by
        apply Array.ext
        · simp
        · intro j h1 h2
          rw [Array.getElem_push]
          simp only [Array.size_setIfInBounds]
          by_cases hj : j < listed.size
          · rw [dif_pos hj, Array.getElem_setIfInBounds hj, Array.getElem_setIfInBounds (by simp; omega), Array.getElem_push, dif_pos hj]
          · rw [dif_neg hj, Array.getElem_setIfInBounds (by simpa using h1), if_neg (by omega), Array.getElem_push, dif_neg hj]] at this
    · exact .inr ⟨h2.1, ql_out h2.2⟩
end
def peelB (md : Region.Mode) (front : Array Oper) (last : Oper) : Bool :=
  last.guard.isNone && (List.range front.size).all (fun i => last.after.any fun e => Region.binds md e && e.on == i) && last.after.all (fun e => !Region.binds md e || decide (e.on < front.size)) &&
    (List.range front.size).all fun i => match front[i]? with | some o => o.guard.isNone && o.after.all (fun e => !Region.binds md e || decide (e.on < i)) | none => true
theorem peelB_ok {md : Region.Mode} {front : Array Oper} {last : Oper} (h : peelB md front last = true) : Peels md front last := by
  unfold peelB at h
  simp only [Bool.and_eq_true, List.all_eq_true, List.mem_range, Array.any_eq_true', Array.all_eq_true_iff_forall_mem, Option.isNone_iff_eq_none, Bool.or_eq_true, Bool.not_eq_true', decide_eq_true_eq, beq_iff_eq] at h
  obtain ⟨⟨⟨h1, h2⟩, h3⟩, h4⟩ := h
  refine ⟨h1, fun e he hb => ?_, fun i hi => ?_, fun i o ho e he hb => ?_, fun i o ho => ?_⟩
  · rcases h3 e he with h | h
    · rw [hb] at h; cases h
    · exact h
  · obtain ⟨e, he, hb, hx⟩ := h2 i hi
    exact ⟨e, he, hb, hx⟩
  · have := h4 i (Array.getElem?_eq_some_iff.1 ho).1
    rw [ho] at this
    simp only [Bool.and_eq_true, Array.all_eq_true_iff_forall_mem, Bool.or_eq_true, Bool.not_eq_true', decide_eq_true_eq] at this
    rcases this.2 e he with h | h
    · rw [hb] at h; cases h
    · exact h
  · have := h4 i (Array.getElem?_eq_some_iff.1 ho).1
    rw [ho] at this
    simp only [Bool.and_eq_true, Option.isNone_iff_eq_none] at this
    exact this.1
theorem wpList_np {P : Program} {ops : Array Oper} {Q : Exit → Act → World → Prop} : ∀ {l : List Oper} {a : Act} {w : World}, wpList P ops (NoPanic Q) l a w → wpList P ops Q l a w
  | [], _, _, h => h
  | o :: l, a, w, h => by
    unfold wpList at h ⊢
    split at h
    · rename_i hw
      rw [if_pos hw]
      rcases h with h | h
      · exact .inl (wp_both (Q := NoPanic Q) (Q' := Q) (fun a w h => wpList_np h) (fun _ _ _ h => (h : False).elim) (fun ⟨a, w, h⟩ => ⟨a, w, h⟩) h)
      · exact .inr ⟨h.1, let ⟨a, w, h⟩ := h.2; ⟨a, w, h⟩⟩
    · rename_i hw
      rw [if_neg hw]
      exact wpList_np h
/-- Two operations at the end of a region that draws wait for all others: S is to be held up to them alone, and they run in their order. -/
theorem wp_region_peel2 {P : Program} {id : Nat} {l : List Oper} {l1 l2 : Oper} {Q : Exit → Act → World → Prop} {a : Act} {w : World} {S : World → Prop} (n : Nat) (hm : P.follows .mixedOrders = true) (hl : l = l.take n ++ [l1, l2])
    (h1 : peelB .any (l.take n).toArray l1 = true) (h2 : peelB .any ((l.take n).toArray.push l1) l2 = true) (hS : S w.drew)
    (h : S w.drew → wpAnyH P .any (l.take n).toArray (QL P l1 (QL P l2 Q)) S (l.take n).toArray.size (Array.replicate (l.take n).toArray.size false) a w.drew) : (Code.region id l.toArray true).wp P Q a w := by
  refine wp_region_any hm ?_
  have e : l.toArray = ((l.take n).toArray.push l1).push l2 := by
    conv => lhs; rw [hl]
    simp
  rw [e]
  have k1 := peel_any (Q := QL P l2 Q) (peelB_ok h1) _ _ a w.drew (by simp) (wpAny_of_held _ _ _ _ (h hS))
  have k2 := peel_any (Q := Q) (peelB_ok h2) _ _ a w.drew (by simp) k1
  have r : ∀ k, Array.replicate (k + 1) false = (Array.replicate k false).push false := fun k => Array.replicate_succ
  rw [Array.size_push, Array.size_push, r, r]
  exact k2
/-- What is left behind the front: the two, in their order. -/
theorem ql2 {P : Program} {l1 l2 : Oper} {ops : Array Oper} {Q : Exit → Act → World → Prop} {a : Act} {w : World} (g1 : l1.guard = none) (g2 : l2.guard = none) (h : wpList P ops (NoPanic Q) [l1, l2] a w) : QL P l1 (QL P l2 Q) .normal a w := by
  unfold QL
  unfold wpList at h ⊢
  simp only [Region.wanted, g1, if_true] at h ⊢
  rcases h with h | h
  · refine .inl (wp_both (Q := NoPanic Q) (Q' := QL P l2 Q) (fun a w hk => ?_) (fun _ _ _ h => (h : False).elim) (fun ⟨a, w, h⟩ => ⟨a, w, h⟩) h)
    have hk := wpList_np hk
    show wpList P #[] Q [l2] a w
    unfold wpList at hk ⊢
    simp only [Region.wanted, g2, if_true] at hk ⊢
    exact hk
  · exact .inr ⟨h.1, let ⟨a, w, h⟩ := h.2; ⟨a, w, h⟩⟩
end Go.Proofs.YtlekncamokiekaaGreatDoor
