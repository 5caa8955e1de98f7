/- Parts of the proof, one after the other: PtRow, RefWhere, WhereTop, DevBeyond, ApartTop, RefApart, PtsFold, HullMath. -/
import Derived.Test.YtlmdmgbhfoehgaaPk1
import Derived.Test.YtlmdmgbhfoehgaaPk2
import Derived.Laws.MakeOwn
import Derived.Deep.AppendLies
/- A row of points that a function makes: its cells; points that are moved. -/
namespace Go.Proofs.Ytlmdmgbhfoehgaa
open Go.RowKit Go.Sort
attribute [local go_sem ↓] run_min_mn run_max_mx

/-- A block that holds a list of points, and nothing else. -/
def PtBlk (w : World) (g : Nat) (l : List Pt) : Prop := w.heap[g]? = some (.cells (ptsV l).toArray 38 (0, 0))
section
variable {w w' : World} {g : Nat} {l : List Pt}
theorem PtBlk.lt (h : PtBlk w g l) : g < w.heap.size := (Array.getElem?_eq_some_iff.1 h).1
theorem PtBlk.same (h : PtBlk w g l) (e : w'.heap[g]? = w.heap[g]?) : PtBlk w' g l := e.trans h
theorem PtBlk.cells (h : PtBlk w g l) (j : Nat) : w.cell? ⟨g, j, none⟩ = (ptsV l)[j]? := by
  rw [cell_of_row w g j _ 38 (0, 0) h]; simp
theorem PtBlk.cell (h : PtBlk w g l) {i : Nat} {p : Pt} (hp : l[i]? = some p) : w.cell? ⟨g, i * 2, none⟩ = some (.int .i64 p.1) ∧ w.cell? ⟨g, i * 2 + 1, none⟩ = some (.int .i64 p.2) := by
  obtain ⟨h1, h2⟩ := ptsV_get l i p hp
  exact ⟨(h.cells _).trans h1, (h.cells _).trans h2⟩
theorem PtBlk.frozen (h : PtBlk w g l) (i : Nat) : w.frozen? ⟨g, i, none⟩ = false := by simp [World.frozen?, show w.heap[g]? = _ from h]
theorem PtBlk.pts (h : PtBlk w g l) : PtsIn w g 0 l := fun i p hp => by
  obtain ⟨h1, h2⟩ := h.cell hp
  exact ⟨by rw [Nat.zero_add]; exact h1, by rw [Nat.zero_add]; exact h2⟩
theorem PtBlk.below {B : Nat} (h : PtBlk w g l) (hb : Below B w w') (hg : g < B) : PtBlk w' g l := h.same (hb.block g hg)
theorem PtBlk.alloc (h : PtBlk w g l) (o : Obj) : PtBlk (w.alloc o) g l := h.same (Below.heap_alloc w o g h.lt)
theorem ptsV_set : ∀ (l : List Pt) (i : Nat) (x y : Int), ((ptsV l).set (i * 2) (.int .i64 x)).set (i * 2 + 1) (.int .i64 y) = ptsV (l.set i (x, y))
  | [], _, _, _ => rfl
  | p :: l, 0, x, y => rfl
  | p :: l, i + 1, x, y => by
    have e : (i + 1) * 2 = i * 2 + 1 + 1 := by omega
    rw [e]
    simp only [ptsV, List.set_cons_succ, ptsV_set l i x y]
theorem PtBlk.set (h : PtBlk w g l) (i : Nat) (x y : Int) : PtBlk ((w.setCell ⟨g, i * 2, none⟩ (.int .i64 x)).setCell ⟨g, i * 2 + 1, none⟩ (.int .i64 y)) g (l.set i (x, y)) := by
  have e : w.heap[g]? = _ := h
  unfold PtBlk
  rw [← ptsV_set]
  simp [World.setCell, Array.getElem?_modify, e]
theorem PtBlk.far (h : PtBlk w g l) {p : Addr} (hp : g ≠ p.block) (u : Value) : PtBlk (w.setCell p u) g l := h.same (Below.heap_setCell w p u g hp)
end

/-- Points that a function gives. -/
def ptF (n : Nat) (f : Nat → Pt) : List Pt := (List.range n).map f
theorem ptF_length (n : Nat) (f : Nat → Pt) : (ptF n f).length = n := by simp [ptF]
theorem ptF_set (n : Nat) (f : Nat → Pt) (t : Nat) (v : Pt) : (ptF n f).set t v = ptF n (fun u => if u = t then v else f u) := by
  apply List.ext_getElem
  · simp [ptF]
  · intro i h1 h2
    rw [List.getElem_set]
    simp only [ptF, List.getElem_map, List.getElem_range]
    by_cases e : t = i
    · subst e; simp
    · rw [if_neg e, if_neg (fun h => e h.symm)]
theorem ptF_congr {n : Nat} {f g : Nat → Pt} (h : ∀ i, i < n → f i = g i) : ptF n f = ptF n g := List.map_congr_left fun i hi => h i (List.mem_range.1 hi)
theorem ptF_get {n : Nat} {f : Nat → Pt} {i : Nat} (h : i < n) : (ptF n f)[i]? = some (f i) := by simp [ptF, h]

theorem made_pts (m : Nat) : madeCells #[Value.int .i64 0, Value.int .i64 0] (m * 2) = (ptsV (ptF m fun _ => (0, 0))).toArray := by
  apply Array.ext'
  rw [List.toList_toArray]
  have e : ptsV (ptF m fun _ => (0, 0)) = List.replicate (m * 2) (Value.int .i64 0) := by
    induction m with
    | zero => rfl
    | succ m ih =>
      have : ptF (m + 1) (fun _ => ((0, 0) : Pt)) = ptF m (fun _ => (0, 0)) ++ [(0, 0)] := by simp [ptF, List.range_succ]
      rw [this, ptsV_append, ih, show (m + 1) * 2 = m * 2 + 1 + 1 by omega, List.replicate_succ', List.replicate_succ']
      simp [ptsV]
  rw [e]
  apply List.ext_getElem
  · simp [madeCells]
  · intro i h1 h2
    simp only [madeCells, Array.toList_map, Array.toList_range, List.getElem_map, List.getElem_range, List.getElem_replicate]
    have : i % (#[Value.int .i64 0, Value.int .i64 0] : Array Value).size < 2 := Nat.mod_lt _ (by decide)
    generalize i % (#[Value.int .i64 0, Value.int .i64 0] : Array Value).size = r at this
    match r, this with
    | 0, _ => rfl
    | 1, _ => rfl

/-- make([]api.Point, n). -/
theorem make_pts (m : Nat) (hm : m ≤ 1000001) (W : World) : (Instr.makeSlice 22 (.int .i64 (m : Int)) (.int .i64 (m : Int))).run Try.prog W =
    .ok (.slice (some ⟨W.heap.size, 0, none⟩) m m) (W.alloc (.cells (ptsV (ptF m fun _ => (0, 0))).toArray 38)) := by
  obtain ⟨i0, hi0, hz0, hz1, hz2⟩ := info_pparts info_pt
  have h := run_makeSlice (P := Try.prog) W 22 38 i0 _ Try.underlying22 hi0 hz0 .i64 .i64 (m : Int) (m : Int) (by omega) (Int.le_refl _) (by rw [hz1]; omega) (by rw [hz2]; omega) (by omega)
  rw [h, hz1, Int.toNat_natCast]
  rw [show (Value.agg #[Value.int .i64 0, Value.int .i64 0]).cells = #[Value.int .i64 0, Value.int .i64 0] from rfl, made_pts]

def addP (p q : Pt) : Pt := (p.1 + q.1, p.2 + q.2)
def movedL (l : List Pt) (v : Pt) : List Pt := l.map fun p => addP p v
theorem movedL_length (l : List Pt) (v : Pt) : (movedL l v).length = l.length := by simp [movedL]
theorem movedL_F (l : List Pt) (v : Pt) : movedL l v = ptF l.length fun i => addP (gt l i) v := by
  apply List.ext_getElem
  · simp [movedL, ptF]
  · intro i h1 h2
    have : i < l.length := by simpa [movedL] using h1
    simp [movedL, ptF, gt, List.getD, this]

theorem plus_any (ax ay bx by' : Int) (w : World) (h1 : -200000 ≤ ax ∧ ax ≤ 200000) (h2 : -200000 ≤ ay ∧ ay ≤ 200000) (h3 : -200000 ≤ bx ∧ bx ≤ 200000) (h4 : -200000 ≤ by' ∧ by' ≤ 200000) :
    Calls Try.prog 57 #[.agg #[.int .i64 ax, .int .i64 ay], .agg #[.int .i64 bx, .int .i64 by']] w fun e w' =>
      e = .returned (.agg #[.int .i64 (ax + bx), .int .i64 (ay + by')]) ∧ Below w.heap.size w w' := by
  go_enter Try.func57, Try.ntmps57
  go_wp2
  go_returns
  exact ⟨rfl, by go_grown⟩

def MovedTo (l : List Pt) (w : World) (n : Nat) (e : Ending) (w' : World) : Prop :=
  ∃ g : Nat, e = .returned (.slice (some ⟨g, 0, none⟩) n n) ∧ w.heap.size ≤ g ∧ PtBlk w' g l ∧ Below w.heap.size w w'

set_option maxRecDepth 100000 in
set_option maxHeartbeats 2000000 in
theorem moved_any (b off n c : Nat) (l : List Pt) (v : Pt) (w : World) (hl : l.length = n) (hn' : n ≤ 100) (h : PtsIn w b off l) (hb : b < w.heap.size) (hbd : ∀ i, Bd (gt l i)) (hv : Bd v) :
    Calls Try.prog 53 #[.slice (some ⟨b, off, none⟩) n c, .agg #[.int .i64 v.1, .int .i64 v.2]] w (MovedTo (movedL l v) w n) := by
  have HL := Lib.hid hl
  have HP := Lib.hid h
  have HBD := Lib.hid hbd
  have hmk := make_pts n (by omega)
  have HM : Hid (movedL l v = ptF n fun i => addP (gt l i) v) := Lib.hid (by rw [← hl]; exact movedL_F l v)
  obtain ⟨vx, vy⟩ := v
  obtain ⟨hv1, hv2⟩ := hv
  clear hl h hbd
  go_enter Try.func53, Try.ntmps53
  go_upto_region 1 with (fail)
  have B : PtAt (w.alloc (bx vx vy)) w.heap.size vx vy := PtAt.new
  have hb0 : Below w.heap.size w (w.alloc (bx vx vy)) := (Below.refl _ _).alloc (Nat.le_refl _) _
  have hz0 : (w.alloc (bx vx vy)).heap.size = w.heap.size + 1 := by simp
  generalize w.alloc (bx vx vy) = w0 at *
  generalize hgg : w.heap.size = gg at *
  go_wp2_with fail
  have R0 : PtBlk (w0.alloc (.cells (ptsV (ptF n fun _ => (0, 0))).toArray 38)) w0.heap.size (ptF n fun _ => (0, 0)) := heap_alloc_new _ _
  have hb1 : Below w0.heap.size w0 (w0.alloc (.cells (ptsV (ptF n fun _ => (0, 0))).toArray 38)) := (Below.refl _ _).alloc (Nat.le_refl _) _
  have hz1 : (w0.alloc (.cells (ptsV (ptF n fun _ => (0, 0))).toArray 38)).heap.size = gg + 2 := by simp; omega
  generalize w0.alloc (.cells (ptsV (ptF n fun _ => (0, 0))).toArray 38) = w1 at *
  rw [hz0] at R0 hb1
  have hb2 : Below gg w w1 := hb0.trans (hb1.mono (by omega))
  have B1 : PtAt w1 gg vx vy := PtAt.below hb1 (by omega) B
  clear hb0 hb1 B hmk
  go_loopw [13] (fun i wr => ∃ k : Nat, k ≤ n ∧ i = .int .i64 k ∧ PtBlk wr (gg + 1) (ptF n fun u => if u < k then addP (gt l u) (vx, vy) else (0, 0)) ∧ PtAt wr gg vx vy ∧ Below gg w wr ∧ gg + 2 ≤ wr.heap.size) (fun i _ => n - (intOf i).toNat)
  case atStart => exact ⟨0, Nat.zero_le _, rfl, by simpa using R0, B1, hb2, by omega⟩
  case round =>
    clear R0 B1 hb2
    obtain ⟨k, hk, rfl, hR, ⟨p1, p2⟩, hbw, hgr⟩ := hrel
    have HR := Lib.hid hR
    clear hR
    by_cases hlt : k < n
    · obtain ⟨h1, h2⟩ := (HP.out.below hbw hb) k (gt l k) (by unfold gt; rw [List.getD_eq_getElem?_getD, List.getElem?_eq_getElem (by rw [HL.out]; exact hlt)]; rfl)
      have hB : b < wr.heap.size := by omega
      have hg1 : gg < wr.heap.size := by omega
      have hg2 : gg + 1 < wr.heap.size := by omega
      obtain ⟨d1, d2⟩ := HBD.out k
      have HN : Hid (∀ W, PtBlk W (gg + 1) ((ptF n fun u => if u < k then addP (gt l u) (vx, vy) else (0, 0)).set k (addP (gt l k) (vx, vy))) → PtBlk W (gg + 1) (ptF n fun u => if u < k + 1 then addP (gt l u) (vx, vy) else (0, 0))) := Lib.hid fun W hW => by
        rw [ptF_set] at hW
        rw [ptF_congr (g := fun u => if u = k then addP (gt l k) (vx, vy) else if u < k then addP (gt l u) (vx, vy) else (0, 0))]
        · exact hW
        · intro i hi
          by_cases e : i = k
          · subst e; simp
          · rw [if_neg e]
            by_cases e2 : i < k
            · rw [if_pos e2, if_pos (by omega)]
            · rw [if_neg e2, if_neg (by omega)]
      generalize hp : gt l k = p at *
      obtain ⟨x, y⟩ := p
      have PL := fun W => Lib.hid (plus_any x y vx vy W (by simp only at d1; omega) (by simp only at d2; omega) (by omega) (by omega))
      clear hp d1 d2
      go_wp2_with fail
      have hb1 : Below wr.heap.size wr (wr.alloc (bx x y)) := (Below.refl _ _).alloc (Nat.le_refl _) _
      refine ((PL _).out).mono ?_
      rintro e w2 ⟨rfl, hb2⟩
      have hb3 := hb1.trans (hb2.mono hb1.size)
      have hbw3 := hbw.trans (hb3.mono (by omega))
      have R2 := HR.out.below hb3 (by omega)
      obtain ⟨p1, p2⟩ := PtAt.below hb3 (by omega) ⟨p1, p2⟩
      obtain ⟨c1, c2⟩ := R2.cell (i := k) (ptF_get hlt)
      have f1 := R2.frozen (k * 2)
      have f2 := R2.frozen (k * 2 + 1)
      have hsz := hb3.size
      have HR2 := Lib.hid R2
      clear hb1 hb2 R2
      go_wp2_with fail
      go_roundw
      case rel => exact ⟨k + 1, by omega, by go_num, HN.out _ (HR2.out.set k _ _), PtAt.set_far (by simp) (PtAt.set_far (by simp) ⟨p1, p2⟩), (hbw3.setCell (by simp) _).setCell (by simp) _, by simp; omega⟩
      case measure => simp [intOf]; omega
    · obtain rfl : k = n := by omega
      have HF : Hid (PtBlk wr (gg + 1) (movedL l (vx, vy))) := Lib.hid (by
        rw [HM.out]
        have := HR.out
        rw [ptF_congr (g := fun i => addP (gt l i) (vx, vy)) (fun i hi => by rw [if_pos hi])] at this
        exact this)
      go_wp2_with fail
      go_ret
      exact ⟨gg + 1, rfl, by omega, HF.out, by rw [hgg]; exact hbw⟩
end Go.Proofs.Ytlmdmgbhfoehgaa

/- Where is a point? The reference's function, and that package shape's finds the same. -/
namespace Go.Proofs.Ytlmdmgbhfoehgaa
open Go.RowKit Go.Sort
attribute [local go_sem ↓] run_min_mn run_max_mx Go.wp_at_zero Go.wp_at_succ

def upI (py ay by' c : Int) : Int := if by' < ay then -c else c
def rayB (px py ax ay bx by' : Int) : Bool := (decide (py < ay) != decide (py < by')) && decide (0 < upI py ay by' (cross ax ay bx by' px py))
def ray2At (l : List Pt) (p : Pt) (i : Nat) : Bool := rayB p.1 p.2 (gt l i).1 (gt l i).2 (nx l i).1 (nx l i).2
def insTo (l : List Pt) (p : Pt) : Nat → Bool
  | 0 => false
  | k + 1 => if ray2At l p k then !insTo l p k else insTo l p k
def whereR (l : List Pt) (p : Pt) : Int := if (List.range l.length).any (on2At l p) then 0 else if insTo l p l.length then 1 else -1

theorem left_ray {px py ax ay bx by' : Int} (h : onB ax ay bx by' px py = false) : leftB px py ax ay bx by' = rayB px py ax ay bx by' := by
  have key : cross ax ay bx by' px py = 0 → ¬ ((ay ≤ py ∧ py < by') ∨ (by' ≤ py ∧ py < ay)) := by
    intro h0 hb
    have hne : by' - ay ≠ 0 := by omega
    have hc : (by' - ay) * (px - ax) = (py - ay) * (bx - ax) := by unfold cross at h0; grind
    have hbt : btw (py - ay) (by' - ay) := by unfold btw; omega
    have := btw_dim hne hc hbt
    have ho : onB ax ay bx by' px py = true := by
      have k := (on_iff ax ay (bx - ax) (by' - ay) (px - ax) (py - ay)).2 ⟨by unfold al; unfold cross at h0; grind, this, hbt⟩
      rw [show ax + (bx - ax) = bx by omega, show ay + (by' - ay) = by' by omega, show ax + (px - ax) = px by omega, show ay + (py - ay) = py by omega] at k
      exact k
    rw [h] at ho; cases ho
  rw [Bool.eq_iff_iff]
  unfold leftB rayB upI
  generalize cross ax ay bx by' px py = c at *
  simp only [Bool.and_eq_true, bne_iff_ne, ne_eq, decide_eq_true_eq, decide_eq_decide, beq_iff_eq]
  by_cases g1 : py < ay <;> by_cases g2 : py < by'
  · simp [g1, g2]
  · have := key; split <;> (by_cases hc : c = 0) <;> omega
  · have := key; split <;> (by_cases hc : c = 0) <;> omega
  · simp [g1, g2]

theorem where_same (l : List Pt) (p : Pt) : whereD l p = whereR l p := by
  unfold whereD whereR
  by_cases h : (List.range l.length).any (on2At l p) = true
  · rw [if_pos h, if_pos h]
  · rw [if_neg h, if_neg h]
    have hoff : ∀ j, j < l.length → on2At l p j = false := fun j hj => by
      cases e : on2At l p j
      · rfl
      · exact absurd (List.any_eq_true.2 ⟨j, List.mem_range.2 hj, e⟩) h
    have : ∀ k, k ≤ l.length → sideTo l p k = if insTo l p k then 1 else -1 := by
      intro k
      induction k with
      | zero => intro _; rfl
      | succ k ih =>
        intro hk
        have e : left2At l p k = ray2At l p k := left_ray (hoff k (by omega))
        unfold sideTo insTo
        rw [e, ih (by omega)]
        cases ray2At l p k <;> cases insTo l p k <;> rfl
    exact this _ (Nat.le_refl _)

set_option maxRecDepth 100000 in
set_option maxHeartbeats 2000000 in
theorem whereR_any (b off n c : Nat) (l : List Pt) (p : Pt) (w : World) (hl : l.length = n) (hn : 0 < n) (hn' : n ≤ 100) (h : PtsIn w b off l) (hb : b < w.heap.size) (hbd : ∀ i, Bd (gt l i)) (hp : Bd p) :
    Calls Try.prog 68 #[.slice (some ⟨b, off, none⟩) n c, .agg #[.int .i64 p.1, .int .i64 p.2]] w fun e w' =>
      e = .returned (.int .i64 (whereR l p)) ∧ Below w.heap.size w w' := by
  have HL := Lib.hid hl
  have HP := Lib.hid h
  have HBD := Lib.hid hbd
  have HON : Hid (∀ i, on2At l p i = onB (gt l i).1 (gt l i).2 (nx l i).1 (nx l i).2 p.1 p.2) := Lib.hid fun _ => rfl
  have HRY : Hid (∀ i, ray2At l p i = rayB p.1 p.2 (gt l i).1 (gt l i).2 (nx l i).1 (nx l i).2) := Lib.hid fun _ => rfl
  obtain ⟨px, py⟩ := p
  obtain ⟨hp1, hp2⟩ := hp
  clear hl h hbd
  go_enter Try.func68, Try.ntmps68
  go_wp2_with fail
  have B : PtAt (w.alloc (bx px py)) w.heap.size px py := PtAt.new
  have hb0 : Below w.heap.size w (w.alloc (bx px py)) := (Below.refl _ _).alloc (Nat.le_refl _) _
  have hz0 : w.heap.size < (w.alloc (bx px py)).heap.size := by simp
  generalize w.alloc (bx px py) = w0 at *
  generalize hgg : w.heap.size = gg at *
  go_wp2_with fail
  go_loopw [5, 6] (fun s i wr => ∃ k : Nat, k ≤ n ∧ i = .int .i64 k ∧ s = .bool (insTo l (px, py) k) ∧ (∀ j, j < k → on2At l (px, py) j = false) ∧ Below w0.heap.size w0 wr) (fun _ i _ => n - (intOf i).toNat)
  case atStart => exact ⟨0, Nat.zero_le _, rfl, rfl, by omega, Below.refl _ _⟩
  case round =>
    obtain ⟨k, hk, rfl, rfl, hz, hbr⟩ := hrel
    have HZ := Lib.hid hz
    have hb1 : b < w0.heap.size := Nat.lt_of_lt_of_le hb (hgg ▸ hb0.size)
    have hgr : gg < wr.heap.size := Nat.lt_of_lt_of_le hz0 hbr.size
    have HBW : Hid (Below gg w wr) := Lib.hid (hb0.trans (hbr.mono (hgg ▸ hb0.size)))
    have P0 := PtAt.below hbr hz0 B
    have hbb : b < gg := hgg ▸ hb
    clear hz
    by_cases hlt : k < n
    · have HPw : Hid (PtsIn wr b off l) := Lib.hid (HP.out.below HBW.out hbb)
      have hB : b < wr.heap.size := Nat.lt_of_lt_of_le hb1 hbr.size
      have N := fun W hW => Lib.hid (next_any b off n c l k W HL.out (by omega) (by omega) (by omega) (HPw.out.below (B := wr.heap.size) hW hB))
      have d1 := HBD.out k
      have d2 := HBD.out ((k + 1) % l.length)
      rw [← nx_gt] at d2
      have EO := Lib.hid (HON.out k)
      have EL := Lib.hid (HRY.out k)
      have ES : Hid (insTo l (px, py) (k + 1) = if ray2At l (px, py) k then !insTo l (px, py) k else insTo l (px, py) k) := Lib.hid rfl
      obtain ⟨h1, h2⟩ := HPw.out k (gt l k) (by unfold gt; rw [List.getD_eq_getElem?_getD, List.getElem?_eq_getElem (by rw [HL.out]; exact hlt)]; rfl)
      generalize gt l k = p1 at *
      generalize nx l k = p2 at *
      generalize insTo l (px, py) k = sd at *
      obtain ⟨x, y⟩ := p1
      obtain ⟨qx, qy⟩ := p2
      obtain ⟨d3, d4⟩ := d1
      obtain ⟨d5, d6⟩ := d2
      have TO := fun W => Lib.hid (on_any x y qx qy px py W d3 d4 d5 d6 hp1 hp2)
      have TL := fun W => Lib.hid (cross_any x y qx qy px py W d3 d4 d5 d6 hp1 hp2)
      have HRB : Hid (rayB px py x y qx qy = ((decide (py < y) != decide (py < qy)) && decide (0 < upI py y qy (cross x y qx qy px py)))) := Lib.hid rfl
      have cb : -100000000000 ≤ cross x y qx qy px py ∧ cross x y qx qy px py ≤ 100000000000 := by
        have p1 := mul_le_of_abs (a := qx - x) (b := py - y) (K := 120000) (L := 120000) (by simp only at d3 d4 d5 d6 hp1 hp2; omega) (by simp only at d3 d4 d5 d6 hp1 hp2; omega)
        have p2 := mul_le_of_abs (a := px - x) (b := qy - y) (K := 120000) (L := 120000) (by simp only at d3 d4 d5 d6 hp1 hp2; omega) (by simp only at d3 d4 d5 d6 hp1 hp2; omega)
        unfold cross; omega
      clear d3 d4 d5 d6 hp1 hp2
      generalize cross x y qx qy px py = cr at *
      go_wp2_with fail
      go_cut [7, 8] (fun s t wx => TwoPts wr x y qx qy s t wx)
      case first =>
        have lt2 : wr.heap.size < wr.heap.size + 1 + 1 := by omega
        have n1 := World.new_ne wr _ h1
        have n2 := World.new_ne wr _ h2
        go_region_held3 (fun w' => Below wr.heap.size wr w' ∧ w'.cell? ⟨b, off + k * 2, none⟩ = some (.int .i64 x) ∧ w'.cell? ⟨b, off + k * 2 + 1, none⟩ = some (.int .i64 y))
          (((repeat (first | refine keep_drew ?_ | refine keep_alloc ?_ hB _ | refine keep_set ?_ hB _ (by simp) _)); (first | assumption | exact hS | exact ⟨Below.refl _ _, h1, h2⟩)))
          (first | ((go_at_call 44; refine ((N _ ?_).out).mono ?_; (exact And.left (by assumption)); rintro e w' ⟨rfl, hb'⟩; have hS := keep_call (by assumption) hB hb'; obtain ⟨hc', hf'⟩ := old_cells hb'; have hz' := hb'.size; try simp at hz'; try (have hz2 : wr.heap.size < w'.heap.size := by omega))))
        all_goals (go_wp2_with fail; go_meet)
        all_goals
          have hS1 := hS.1
          refine ⟨_, _, rfl, rfl, ?_, ?_, ?_⟩
          · constructor <;> (first | (go_simp; done))
          · constructor <;> (first | (go_simp; done))
          · go_grown
      case rest =>
        obtain ⟨g, h, rfl, rfl, P1, P2, hbc⟩ := hcut
        have hgb : g < wc.heap.size := block_lt_of_cell P1.1
        have hhb : h < wc.heap.size := block_lt_of_cell P2.1
        replace P0 := PtAt.below hbc hgr P0
        have hg0 : gg < wc.heap.size := Nat.lt_of_lt_of_le hgr hbc.size
        obtain ⟨p1, p2⟩ := P0
        obtain ⟨p3, p4⟩ := P1
        obtain ⟨p5, p6⟩ := P2
        clear h1 h2 N
        go_wp2_with fail
        refine ((TO _).out).mono ?_
        rintro e w3 ⟨rfl, hb3⟩
        obtain ⟨p1, p2⟩ := PtAt.below hb3 hg0 ⟨p1, p2⟩
        obtain ⟨p3, p4⟩ := PtAt.below hb3 hgb ⟨p3, p4⟩
        obtain ⟨p5, p6⟩ := PtAt.below hb3 hhb ⟨p5, p6⟩
        have hbr3 := hbc.trans (hb3.mono hbc.size)
        have HBR3 := Lib.hid (hbr.trans (hbr3.mono hbr.size))
        have hg3 : gg < w3.heap.size ∧ g < w3.heap.size ∧ h < w3.heap.size := by have := hb3.size; omega
        clear hb3 TO hg0 hgb hhb
        cases ho : onB x y qx qy px py
        · have HOF : Hid (on2At l (px, py) k = false) := Lib.hid (EO.out.trans ho)
          have HZ1 : Hid (∀ j, j < k + 1 → on2At l (px, py) j = false) := Lib.hid fun j hj => by
            rcases Nat.lt_or_eq_of_le (Nat.le_of_lt_succ hj) with h' | h'
            · exact HZ.out j h'
            · rw [h']; exact HOF.out
          clear hbr3
          have YES : Hid (rayB px py x y qx qy = true → insTo l (px, py) (k + 1) = !sd) := Lib.hid fun hh => by
            rw [ES.out, EL.out]; show (if rayB px py x y qx qy then _ else _) = _; rw [hh]; rfl
          have NO : Hid (rayB px py x y qx qy = false → insTo l (px, py) (k + 1) = sd) := Lib.hid fun hh => by
            rw [ES.out, EL.out]; show (if rayB px py x y qx qy then _ else _) = _; rw [hh]; rfl
          clear ES EL EO HOF
          go_wp2_with fail
          · have hg4 : (!(decide (py < y) == decide (py < qy))) = true := by assumption
            have HG : Hid ((decide (py < y) != decide (py < qy)) = true) := Lib.hid hg4
            clear hg4
            refine ((TL _).out).mono ?_
            rintro e w4 ⟨rfl, hb4⟩
            obtain ⟨p1, p2⟩ := PtAt.below hb4 hg3.1 ⟨p1, p2⟩
            obtain ⟨p3, p4⟩ := PtAt.below hb4 hg3.2.1 ⟨p3, p4⟩
            obtain ⟨p5, p6⟩ := PtAt.below hb4 hg3.2.2 ⟨p5, p6⟩
            have HBR4 := Lib.hid (HBR3.out.trans (hb4.mono HBR3.out.size))
            clear hb4 TL hg3
            obtain ⟨cb1, cb2⟩ := cb
            go_wp2_with fail
            all_goals
              go_roundw
              case rel =>
                refine ⟨k + 1, by omega, by go_num, ?_, HZ1.out, HBR4.out⟩
                first
                  | (have q : rayB px py x y qx qy = true := by
                       rw [HRB.out, HG.out, Bool.true_and, decide_eq_true_eq]; unfold upI; split <;> omega
                     rw [YES.out q])
                  | (have q : rayB px py x y qx qy = false := by
                       rw [HRB.out, HG.out, Bool.true_and, decide_eq_false_iff_not]; unfold upI; split <;> omega
                     rw [NO.out q])
              case measure => simp [intOf]; omega
          · have hg4 : (!(decide (py < y) == decide (py < qy))) = false := by assumption
            have HG : Hid ((decide (py < y) != decide (py < qy)) = false) := Lib.hid hg4
            go_roundw
            case rel => exact ⟨k + 1, by omega, by go_num, by rw [NO.out (by rw [HRB.out, HG.out]; rfl)], HZ1.out, HBR3.out⟩
            case measure => simp [intOf]; omega
        · have HOT : Hid (whereR l (px, py) = 0) := Lib.hid (by
            unfold whereR
            rw [if_pos (List.any_eq_true.2 ⟨k, List.mem_range.2 (by rw [HL.out]; exact hlt), EO.out.trans ho⟩)])
          go_wp2_with fail
          go_ret
          exact ⟨ret_int HOT.out.symm, by rw [hgg]; exact HBW.out.trans (hbr3.mono (hgg ▸ HBW.out.size))⟩
    · obtain rfl : k = n := by omega
      have HF : Hid (whereR l (px, py) = if insTo l (px, py) k then 1 else -1) := Lib.hid (by
        unfold whereR
        rw [if_neg, HL.out]
        rw [List.any_eq_true]
        rintro ⟨j, hj, e⟩
        rw [HZ.out j (by have := List.mem_range.1 hj; rwa [HL.out] at this)] at e
        cases e)
      cases hi : insTo l (px, py) k
      · have HF2 := Lib.hid HF.out
        go_wp2_with fail
        go_ret
        exact ⟨ret_int (by rw [HF.out, hi]; rfl), by rw [hgg]; exact HBW.out⟩
      · go_wp2_with fail
        go_ret
        exact ⟨ret_int (by rw [HF.out, hi]; rfl), by rw [hgg]; exact HBW.out⟩
end Go.Proofs.Ytlmdmgbhfoehgaa

/- Package shape's Where, and the law's own 'simple'. -/
namespace Go.Proofs.Ytlmdmgbhfoehgaa
open Go.RowKit Go.Sort
attribute [local go_sem ↓] run_min_mn run_max_mx

def simpE (l : List Pt) : Int := if polyB l then (if simpleB l then 0 else 2) else 1

theorem checkSimple_any (A : Option Addr) (n c : Nat) (l : List Pt) (w : World) (hn : l.length = n) (hbig : n ≤ 1000000) (hx : PtsAt w A l) :
    Calls Try.prog 34 #[.slice A n c] w fun e w' => e = .returned (.int .i64 (simpE l)) ∧ Below w.heap.size w w' := by
  have K := Lib.hid (isPolygon_any A n c l w hn hbig hx)
  cases hp : polyB l
  · have e1 : simpE l = 1 := by unfold simpE; rw [hp]; rfl
    rw [e1]
    rw [hp] at K
    clear hn hx
    go_enter Try.func34, Try.ntmps34
    go_wp2_with fail
    refine (K.out).mono ?_
    rintro e w' ⟨rfl, hb⟩
    go_wp2
    go_ret
    exact ⟨rfl, hb⟩
  · have e1 : simpE l = if simpleB l then 0 else 2 := by unfold simpE; rw [hp]; rfl
    have E1 := Lib.hid e1
    rw [hp] at K
    obtain ⟨b, off, rfl, h1, h2, h3, h4, h5⟩ := hx.poly hn hp
    have S := fun W hW => Lib.hid (isSimple_any b off n c l W hn (by omega) (by omega) (h4.below (B := w.heap.size) hW h3) (Nat.lt_of_lt_of_le h3 hW.size) h5)
    rw [simple_same] at S
    clear hn hx h4 h5 e1
    generalize simpE l = r at *
    cases hs : simpleB l
    all_goals
      have E2 := Lib.hid (E1.out.trans (by rw [hs]))
      rw [hs] at S
      go_enter Try.func34, Try.ntmps34
      go_wp2_with fail
      refine (K.out).mono ?_
      rintro e w1 ⟨rfl, hb⟩
      go_wp2_with fail
      refine ((S _ hb).out).mono ?_
      rintro e w2 ⟨rfl, hb2⟩
      go_wp2
      go_ret
      exact ⟨ret_int E2.out.symm, hb.trans (hb2.mono hb.size)⟩

theorem lawSimple_any (A : Option Addr) (n c : Nat) (l : List Pt) (w : World) (hn : l.length = n) (hbig : n ≤ 1000000) (hx : PtsAt w A l) :
    Calls Try.prog 17 #[.slice A n c] w fun e w' => e = .returned (.int .i64 (simpE l)) ∧ Below w.heap.size w w' := by
  have K := Lib.hid (polygonX_any A n c l w hn hbig hx)
  cases hp : polyB l
  · have e1 : simpE l = 1 := by unfold simpE; rw [hp]; rfl
    rw [e1]
    rw [hp] at K
    clear hn hx
    go_enter Try.func17, Try.ntmps17
    go_wp2_with fail
    refine (K.out).mono ?_
    rintro e w' ⟨rfl, hb⟩
    go_wp2
    go_ret
    exact ⟨rfl, hb⟩
  · have e1 : simpE l = if simpleB l then 0 else 2 := by unfold simpE; rw [hp]; rfl
    have E1 := Lib.hid e1
    rw [hp] at K
    obtain ⟨b, off, rfl, h1, h2, h3, h4, h5⟩ := hx.poly hn hp
    have S := fun W hW => Lib.hid (simple_any b off n c l W hn (by omega) (by omega) (h4.below (B := w.heap.size) hW h3) (Nat.lt_of_lt_of_le h3 hW.size) h5)
    clear hn hx h4 h5 e1
    generalize simpE l = r at *
    cases hs : simpleB l
    all_goals
      have E2 := Lib.hid (E1.out.trans (by rw [hs]))
      rw [hs] at S
      go_enter Try.func17, Try.ntmps17
      go_wp2_with fail
      refine (K.out).mono ?_
      rintro e w1 ⟨rfl, hb⟩
      go_wp2_with fail
      refine ((S _ hb).out).mono ?_
      rintro e w2 ⟨rfl, hb2⟩
      go_wp2
      go_ret
      exact ⟨ret_int E2.out.symm, hb.trans (hb2.mono hb.size)⟩

theorem simpE_cases (l : List Pt) : (simpE l = 1 ∧ polyB l = false) ∨ (simpE l = 2 ∧ polyB l = true ∧ simpleB l = false) ∨ (simpE l = 0 ∧ polyB l = true ∧ simpleB l = true) := by
  unfold simpE
  cases polyB l <;> cases simpleB l <;> simp

theorem simpE_zero {l : List Pt} (h0 : simpE l = 0) : polyB l = true ∧ simpleB l = true := by
  rcases simpE_cases l with h | h | h
  · rw [h.1] at h0; cases h0
  · rw [h.1] at h0; cases h0
  · exact h.2

def whereX (l : List Pt) (p : Pt) : Int := if simpE l = 0 ∧ validB p.1 p.2 10000 = true then whereR l p else 0
def whereE (l : List Pt) (p : Pt) : Int := if simpE l = 0 then (if validB p.1 p.2 10000 then 0 else 1) else simpE l

theorem valid_Bd {p : Pt} (h : validB p.1 p.2 10000 = true) : Bd p := Bd.of_ok (p := p) h

set_option maxHeartbeats 1000000 in
theorem whereX_any (A : Option Addr) (n c : Nat) (l : List Pt) (p : Pt) (w : World) (hn : l.length = n) (hbig : n ≤ 1000000) (hx : PtsAt w A l) :
    Calls Try.prog 26 #[.slice A n c, .agg #[.int .i64 p.1, .int .i64 p.2]] w fun e w' => e = .returned (.tuple #[.int .i64 (whereX l p), .int .i64 (whereE l p)]) ∧ Below w.heap.size w w' := by
  have hb0 : Below w.heap.size w (w.alloc (bx p.1 p.2)) := (Below.refl _ _).alloc (Nat.le_refl _) _
  have K := fun W hW => Lib.hid (checkSimple_any A n c l W hn hbig (hx.below (w' := W) hW))
  have V := fun W => Lib.hid (isNear_any p.1 p.2 10000 (by omega) W)
  have hW0 : w.heap.size < (w.alloc (bx p.1 p.2)).heap.size := by simp
  have P0 : PtAt (w.alloc (bx p.1 p.2)) w.heap.size p.1 p.2 := PtAt.new
  by_cases h0 : simpE l = 0
  · obtain ⟨hp, hs⟩ : polyB l = true ∧ simpleB l = true := simpE_zero h0
    obtain ⟨b, off, rfl, h1, h2, h3, h4, h5⟩ := hx.poly hn hp
    cases hv : validB p.1 p.2 10000
    · have e1 : whereX l p = 0 := by unfold whereX; rw [if_neg (by rw [hv]; simp)]
      have e2 : whereE l p = 1 := by unfold whereE; rw [if_pos h0, hv]; rfl
      rw [e1, e2]
      rw [h0] at K
      rw [hv] at V
      clear hn hx h4 h5 e1 e2 h0 hp hs hv
      go_enter Try.func26, Try.ntmps26
      go_upto_region 1 with (fail)
      generalize w.alloc (bx p.1 p.2) = w0 at *
      obtain ⟨p1, p2⟩ := P0
      go_wp2_with fail
      refine ((K _ hb0).out).mono ?_
      rintro e w1 ⟨rfl, hb1⟩
      obtain ⟨p1, p2⟩ := PtAt.below hb1 hW0 ⟨p1, p2⟩
      have hbw1 := hb0.trans (hb1.mono hb0.size)
      clear hb1
      go_wp2_with fail
      refine ((V _).out).mono ?_
      rintro e w2 ⟨rfl, hb2⟩
      have hbw2 := hbw1.trans (hb2.mono hbw1.size)
      go_wp2
      go_ret2
      exact ⟨rfl, hbw2⟩
    · have e1 : whereX l p = whereD l p := by unfold whereX; rw [if_pos ⟨h0, hv⟩, where_same]
      have e2 : whereE l p = 0 := by unfold whereE; rw [if_pos h0, hv]; rfl
      rw [e1, e2]
      rw [h0] at K
      rw [hv] at V
      have S := fun W hW => Lib.hid (where_any b off n c l p W hn (by omega) (by omega) (h4.below (B := w.heap.size) hW h3) (Nat.lt_of_lt_of_le h3 hW.size) (Bd.all h5) (valid_Bd hv))
      clear hn hx h4 h5 e1 e2 h0 hp hs hv
      generalize whereD l p = r at *
      go_enter Try.func26, Try.ntmps26
      go_upto_region 1 with (fail)
      generalize w.alloc (bx p.1 p.2) = w0 at *
      obtain ⟨p1, p2⟩ := P0
      go_wp2_with fail
      refine ((K _ hb0).out).mono ?_
      rintro e w1 ⟨rfl, hb1⟩
      obtain ⟨p1, p2⟩ := PtAt.below hb1 hW0 ⟨p1, p2⟩
      have hbw1 := hb0.trans (hb1.mono hb0.size)
      have hW1 : w.heap.size < w1.heap.size := Nat.lt_of_lt_of_le hW0 hb1.size
      clear hb1
      go_wp2_with fail
      refine ((V _).out).mono ?_
      rintro e w2 ⟨rfl, hb2⟩
      obtain ⟨p1, p2⟩ := PtAt.below hb2 hW1 ⟨p1, p2⟩
      have hbw2 := hbw1.trans (hb2.mono hbw1.size)
      clear hb2
      go_wp2_with fail
      refine ((S _ hbw2).out).mono ?_
      rintro e w3 ⟨rfl, hb3⟩
      have hbw3 := hbw2.trans (hb3.mono hbw2.size)
      go_wp2
      go_ret2
      exact ⟨rfl, hbw3⟩
  · have e1 : whereX l p = 0 := by unfold whereX; rw [if_neg (by rintro ⟨h, _⟩; exact h0 h)]
    have e2 : whereE l p = simpE l := by unfold whereE; rw [if_neg h0]
    rw [e1, e2]
    clear hn hx e1 e2 V
    generalize simpE l = r at *
    go_enter Try.func26, Try.ntmps26
    go_upto_region 1 with (fail)
    generalize w.alloc (bx p.1 p.2) = w0 at *
    go_wp2_with fail
    refine ((K _ hb0).out).mono ?_
    rintro e w1 ⟨rfl, hb1⟩
    have hbw1 := hb0.trans (hb1.mono hb0.size)
    clear hb1
    go_wp2
    go_ret2
    exact ⟨rfl, hbw1⟩
end Go.Proofs.Ytlmdmgbhfoehgaa

/- Package shape's areApart: is one polygon beyond an edge of the other? And the reference's parts. -/
namespace Go.Proofs.Ytlmdmgbhfoehgaa
open Go.RowKit Go.Sort
attribute [local go_sem ↓] run_min_mn run_max_mx Go.wp_at_zero Go.wp_at_succ

theorem leftOf_any (x y : Int) (ga gb : Nat) (ax ay bx by' : Int) (w : World) (pa : PtAt w ga ax ay) (pb : PtAt w gb bx by') (hga : ga < w.heap.size) (hgb : gb < w.heap.size)
    (h1 : -60000 ≤ ax ∧ ax ≤ 60000) (h2 : -60000 ≤ ay ∧ ay ≤ 60000) (h3 : -60000 ≤ bx ∧ bx ≤ 60000) (h4 : -60000 ≤ by' ∧ by' ≤ 60000) (h5 : -60000 ≤ x ∧ x ≤ 60000) (h6 : -60000 ≤ y ∧ y ≤ 60000) :
    Calls Try.prog 88 #[.agg #[.int .i64 x, .int .i64 y], .pointer (some ⟨ga, 0, none⟩), .pointer (some ⟨gb, 0, none⟩)] w fun e w' =>
      e = .returned (.bool (decide (0 < cross ax ay bx by' x y))) ∧ Below w.heap.size w w' := by
  have C := fun W => Lib.hid (turn_any ax ay bx by' x y W h1 h2 h3 h4 h5 h6)
  clear h1 h2 h3 h4 h5 h6
  generalize cross ax ay bx by' x y = r at *
  go_enter Try.func88, Try.ntmps88
  go_upto_region 1 with (fail)
  have B : PtAt (w.alloc (Go.Proofs.Ytlmdmgbhfoehgaa.bx x y)) w.heap.size x y := PtAt.new
  have hb0 : Below w.heap.size w (w.alloc (Go.Proofs.Ytlmdmgbhfoehgaa.bx x y)) := (Below.refl _ _).alloc (Nat.le_refl _) _
  obtain ⟨a1, a2⟩ := PtAt.below hb0 hga pa
  obtain ⟨b1, b2⟩ := PtAt.below hb0 hgb pb
  clear pa pb
  generalize w.alloc (Go.Proofs.Ytlmdmgbhfoehgaa.bx x y) = w0 at *
  obtain ⟨c1, c2⟩ := B
  go_wp2_with fail
  refine ((C _).out).mono ?_
  rintro e w1 ⟨rfl, hb1⟩
  go_wp2
  go_ret
  exact ⟨rfl, hb0.trans (hb1.mono hb0.size)⟩

def leftQ (p q x : Pt) : Bool := decide (0 < crossP p q x)
def anyLeft (p q : Pt) (l : List Pt) : Bool := l.any (leftQ p q)
def FoundLeft (p q : Pt) (l : List Pt) (w : World) (e : Ending) (w' : World) : Prop := ∃ i : Int, e = .returned (.int .i64 i) ∧ decide (0 ≤ i) = anyLeft p q l ∧ Below w.heap.size w w'

set_option maxHeartbeats 800000 in
theorem indexLeft_any (A : Option Addr) (n c : Nat) (l : List Pt) (p q : Pt) (ga gb : Nat) (w : World) (hn : l.length = n) (hbig : n ≤ 1000000) (hx : PtsAt w A l) (hbd : ∀ x ∈ l, Bd x) (hp : Bd p) (hq : Bd q)
    (pa : PtAt w ga p.1 p.2) (pb : PtAt w gb q.1 q.2) (hga : ga < w.heap.size) (hgb : gb < w.heap.size) :
    Calls Try.prog 94 #[.slice A n c, .func (.func 88) #[] #[.pointer (some ⟨ga, 0, none⟩), .pointer (some ⟨gb, 0, none⟩)]] w (FoundLeft p q l w) := by
  have HN := Lib.hid hn
  have HX := Lib.hid hx
  have HBD := Lib.hid hbd
  have HPA := Lib.hid pa
  have HPB := Lib.hid pb
  clear hn hx hbd pa pb
  go_enter Try.func94, Try.ntmps94
  go_wp2
  go_loopw [8] (fun i wr => ∃ k : Nat, k ≤ n ∧ i = .int .i64 k ∧ anyLeft p q (l.take k) = false ∧ Below w.heap.size w wr) (fun i _ => n - (intOf i).toNat)
  case atStart => exact ⟨0, Nat.zero_le _, rfl, rfl, Below.refl _ _⟩
  case round =>
    obtain ⟨k, hk, rfl, hz, hbw⟩ := hrel
    have HZ := Lib.hid hz
    clear hz
    by_cases hlt : k < n
    · have hl : k < l.length := by have := HN.out; omega
      obtain ⟨b, off, rfl, hbl, hpts⟩ := HX.out (by intro e; subst e; simp at hl)
      obtain ⟨h1, h2⟩ := (hpts.below hbw hbl) k _ (List.getElem?_eq_getElem hl)
      have hs : anyLeft p q (l.take (k + 1)) = leftQ p q l[k] := by
        rw [List.take_succ_eq_append_getElem hl]
        unfold anyLeft at *
        rw [List.any_append, HZ.out]; simp
      have hall : leftQ p q l[k] = true → anyLeft p q l = true := fun h => by
        unfold anyLeft
        exact List.any_eq_true.2 ⟨_, List.getElem_mem hl, h⟩
      have HS := Lib.hid hs
      have HA := Lib.hid hall
      have hbx := HBD.out _ (List.getElem_mem hl)
      clear hs hall hpts
      generalize l[k] = x at *
      have hr : leftQ p q x = decide (0 < cross p.1 p.2 q.1 q.2 x.1 x.2) := rfl
      have F := fun W (hW : Below w.heap.size w W) => Lib.hid (leftOf_any x.1 x.2 ga gb p.1 p.2 q.1 q.2 W (PtAt.below hW hga HPA.out) (PtAt.below hW hgb HPB.out) (Nat.lt_of_lt_of_le hga hW.size) (Nat.lt_of_lt_of_le hgb hW.size) hp.1 hp.2 hq.1 hq.2 hbx.1 hbx.2)
      rw [← hr] at F
      clear hr hbx
      generalize leftQ p q x = r at *
      go_wp2_with fail
      refine ((F _ hbw).out).mono ?_
      rintro e w1 ⟨rfl, hb1⟩
      have hbw1 := hbw.trans (hb1.mono hbw.size)
      clear hb1 h1 h2
      cases r
      · go_wp2_with fail
        go_roundw
        case rel => exact ⟨k + 1, by omega, by go_num, HS.out, hbw1⟩
        case measure => simp [intOf]; omega
      · go_wp2_with fail
        go_ret
        exact ⟨_, rfl, by rw [HA.out trivial]; simp, hbw1⟩
    · have hfull : anyLeft p q l = false := by
        have := HZ.out
        rw [List.take_of_length_le (by have := HN.out; omega)] at this
        exact this
      have HF := Lib.hid hfull
      clear hfull
      go_wp2
      go_ret
      exact ⟨_, rfl, by rw [HF.out]; rfl, hbw⟩

theorem containsLeft_any (A : Option Addr) (n c : Nat) (l : List Pt) (p q : Pt) (ga gb : Nat) (w : World) (hn : l.length = n) (hbig : n ≤ 1000000) (hx : PtsAt w A l) (hbd : ∀ x ∈ l, Bd x) (hp : Bd p) (hq : Bd q)
    (pa : PtAt w ga p.1 p.2) (pb : PtAt w gb q.1 q.2) (hga : ga < w.heap.size) (hgb : gb < w.heap.size) :
    Calls Try.prog 84 #[.slice A n c, .func (.func 88) #[] #[.pointer (some ⟨ga, 0, none⟩), .pointer (some ⟨gb, 0, none⟩)]] w fun e w' => e = .returned (.bool (anyLeft p q l)) ∧ Below w.heap.size w w' := by
  have K := Lib.hid (indexLeft_any A n c l p q ga gb w hn hbig hx hbd hp hq pa pb hga hgb)
  clear hn hx hbd pa pb
  go_enter Try.func84, Try.ntmps84
  go_wp2_with fail
  refine (K.out).mono ?_
  rintro e w' ⟨i, rfl, hi, hb⟩
  have HI := Lib.hid hi
  clear hi
  go_wp2
  go_ret
  exact ⟨ret_bool HI.out, hb⟩

def beyondAt (a b : List Pt) (i : Nat) : Bool := !anyLeft (gt a i) (nx a i) b
def beyondB (a b : List Pt) : Bool := (List.range a.length).any (beyondAt a b)
def apartB (a b : List Pt) : Bool := beyondB a b || beyondB b a

set_option maxRecDepth 100000 in
set_option maxHeartbeats 1000000 in
theorem hasBeyond_any (b off n c : Nat) (A : Option Addr) (m d : Nat) (l r : List Pt) (w : World) (hl : l.length = n) (hn : 0 < n) (hn' : n ≤ 100) (h : PtsIn w b off l) (hb : b < w.heap.size) (hbd : ∀ i, Bd (gt l i))
    (hm : r.length = m) (hbig : m ≤ 1000000) (hx : PtsAt w A r) (hrd : ∀ x ∈ r, Bd x) :
    Calls Try.prog 74 #[.slice (some ⟨b, off, none⟩) n c, .slice A m d] w fun e w' => e = .returned (.bool (beyondB l r)) ∧ Below w.heap.size w w' := by
  have HL := Lib.hid hl
  have HP := Lib.hid h
  have HBD := Lib.hid hbd
  have HM := Lib.hid hm
  have HX := Lib.hid hx
  have HRD := Lib.hid hrd
  clear hl h hbd hm hx hrd
  go_enter Try.func74, Try.ntmps74
  go_wp2
  go_loopw [11] (fun i wr => ∃ k : Nat, k ≤ n ∧ i = .int .i64 k ∧ (∀ j, j < k → beyondAt l r j = false) ∧ Below w.heap.size w wr) (fun i _ => n - (intOf i).toNat)
  case atStart => exact ⟨0, Nat.zero_le _, rfl, by omega, Below.refl _ _⟩
  case round =>
    obtain ⟨k, hk, rfl, hz, hbw⟩ := hrel
    have HZ := Lib.hid hz
    clear hz
    by_cases hlt : k < n
    · have HPw : Hid (PtsIn wr b off l) := Lib.hid (HP.out.below hbw hb)
      have hB : b < wr.heap.size := Nat.lt_of_lt_of_le hb hbw.size
      have N := fun W hW => Lib.hid (edge_any b off n c l k W HL.out (by omega) (by omega) (by omega) (HPw.out.below (B := wr.heap.size) hW hB))
      rw [Nat.mod_eq_of_lt hlt] at N
      have d1 := HBD.out k
      have d2 := HBD.out ((k + 1) % l.length)
      rw [← nx_gt] at d2
      have EB : Hid (beyondAt l r k = !anyLeft (gt l k) (nx l k) r) := Lib.hid rfl
      generalize gt l k = p1 at *
      generalize nx l k = p2 at *
      obtain ⟨x, y⟩ := p1
      obtain ⟨qx, qy⟩ := p2
      have CL := fun ga gb W (hW : Below w.heap.size w W) (pa : PtAt W ga x y) (pb : PtAt W gb qx qy) (hga : ga < W.heap.size) (hgb : gb < W.heap.size) =>
        Lib.hid (containsLeft_any A m d r (x, y) (qx, qy) ga gb W HM.out hbig (HX.out.below hW) HRD.out d1 d2 pa pb hga hgb)
      clear d1 d2
      generalize anyLeft (x, y) (qx, qy) r = t at *
      go_wp2_with fail
      refine ((N _ (Below.refl _ _)).out).mono ?_
      rintro e w1 ⟨rfl, hb1⟩
      have B2 := boxed2 w1 x y qx qy
      go_upto_region 5 with (fail)
      generalize (w1.alloc (Go.Proofs.Ytlmdmgbhfoehgaa.bx x y)).alloc (Go.Proofs.Ytlmdmgbhfoehgaa.bx qx qy) = w2 at *
      obtain ⟨P1, P2, hb2, hz2⟩ := B2
      have hbr2 := hb1.trans (hb2.mono hb1.size)
      have hbw2 := hbw.trans (hbr2.mono hbw.size)
      generalize w1.heap.size = g at *
      have hg2 : g + 1 < w2.heap.size := by omega
      clear hb2 hz2 N hb1
      have CL1 := CL g (g + 1) w2 hbw2 P1 P2 (by omega) hg2
      clear CL
      go_wp2_with fail
      refine (CL1.out).mono ?_
      rintro e w3 ⟨rfl, hb3⟩
      have hbw3 := hbw2.trans (hb3.mono hbw2.size)
      clear hb3 CL1
      cases t
      · have HF : Hid (beyondB l r = true) := Lib.hid (List.any_eq_true.2 ⟨k, List.mem_range.2 (by rw [HL.out]; exact hlt), EB.out⟩)
        go_wp2_with fail
        go_ret
        exact ⟨ret_bool HF.out.symm, hbw3⟩
      · have HZ1 : Hid (∀ j, j < k + 1 → beyondAt l r j = false) := Lib.hid fun j hj => by
          rcases Nat.lt_or_eq_of_le (Nat.le_of_lt_succ hj) with h' | h'
          · exact HZ.out j h'
          · rw [h', EB.out]; rfl
        go_wp2_with fail
        go_roundw
        case rel => exact ⟨k + 1, by omega, by go_num, HZ1.out, hbw3⟩
        case measure => simp [intOf]; omega
    · obtain rfl : k = n := by omega
      have HF : Hid (beyondB l r = false) := Lib.hid (by
        unfold beyondB
        rw [List.any_eq_false]
        intro j hj
        rw [HZ.out j (by have := List.mem_range.1 hj; rwa [HL.out] at this)]
        simp)
      go_wp2_with fail
      go_ret
      exact ⟨ret_bool HF.out.symm, hbw⟩

theorem areApart_any (b off n c b' off' m d : Nat) (l r : List Pt) (w : World) (hl : l.length = n) (hn : 0 < n) (hn' : n ≤ 100) (h : PtsIn w b off l) (hb : b < w.heap.size) (hbd : ∀ x ∈ l, Bd x)
    (hm : r.length = m) (hm0 : 0 < m) (hm' : m ≤ 100) (h' : PtsIn w b' off' r) (hb' : b' < w.heap.size) (hrd : ∀ x ∈ r, Bd x) :
    Calls Try.prog 52 #[.slice (some ⟨b, off, none⟩) n c, .slice (some ⟨b', off', none⟩) m d] w fun e w' => e = .returned (.bool (apartB l r)) ∧ Below w.heap.size w w' := by
  have gt_bd : ∀ (l : List Pt), (∀ x ∈ l, Bd x) → ∀ i, Bd (gt l i) := fun l hl i => by
    unfold gt
    rw [List.getD_eq_getElem?_getD]
    cases e : l[i]? with
    | none => exact ⟨by decide, by decide⟩
    | some x => exact hl x (List.mem_of_getElem? e)
  have K1 := fun W (hW : Below w.heap.size w W) => Lib.hid (hasBeyond_any b off n c (some ⟨b', off', none⟩) m d l r W hl hn hn' (h.below hW hb) (Nat.lt_of_lt_of_le hb hW.size) (gt_bd l hbd) hm (by omega)
    (fun _ => ⟨b', off', rfl, Nat.lt_of_lt_of_le hb' hW.size, h'.below hW hb'⟩) hrd)
  have K2 := fun W (hW : Below w.heap.size w W) => Lib.hid (hasBeyond_any b' off' m d (some ⟨b, off, none⟩) n c r l W hm hm0 hm' (h'.below hW hb') (Nat.lt_of_lt_of_le hb' hW.size) (gt_bd r hrd) hl (by omega)
    (fun _ => ⟨b, off, rfl, Nat.lt_of_lt_of_le hb hW.size, h.below hW hb⟩) hbd)
  have E : Hid (apartB l r = (beyondB l r || beyondB r l)) := Lib.hid rfl
  clear hl h hbd hm h' hrd gt_bd
  generalize apartB l r = t at *
  generalize beyondB l r = t1 at *
  generalize beyondB r l = t2 at *
  cases t1
  · go_enter Try.func52, Try.ntmps52
    go_wp2_with fail
    refine ((K1 _ (Below.refl _ _)).out).mono ?_
    rintro e w1 ⟨rfl, hb1⟩
    go_wp2_with fail
    refine ((K2 _ hb1).out).mono ?_
    rintro e w2 ⟨rfl, hb2⟩
    have hb3 := hb1.trans (hb2.mono hb1.size)
    go_wp2
    go_ret
    exact ⟨ret_bool (by rw [E.out]; rfl), hb3⟩
  · go_enter Try.func52, Try.ntmps52
    go_wp2_with fail
    refine ((K1 _ (Below.refl _ _)).out).mono ?_
    rintro e w1 ⟨rfl, hb1⟩
    go_wp2
    go_ret
    exact ⟨ret_bool (by rw [E.out]; rfl), hb1⟩
end Go.Proofs.Ytlmdmgbhfoehgaa

/- Package shape's checkConvex and Apart; the law's own 'convex'; the reference's Moved and Apart. -/
namespace Go.Proofs.Ytlmdmgbhfoehgaa
open Go.RowKit Go.Sort
attribute [local go_sem ↓] run_min_mn run_max_mx Go.wp_at_zero Go.wp_at_succ

def conE (l : List Pt) : Int := if polyB l then (if convexB l then 0 else 2) else 1
theorem conE_cases (l : List Pt) : (conE l = 1 ∧ polyB l = false) ∨ (conE l = 2 ∧ polyB l = true ∧ convexB l = false) ∨ (conE l = 0 ∧ polyB l = true ∧ convexB l = true) := by
  unfold conE
  cases polyB l <;> cases convexB l <;> simp
theorem conE_zero {l : List Pt} (h0 : conE l = 0) : polyB l = true ∧ convexB l = true := by
  rcases conE_cases l with h | h | h
  · rw [h.1] at h0; cases h0
  · rw [h.1] at h0; cases h0
  · exact h.2
theorem conE_rng (l : List Pt) : 0 ≤ conE l ∧ conE l ≤ 2 := by
  rcases conE_cases l with h | h | h <;> omega

def convsE : List (List Pt) → Int
  | [] => 0
  | l :: L => if conE l = 0 then convsE L else conE l
theorem convsE_skip {L : List (List Pt)} {k : Nat} (hk : k < L.length) (h : conE L[k] = 0) : convsE (L.drop (k + 1)) = convsE (L.drop k) := by
  rw [List.drop_eq_getElem_cons hk]
  show _ = if conE L[k] = 0 then convsE (L.drop (k + 1)) else conE L[k]
  rw [if_pos h]
theorem convsE_here {L : List (List Pt)} {k : Nat} (hk : k < L.length) (h : conE L[k] ≠ 0) : convsE (L.drop k) = conE L[k] := by
  rw [List.drop_eq_getElem_cons hk]
  show (if conE L[k] = 0 then convsE (L.drop (k + 1)) else conE L[k]) = _
  rw [if_neg h]

/-- A row of slices of points. -/
def PolysIn (w : World) (b off : Nat) (L : List (List Pt)) : Prop :=
  ∀ i l, L[i]? = some l → ∃ A n c, w.cell? ⟨b, off + i, none⟩ = some (.slice A n c) ∧ l.length = n ∧ n ≤ 1000000 ∧ PtsAt w A l
theorem PolysIn.below {w w' : World} {b off : Nat} {L : List (List Pt)} (h : PolysIn w b off L) (hb : Below w.heap.size w w') (hB : b < w.heap.size) : PolysIn w' b off L := fun i l hi => by
  obtain ⟨A, n, c, h1, h2, h3, h4⟩ := h i l hi
  exact ⟨A, n, c, (hb.cell (p := ⟨b, _, none⟩) hB).trans h1, h2, h3, h4.below hb⟩

set_option maxRecDepth 100000 in
set_option maxHeartbeats 1000000 in
theorem checkConvex_any (b off n c : Nat) (L : List (List Pt)) (w : World) (hl : L.length = n) (hn' : n ≤ 1000) (h : PolysIn w b off L) (hb : b < w.heap.size) :
    Calls Try.prog 27 #[.slice (some ⟨b, off, none⟩) n c] w fun e w' => e = .returned (.int .i64 (convsE L)) ∧ Below w.heap.size w w' := by
  have HL := Lib.hid hl
  have HP := Lib.hid h
  clear hl h
  go_enter Try.func27, Try.ntmps27
  go_wp2
  go_loopw [7] (fun i wr => ∃ k : Nat, k ≤ n ∧ i = .int .i64 k ∧ convsE (L.drop k) = convsE L ∧ Below w.heap.size w wr) (fun i _ => n - (intOf i).toNat)
  case atStart => exact ⟨0, Nat.zero_le _, rfl, rfl, Below.refl _ _⟩
  case round =>
    obtain ⟨k, hk, rfl, hz, hbw⟩ := hrel
    have HZ := Lib.hid hz
    clear hz
    by_cases hlt : k < n
    · have hkl : k < L.length := by rw [HL.out]; exact hlt
      obtain ⟨A, m, d, h1, h2, h3, h4⟩ := (HP.out.below hbw hb) k L[k] (List.getElem?_eq_getElem hkl)
      have hB : b < wr.heap.size := Nat.lt_of_lt_of_le hb hbw.size
      have KP := fun W hW => Lib.hid (isPolygon_any A m d L[k] W h2 h3 (h4.below (w' := W) hW))
      have HE1 : Hid (conE L[k] = 0 → convsE (L.drop (k + 1)) = convsE L) := Lib.hid fun h => (convsE_skip hkl h).trans HZ.out
      have HE2 : Hid (conE L[k] ≠ 0 → convsE L = conE L[k]) := Lib.hid fun h => HZ.out.symm.trans (convsE_here hkl h)
      generalize L[k] = l at *
      cases hp : polyB l
      · have HE : Hid (convsE L = 1) := Lib.hid (by
          have e : conE l = 1 := by unfold conE; rw [hp]; rfl
          rw [HE2.out (by rw [e]; decide), e])
        rw [hp] at KP
        clear h2 h4
        go_wp2_with fail
        refine ((KP _ (Below.refl _ _)).out).mono ?_
        rintro e w1 ⟨rfl, hb1⟩
        have hbw1 := hbw.trans (hb1.mono hbw.size)
        go_wp2_with fail
        go_ret
        exact ⟨ret_int HE.out.symm, hbw1⟩
      · rw [hp] at KP
        obtain ⟨b2, off2, rfl, g1, g2, g3, g4, g5⟩ := h4.poly h2 hp
        have KC := fun W hW => Lib.hid (isConvex_any b2 off2 m d l W h2 (by omega) (by omega) (g4.below (B := wr.heap.size) hW g3) (Nat.lt_of_lt_of_le g3 hW.size) g5)
        rw [convex_same] at KC
        clear h2 h4 g4 g5
        cases hc : convexB l
        · have HE : Hid (convsE L = 2) := Lib.hid (by
            have e : conE l = 2 := by unfold conE; rw [hp, hc]; rfl
            rw [HE2.out (by rw [e]; decide), e])
          rw [hc] at KC
          go_wp2_with fail
          refine ((KP _ (Below.refl _ _)).out).mono ?_
          rintro e w1 ⟨rfl, hb1⟩
          go_wp2_with fail
          refine ((KC _ hb1).out).mono ?_
          rintro e w2 ⟨rfl, hb2⟩
          have hbw2 := hbw.trans ((hb1.trans (hb2.mono hb1.size)).mono hbw.size)
          go_wp2_with fail
          go_ret
          exact ⟨ret_int HE.out.symm, hbw2⟩
        · have HE := Lib.hid (HE1.out (by unfold conE; rw [hp, hc]; rfl))
          rw [hc] at KC
          go_wp2_with fail
          refine ((KP _ (Below.refl _ _)).out).mono ?_
          rintro e w1 ⟨rfl, hb1⟩
          go_wp2_with fail
          refine ((KC _ hb1).out).mono ?_
          rintro e w2 ⟨rfl, hb2⟩
          have hbw2 := hbw.trans ((hb1.trans (hb2.mono hb1.size)).mono hbw.size)
          go_wp2_with fail
          go_roundw
          case rel => exact ⟨k + 1, by omega, by go_num, HE.out, hbw2⟩
          case measure => simp [intOf]; omega
    · have HE : Hid (convsE L = 0) := Lib.hid (by
        rw [← HZ.out, List.drop_of_length_le (by rw [HL.out]; omega)]; rfl)
      go_wp2_with fail
      go_ret
      exact ⟨ret_int HE.out.symm, hbw⟩

theorem lawConvex_any (A : Option Addr) (n c : Nat) (l : List Pt) (w : World) (hn : l.length = n) (hbig : n ≤ 1000000) (hx : PtsAt w A l) :
    Calls Try.prog 11 #[.slice A n c] w fun e w' => e = .returned (.int .i64 (conE l)) ∧ Below w.heap.size w w' := by
  have K := Lib.hid (polygonX_any A n c l w hn hbig hx)
  cases hp : polyB l
  · have e1 : conE l = 1 := by unfold conE; rw [hp]; rfl
    rw [e1]
    rw [hp] at K
    clear hn hx
    go_enter Try.func11, Try.ntmps11
    go_wp2_with fail
    refine (K.out).mono ?_
    rintro e w' ⟨rfl, hb⟩
    go_wp2
    go_ret
    exact ⟨rfl, hb⟩
  · have e1 : conE l = if convexB l then 0 else 2 := by unfold conE; rw [hp]; rfl
    have E1 := Lib.hid e1
    rw [hp] at K
    obtain ⟨b, off, rfl, h1, h2, h3, h4, h5⟩ := hx.poly hn hp
    have S := fun W hW => Lib.hid (convex_any b off n c l W hn (by omega) (by omega) (h4.below (B := w.heap.size) hW h3) (Nat.lt_of_lt_of_le h3 hW.size) h5)
    clear hn hx h4 h5 e1
    generalize conE l = r at *
    cases hs : convexB l
    all_goals
      have E2 := Lib.hid (E1.out.trans (by rw [hs]))
      rw [hs] at S
      go_enter Try.func11, Try.ntmps11
      go_wp2_with fail
      refine (K.out).mono ?_
      rintro e w1 ⟨rfl, hb⟩
      go_wp2_with fail
      refine ((S _ hb).out).mono ?_
      rintro e w2 ⟨rfl, hb2⟩
      go_wp2
      go_ret
      exact ⟨ret_int E2.out.symm, hb.trans (hb2.mono hb.size)⟩

theorem ok_Bd {l : List Pt} (h : l.all okP = true) : ∀ x ∈ l, Bd x := fun x hx => Bd.of_ok (List.all_eq_true.1 h x hx)
theorem moved_Bd {l : List Pt} {v : Pt} (h : l.all okP = true) (hv : validB v.1 v.2 20000 = true) : ∀ x ∈ movedL l v, Bd x := fun x hx => by
  obtain ⟨p, hp, rfl⟩ := List.mem_map.1 hx
  obtain ⟨h1, h2⟩ := okP_bd (List.all_eq_true.1 h p hp)
  have : (-20000 ≤ v.1 ∧ v.1 ≤ 20000) ∧ (-20000 ≤ v.2 ∧ v.2 ≤ 20000) := by simpa [validB, inB] using hv
  unfold Bd addP
  simp only
  omega
theorem valid_Bd2 {v : Pt} (hv : validB v.1 v.2 20000 = true) : Bd v := by
  have : (-20000 ≤ v.1 ∧ v.1 ≤ 20000) ∧ (-20000 ≤ v.2 ∧ v.2 ≤ 20000) := by simpa [validB, inB] using hv
  unfold Bd
  omega

/-- What Apart says: whether, and the error. -/
def apE (a b : List Pt) (v : Pt) : Int := if conE a = 0 then (if conE b = 0 then (if validB v.1 v.2 20000 then 0 else 1) else conE b) else conE a
def apX (a b : List Pt) (v : Pt) : Bool := if apE a b v = 0 then apartB a (movedL b v) else false
theorem apE_zero {a b : List Pt} {v : Pt} (h : apE a b v = 0) : conE a = 0 ∧ conE b = 0 ∧ validB v.1 v.2 20000 = true := by
  unfold apE at h
  split at h
  · split at h
    · split at h
      · exact ⟨by assumption, by assumption, by assumption⟩
      · cases h
    · rename_i h1 h2; exact absurd h h2
  · rename_i h2; exact absurd h h2
theorem convs_two (a b : List Pt) : convsE [a, b] = if conE a = 0 then conE b else conE a := by
  show (if conE a = 0 then (if conE b = 0 then 0 else conE b) else conE a) = _
  split
  · split
    · rename_i h; exact h.symm
    · rfl
  · rfl

set_option maxRecDepth 100000 in
set_option maxHeartbeats 1000000 in
theorem apartX_any (A : Option Addr) (n c : Nat) (A' : Option Addr) (m d : Nat) (a b : List Pt) (v : Pt) (w : World) (hn : a.length = n) (hbig : n ≤ 1000000) (hx : PtsAt w A a) (hm : b.length = m) (hbig' : m ≤ 1000000) (hy : PtsAt w A' b) :
    Calls Try.prog 25 #[.slice A n c, .slice A' m d, .agg #[.int .i64 v.1, .int .i64 v.2]] w fun e w' => e = .returned (.tuple #[.bool (apX a b v), .int .i64 (apE a b v)]) ∧ Below w.heap.size w w' := by
  have hb0 : Below w.heap.size w (w.alloc (bx v.1 v.2)) := (Below.refl _ _).alloc (Nat.le_refl _) _
  have P0 : PtAt (w.alloc (bx v.1 v.2)) w.heap.size v.1 v.2 := PtAt.new
  have hz0 : (w.alloc (bx v.1 v.2)).heap.size = w.heap.size + 1 := by simp
  have hx0 := hx.below hb0
  have hy0 := hy.below hb0
  generalize hw0 : w.alloc (bx v.1 v.2) = w0 at *
  have hb1 : Below w0.heap.size w0 (w0.alloc (.cells #[.slice A n c, .slice A' m d] 22)) := (Below.refl _ _).alloc (Nat.le_refl _) _
  have hP : PolysIn (w0.alloc (.cells #[.slice A n c, .slice A' m d] 22)) w0.heap.size 0 [a, b] := by
    intro i l hi
    match i, hi with
    | 0, hi =>
      obtain rfl : a = l := by simpa using hi
      exact ⟨A, n, c, by simp [World.cell?_alloc_new], hn, hbig, hx0.below hb1⟩
    | 1, hi =>
      obtain rfl : b = l := by simpa using hi
      exact ⟨A', m, d, by simp [World.cell?_alloc_new], hm, hbig', hy0.below hb1⟩
  rw [hz0] at hP
  have K := Lib.hid (checkConvex_any (w.heap.size + 1) 0 2 2 [a, b] _ rfl (by omega) hP (by simp; omega))
  have HB1 := Lib.hid (hb0.trans (hb1.mono hb0.size))
  have P1 := PtAt.below hb1 (by omega) P0
  have hgr : w.heap.size < (w0.alloc (.cells #[.slice A n c, .slice A' m d] 22)).heap.size := by simp; omega
  have hC := convs_two a b
  have V := fun W => Lib.hid (isNear_any v.1 v.2 20000 (by omega) W)
  have HX := Lib.hid hx
  have HY := Lib.hid hy
  clear hb0 P0 hx0 hy0 hb1 hP
  by_cases h0 : convsE [a, b] = 0
  · have ha : conE a = 0 := by
      rw [hC] at h0
      split at h0
      · assumption
      · rename_i h; exact absurd h0 h
    have hb : conE b = 0 := by rw [hC, if_pos ha] at h0; exact h0
    obtain ⟨pa, ca⟩ := conE_zero ha
    obtain ⟨pb, cb⟩ := conE_zero hb
    rw [h0] at K
    cases hv : validB v.1 v.2 20000
    · have e1 : apE a b v = 1 := by unfold apE; rw [if_pos ha, if_pos hb, hv]; rfl
      have e2 : apX a b v = false := by unfold apX; rw [e1]; rfl
      rw [e1, e2]
      rw [hv] at V
      clear hC h0 ha hb pa ca pb cb hv e1 e2 HX HY hx hy hn hm
      go_enter Try.func25, Try.ntmps25
      go_upto_region 1 with (fail)
      clear hw0
      go_wp2_with fail
      refine (K.out).mono ?_
      rintro e w1 ⟨rfl, hb1⟩
      obtain ⟨p1, p2⟩ := PtAt.below hb1 hgr P1
      have hbw1 := HB1.out.trans (hb1.mono HB1.out.size)
      go_wp2_with fail
      refine ((V _).out).mono ?_
      rintro e w2 ⟨rfl, hb2⟩
      have hbw2 := hbw1.trans (hb2.mono hbw1.size)
      go_wp2
      go_ret2
      exact ⟨rfl, hbw2⟩
    · have e1 : apE a b v = 0 := by unfold apE; rw [if_pos ha, if_pos hb, hv]; rfl
      have e2 : apX a b v = apartB a (movedL b v) := by unfold apX; rw [e1]; rfl
      rw [e1, e2]
      rw [hv] at V
      obtain ⟨b1, o1, rfl, g1, g2, g3, g4, g5⟩ := hx.poly hn pa
      obtain ⟨b2, o2, rfl, f1, f2, f3, f4, f5⟩ := hy.poly hm pb
      have KM := fun W (hW : Below w.heap.size w W) => Lib.hid (moved_any b2 o2 m d b v W hm (by omega) (f4.below hW f3) (Nat.lt_of_lt_of_le f3 hW.size) (Bd.all f5) (valid_Bd2 hv))
      have KA := fun g2 W (hW : Below w.heap.size w W) (hM : PtBlk W g2 (movedL b v)) => Lib.hid (areApart_any b1 o1 n c g2 0 m m a (movedL b v) W hn (by omega) (by omega) (g4.below hW g3) (Nat.lt_of_lt_of_le g3 hW.size) (ok_Bd g5) ((movedL_length b v).trans hm) (by omega) (by omega) hM.pts hM.lt (moved_Bd f5 hv))
      clear hC h0 ha hb pa ca pb cb hv e1 e2 HX HY hx hy hn hm g4 g5 f4 f5
      generalize apartB a (movedL b v) = r at *
      generalize movedL b v = mv at *
      go_enter Try.func25, Try.ntmps25
      go_upto_region 1 with (fail)
      clear hw0
      go_wp2_with fail
      refine (K.out).mono ?_
      rintro e w1 ⟨rfl, hb1⟩
      obtain ⟨p1, p2⟩ := PtAt.below hb1 hgr P1
      have hbw1 := HB1.out.trans (hb1.mono HB1.out.size)
      have hgr1 : w.heap.size < w1.heap.size := Nat.lt_of_lt_of_le hgr hb1.size
      clear hb1
      go_wp2_with fail
      refine ((V _).out).mono ?_
      rintro e w2 ⟨rfl, hb2⟩
      obtain ⟨p1, p2⟩ := PtAt.below hb2 hgr1 ⟨p1, p2⟩
      have hbw2 := hbw1.trans (hb2.mono hbw1.size)
      clear hb2
      go_wp2_with fail
      refine ((KM _ hbw2).out).mono ?_
      rintro e w3 ⟨g, rfl, hg, hM, hb3⟩
      have hbw3 := hbw2.trans (hb3.mono hbw2.size)
      clear hb3
      have KA1 := KA g w3 hbw3 hM
      clear hM hg
      go_wp2_with fail
      refine (KA1.out).mono ?_
      rintro e w4 ⟨rfl, hb4⟩
      have hbw4 := hbw3.trans (hb4.mono hbw3.size)
      go_wp2
      go_ret2
      exact ⟨rfl, hbw4⟩
  · have e1 : apE a b v = convsE [a, b] := by
      rw [hC]; unfold apE
      split
      · rename_i ha
        rw [if_neg]
        rw [hC, if_pos ha] at h0; exact h0
      · rfl
    have e2 : apX a b v = false := by unfold apX; rw [if_neg (by rw [e1]; exact h0)]
    rw [e1, e2]
    have hrng : 0 ≤ convsE [a, b] ∧ convsE [a, b] ≤ 2 := by
      rw [hC]; have := conE_rng a; have := conE_rng b; split <;> omega
    generalize convsE [a, b] = r at *
    clear hC e1 e2 HX HY hx hy hn hm V
    go_enter Try.func25, Try.ntmps25
    go_upto_region 1 with (fail)
    clear hw0
    go_wp2_with fail
    refine (K.out).mono ?_
    rintro e w1 ⟨rfl, hb1⟩
    have hbw1 := HB1.out.trans (hb1.mono HB1.out.size)
    go_wp2
    go_ret2
    exact ⟨rfl, hbw1⟩
end Go.Proofs.Ytlmdmgbhfoehgaa

/- The reference's Moved, parts and Apart. -/
namespace Go.Proofs.Ytlmdmgbhfoehgaa
open Go.RowKit Go.Sort
attribute [local go_sem ↓] run_min_mn run_max_mx Go.wp_at_zero Go.wp_at_succ

theorem PtsOwn.low {w : World} {base base' : Nat} {v : Value} {xs : List Pt} (h : PtsOwn w base v xs) (hb : base' ≤ base) : PtsOwn w base' v xs := by
  unfold PtsOwn World.ownsRow at *
  obtain ⟨h1, h2⟩ := h
  refine ⟨h1, ?_⟩
  rcases h2 with h2 | ⟨g, cap, cur, e, hg, r⟩
  · exact .inl h2
  · exact .inr ⟨g, cap, cur, e, Nat.le_trans hb hg, r⟩
theorem PtsOwn.alloc {w : World} {base : Nat} {v : Value} {xs : List Pt} (h : PtsOwn w base v xs) (o : Obj) : PtsOwn (w.alloc o) base v xs := World.ownsRow.alloc h o
theorem PtsOwn.drew {w : World} {base : Nat} {v : Value} {xs : List Pt} (h : PtsOwn w base v xs) : PtsOwn w.drew base v xs := h
theorem PtsOwn.base {w : World} {base : Nat} {v : Value} {xs : List Pt} (h : PtsOwn w base v xs) : ∀ k, v.ownBlock = some k → base ≤ k ∧ k < w.heap.size := World.ownsRow.lt h
theorem PtsAt.one (W : World) (x y : Int) : PtsAt (W.alloc (.cells #[.int .i64 x, .int .i64 y] 38)) (some ⟨W.heap.size, 0, none⟩) [(x, y)] := fun _ =>
  ⟨W.heap.size, 0, rfl, by simp, fun i p hp => by
    match i, hp with
    | 0, hp =>
      obtain rfl : (x, y) = p := by simpa using hp
      constructor <;> simp [World.cell?_alloc_new]⟩

/-- An append as one step of a region that draws its order. -/
theorem step_papp {w : World} {ops : Array Oper} {o : Oper} {a : Act} {K : Act → World → Prop} {Q : Exit → Act → World → Prop} {E : Prop} (hgd : o.guard = none) (s x : Operand)
    (ho : o.op = .call { callee := .builtin .append, args := #[s, x], argTypes := #[22, 22] }) (base : Nat) (v : Value) (xs ys : List Pt) (A : Option Addr) (m c : Nat)
    (hs : a.eval s = v) (hx : a.eval x = .slice A m c) (hown : PtsOwn w base v xs) (hm : ys.length = m) (hy : PtsAt w A ys) (hlen : xs.length + ys.length ≤ 100000) (hb : base ≤ w.heap.size)
    (h : ∀ v' w', PtsOwn w' base v' (xs ++ ys) → w.grownBy w' v.ownBlock → (v'.ownBlock = v.ownBlock ∨ v'.ownBlock = some w.heap.size) → K (a.put o.dst v') w') :
    if Region.wanted o (yielded ops a.tmps) = true then Oper.wp Try.prog o a w K Q else E := by
  have hw : Region.wanted o (yielded ops a.tmps) = true := by simp [Region.wanted, hgd]
  rw [if_pos hw]
  subst hm
  obtain ⟨v', w', hr, h2, h3, h4⟩ := papp_run hown c hy hlen hb o.type
  unfold Oper.wp execOp
  simp only [ho, resolve, invoke, builtin, Sem.run_bind, Sem.run_pure, Result.andThen_ok, List.map_toArray, List.map_cons, List.map_nil, hs, hx, hr]
  exact h v' w' h2 h3 h4

/-- Four cells of old blocks stay behind an append to a row of the call's own. -/
theorem cells4_grown {w W w1 : World} {b o1 o2 g B : Nat} {v1 v2 v3 v4 : Value} {row : Option Nat} (hg : W.grownBy w1 row) (hr : ∀ k, row = some k → B ≤ k) (hb : b < B) (hgg : g < B) (hs : B ≤ W.heap.size)
    (h : W.cell? ⟨b, o1, none⟩ = some v1 ∧ W.cell? ⟨b, o2, none⟩ = some v2 ∧ W.cell? ⟨g, 0, none⟩ = some v3 ∧ W.cell? ⟨g, 1, none⟩ = some v4) :
    w1.cell? ⟨b, o1, none⟩ = some v1 ∧ w1.cell? ⟨b, o2, none⟩ = some v2 ∧ w1.cell? ⟨g, 0, none⟩ = some v3 ∧ w1.cell? ⟨g, 1, none⟩ = some v4 := by
  have hB : Below B W w1 := (Below.refl _ _).grown hg hs hr
  exact ⟨(hB.cell (p := ⟨b, _, none⟩) hb).trans h.1, (hB.cell (p := ⟨b, _, none⟩) hb).trans h.2.1, (hB.cell (p := ⟨g, _, none⟩) hgg).trans h.2.2.1, (hB.cell (p := ⟨g, _, none⟩) hgg).trans h.2.2.2⟩

def RefMovedTo (l : List Pt) (w : World) (e : Ending) (w' : World) : Prop := ∃ v, e = .returned v ∧ PtsOwn w' w.heap.size v l ∧ Below w.heap.size w w'

set_option maxRecDepth 100000 in
set_option maxHeartbeats 2000000 in
theorem refMoved_any (b off n c : Nat) (l : List Pt) (v : Pt) (w : World) (hl : l.length = n) (hn' : n ≤ 100) (h : PtsIn w b off l) (hb : b < w.heap.size) (hbd : ∀ i, Bd (gt l i)) (hv : Bd v) :
    Calls Try.prog 24 #[.slice (some ⟨b, off, none⟩) n c, .agg #[.int .i64 v.1, .int .i64 v.2]] w (RefMovedTo (movedL l v) w) := by
  have HL := Lib.hid hl
  have HP := Lib.hid h
  have HBD := Lib.hid hbd
  obtain ⟨vx, vy⟩ := v
  obtain ⟨hv1, hv2⟩ := hv
  clear hl h hbd
  go_enter Try.func24, Try.ntmps24
  go_upto_region 1 with (fail)
  have B : PtAt (w.alloc (bx vx vy)) w.heap.size vx vy := PtAt.new
  have hb0 : Below w.heap.size w (w.alloc (bx vx vy)) := (Below.refl _ _).alloc (Nat.le_refl _) _
  have hz0 : (w.alloc (bx vx vy)).heap.size = w.heap.size + 1 := by simp
  generalize w.alloc (bx vx vy) = w0 at *
  generalize hgg : w.heap.size = gg at *
  go_wp2_with fail
  have O0 : PtsOwn (w0.alloc (.cells #[] 38)) (gg + 1) (.slice (some ⟨gg + 1, 0, none⟩) 0 0) [] := by
    have := PtsOwn.empty w0
    rwa [hz0] at this
  have hb1 : Below w0.heap.size w0 (w0.alloc (.cells #[] 38)) := (Below.refl _ _).alloc (Nat.le_refl _) _
  have hz1 : (w0.alloc (.cells #[] 38)).heap.size = gg + 2 := by simp; omega
  generalize w0.alloc (.cells #[] 38) = w1 at *
  have hb2 : Below gg w w1 := hb0.trans (hb1.mono (by omega))
  have B1 : PtAt w1 gg vx vy := PtAt.below hb1 (by omega) B
  clear hb0 hb1 B
  have HP1 := Lib.hid (HP.out.below hb2 hb)
  go_loopw [5, 6] (fun s i wr => ∃ k : Nat, k ≤ n ∧ i = .int .i64 k ∧ PtsOwn wr (gg + 1) s (movedL (l.take k) (vx, vy)) ∧ Below (gg + 1) w1 wr) (fun _ i _ => n - (intOf i).toNat)
  case atStart => exact ⟨0, Nat.zero_le _, rfl, by simpa [movedL] using O0, Below.refl _ _⟩
  case round =>
    clear O0
    obtain ⟨k, hk, rfl, hO, hbr⟩ := hrel
    have HO := Lib.hid hO
    clear hO
    obtain ⟨p1, p2⟩ := PtAt.below hbr (by omega) B1
    have hgr : gg + 2 ≤ wr.heap.size := by have := hbr.size; omega
    have hg1 : gg < wr.heap.size := by omega
    by_cases hlt : k < n
    · have hkl : k < l.length := by rw [HL.out]; exact hlt
      obtain ⟨h1, h2⟩ := (HP1.out.below hbr (by omega)) k (gt l k) (by unfold gt; rw [List.getD_eq_getElem?_getD, List.getElem?_eq_getElem hkl]; rfl)
      have hB : b < wr.heap.size := by omega
      obtain ⟨d1, d2⟩ := HBD.out k
      have HN : Hid (movedL (l.take (k + 1)) (vx, vy) = movedL (l.take k) (vx, vy) ++ [addP (gt l k) (vx, vy)]) := Lib.hid (by
        rw [List.take_succ_eq_append_getElem hkl]
        unfold movedL
        rw [List.map_append]
        simp [gt, List.getD, hkl])
      have HLN : Hid ((movedL (l.take k) (vx, vy)).length ≤ 100) := Lib.hid (by rw [movedL_length, List.length_take]; omega)
      generalize gt l k = p at *
      generalize movedL (l.take k) (vx, vy) = cur at *
      obtain ⟨x, y⟩ := p
      replace d1 : -60000 ≤ x ∧ x ≤ 60000 := d1
      replace d2 : -60000 ≤ y ∧ y ≤ 60000 := d2
      obtain ⟨d3, d4⟩ := d1
      obtain ⟨d5, d6⟩ := d2
      obtain ⟨v3, v4⟩ := hv1
      obtain ⟨v5, v6⟩ := hv2
      have ne1 : u5.ownBlock ≠ some b := fun e => by have := (HO.out.base b e).1; omega
      have ne2 : u5.ownBlock ≠ some gg := fun e => by have := (HO.out.base gg e).1; omega
      have l1 : b < (wr.alloc (.cells #[.int .i64 (IntKind.i64.wrap (x + vx)), .int .i64 (IntKind.i64.wrap (y + vy))] 38)).drew.heap.size := by simp; omega
      have l2 : gg < (wr.alloc (.cells #[.int .i64 (IntKind.i64.wrap (x + vx)), .int .i64 (IntKind.i64.wrap (y + vy))] 38)).drew.heap.size := by simp; omega
      have k1 : (wr.alloc (.cells #[.int .i64 (IntKind.i64.wrap (x + vx)), .int .i64 (IntKind.i64.wrap (y + vy))] 38)).drew.cell? ⟨b, off + k * 2, none⟩ = some (.int .i64 x) := (World.cell?_alloc_lt wr _ ⟨b, _, none⟩ hB).trans h1
      have k2 : (wr.alloc (.cells #[.int .i64 (IntKind.i64.wrap (x + vx)), .int .i64 (IntKind.i64.wrap (y + vy))] 38)).drew.cell? ⟨b, off + k * 2 + 1, none⟩ = some (.int .i64 y) := (World.cell?_alloc_lt wr _ ⟨b, _, none⟩ hB).trans h2
      have k3 : (wr.alloc (.cells #[.int .i64 (IntKind.i64.wrap (x + vx)), .int .i64 (IntKind.i64.wrap (y + vy))] 38)).drew.cell? ⟨gg, 0, none⟩ = some (.int .i64 vx) := (World.cell?_alloc_lt wr _ ⟨gg, _, none⟩ hg1).trans p1
      have k4 : (wr.alloc (.cells #[.int .i64 (IntKind.i64.wrap (x + vx)), .int .i64 (IntKind.i64.wrap (y + vy))] 38)).drew.cell? ⟨gg, 1, none⟩ = some (.int .i64 vy) := (World.cell?_alloc_lt wr _ ⟨gg, _, none⟩ hg1).trans p2
      go_wp2_with fail
      go_region_held3 (fun w' => w'.cell? ⟨b, off + k * 2, none⟩ = some (.int .i64 x) ∧ w'.cell? ⟨b, off + k * 2 + 1, none⟩ = some (.int .i64 y) ∧ w'.cell? ⟨gg, 0, none⟩ = some (.int .i64 vx) ∧ w'.cell? ⟨gg, 1, none⟩ = some (.int .i64 vy))
        (first
          | go_keep
          | exact ⟨(hgrow.cell_far _ l1 (Ne.symm ne1)).trans k1, (hgrow.cell_far _ l1 (Ne.symm ne1)).trans k2, (hgrow.cell_far _ l2 (Ne.symm ne2)).trans k3, (hgrow.cell_far _ l2 (Ne.symm ne2)).trans k4⟩)
        ((refine step_papp (by rfl) _ _ (by rfl) (gg + 1) _ cur [(IntKind.i64.wrap (x + vx), IntKind.i64.wrap (y + vy))] (some ⟨wr.heap.size, 0, none⟩) 1 1 (by rfl) (by rfl) ((HO.out.alloc _).drew) rfl (PtsAt.one wr _ _) (by have := HLN.out; simp; omega) (by simp; omega) ?_; intro v1 w2 hown1 hgrow hat))
      have e1 : IntKind.i64.wrap (x + vx) = x + vx := by rw [IntKind.wrap_i64]; omega
      have e2 : IntKind.i64.wrap (y + vy) = y + vy := by rw [IntKind.wrap_i64]; omega
      have HO2 : Hid (PtsOwn w2 (gg + 1) v1 (movedL (l.take (k + 1)) (vx, vy))) := Lib.hid (by
        rw [HN.out]
        rw [e1, e2] at hown1
        exact hown1)
      have HB2 : Hid (Below (gg + 1) w1 w2) := Lib.hid ((hbr.alloc (by omega) _).drew.grown hgrow (by simp; omega) (fun k hk => (HO.out.base k hk).1))
      clear hown1 hgrow hat k1 k2 k3 k4 l1 l2 e1 e2
      go_wp2_with fail
      go_roundw
      case rel => exact ⟨k + 1, by omega, by go_num, HO2.out, HB2.out⟩
      case measure => simp [intOf]; omega
    · obtain rfl : k = n := by omega
      have HF : Hid (movedL (l.take k) (vx, vy) = movedL l (vx, vy)) := Lib.hid (by rw [List.take_of_length_le (by rw [HL.out]; omega)])
      generalize movedL (l.take k) (vx, vy) = cur at *
      have HBB := Lib.hid (hb2.trans (hbr.mono (by omega)))
      go_wp2_with fail
      go_ret
      exact ⟨_, rfl, by rw [← HF.out, hgg]; exact HO.out.low (by omega), by rw [hgg]; exact HBB.out⟩

def rightQ (p q x : Pt) : Bool := decide (crossP p q x ≤ 0)
def partsAt (a b : List Pt) (i : Nat) : Bool := b.all (rightQ (gt a i) (nx a i))
def partsB (a b : List Pt) : Bool := (List.range a.length).any (partsAt a b)
theorem parts_at (a b : List Pt) (i : Nat) : partsAt a b i = beyondAt a b i := by
  unfold partsAt beyondAt anyLeft
  generalize gt a i = p
  generalize nx a i = q
  induction b with
  | nil => rfl
  | cons x b ih =>
    rw [List.all_cons, List.any_cons, ih, Bool.not_or]
    congr 1
    unfold rightQ leftQ
    by_cases h : crossP p q x ≤ 0
    · rw [decide_eq_true h, decide_eq_false (by omega)]; rfl
    · rw [decide_eq_false h, decide_eq_true (by omega)]; rfl
theorem parts_same (a b : List Pt) : partsB a b = beyondB a b := by
  unfold partsB beyondB
  rw [show partsAt a b = beyondAt a b from funext (parts_at a b)]

set_option maxRecDepth 100000 in
set_option maxHeartbeats 2000000 in
theorem parts_any (b off n c b' off' m d : Nat) (l r : List Pt) (w : World) (hl : l.length = n) (hn : 0 < n) (hn' : n ≤ 100) (h : PtsIn w b off l) (hb : b < w.heap.size) (hbd : ∀ i, Bd (gt l i))
    (hm : r.length = m) (hm' : m ≤ 100) (hr : PtsIn w b' off' r) (hb' : b' < w.heap.size) (hrd : ∀ i, Bd (gt r i)) :
    Calls Try.prog 70 #[.slice (some ⟨b, off, none⟩) n c, .slice (some ⟨b', off', none⟩) m d] w fun e w' => e = .returned (.bool (partsB l r)) ∧ Below w.heap.size w w' := by
  have HL := Lib.hid hl
  have HP := Lib.hid h
  have HBD := Lib.hid hbd
  have HM := Lib.hid hm
  have HR := Lib.hid hr
  have HRD := Lib.hid hrd
  clear hl h hbd hm hr hrd
  go_enter Try.func70, Try.ntmps70
  go_wp2
  go_loopw [5] (fun i wr => ∃ k : Nat, k ≤ n ∧ i = .int .i64 k ∧ (∀ j, j < k → partsAt l r j = false) ∧ Below w.heap.size w wr) (fun i _ => n - (intOf i).toNat)
  case atStart => exact ⟨0, Nat.zero_le _, rfl, by omega, Below.refl _ _⟩
  case round =>
    obtain ⟨k, hk, rfl, hz, hbw⟩ := hrel
    have HZ := Lib.hid hz
    clear hz
    by_cases hlt : k < n
    · have HPw : Hid (PtsIn wr b off l) := Lib.hid (HP.out.below hbw hb)
      have HRw : Hid (PtsIn wr b' off' r) := Lib.hid (HR.out.below hbw hb')
      have hB : b < wr.heap.size := Nat.lt_of_lt_of_le hb hbw.size
      have hB' : b' < wr.heap.size := Nat.lt_of_lt_of_le hb' hbw.size
      have HBW := Lib.hid hbw
      obtain ⟨wo, rfl⟩ : ∃ wo : World, wo = wr := ⟨_, rfl⟩
      clear hbw
      go_wp2_with fail
      go_loopw [6, 7] (fun s i wr => ∃ q : Nat, q ≤ m ∧ i = .int .i64 q ∧ s = .bool ((r.take q).all (rightQ (gt l k) (nx l k))) ∧ Below wo.heap.size wo wr) (fun _ i _ => m - (intOf i).toNat)
      case atStart => exact ⟨0, Nat.zero_le _, rfl, rfl, Below.refl _ _⟩
      case round =>
        obtain ⟨q, hq, rfl, rfl, hbr⟩ := hrel
        by_cases hlq : q < m
        · have hql : q < r.length := by rw [HM.out]; exact hlq
          have HB1 : b < wr.heap.size := Nat.lt_of_lt_of_le hB hbr.size
          have HB2 : b' < wr.heap.size := Nat.lt_of_lt_of_le hB' hbr.size
          obtain ⟨h1, h2⟩ := (HPw.out.below hbr hB) k (gt l k) (by unfold gt; rw [List.getD_eq_getElem?_getD, List.getElem?_eq_getElem (by rw [HL.out]; exact hlt)]; rfl)
          obtain ⟨h3, h4⟩ := (HRw.out.below hbr hB') q (gt r q) (by unfold gt; rw [List.getD_eq_getElem?_getD, List.getElem?_eq_getElem hql]; rfl)
          have N := fun W hW => Lib.hid (next_any b off n c l k W HL.out (by omega) (by omega) (by omega) ((HPw.out.below hbr hB).below (B := wr.heap.size) hW HB1))
          have d1 := HBD.out k
          have d2 := HBD.out ((k + 1) % l.length)
          rw [← nx_gt] at d2
          have d3 := HRD.out q
          have HS : Hid ((r.take (q + 1)).all (rightQ (gt l k) (nx l k)) = ((r.take q).all (rightQ (gt l k) (nx l k)) && decide (crossP (gt l k) (nx l k) (gt r q) ≤ 0))) := Lib.hid (by
            rw [List.take_succ_eq_append_getElem hql, List.all_append]
            simp [rightQ, gt, List.getD, hql])
          generalize (r.take q).all (rightQ (gt l k) (nx l k)) = t at *
          generalize gt l k = p1 at *
          generalize nx l k = p2 at *
          generalize gt r q = p3 at *
          obtain ⟨x, y⟩ := p1
          obtain ⟨qx, qy⟩ := p2
          obtain ⟨rx, ry⟩ := p3
          have C := fun W => Lib.hid (cross_any x y qx qy rx ry W d1.1 d1.2 d2.1 d2.2 d3.1 d3.2)
          replace HS : Hid ((r.take (q + 1)).all (rightQ (x, y) (qx, qy)) = (t && decide (cross x y qx qy rx ry ≤ 0))) := HS
          clear d1 d2 d3
          generalize cross x y qx qy rx ry = cr at *
          have K1 := fun d os => Lib.hid (Calls.regrown_of ((N (grow (redrawn wr d) os) (below_regrown wr d os)).out))
          have K2 := fun d os => Lib.hid (Calls.regrown_of ((C (grow (redrawn wr d) os)).out))
          have t1 := cell_regrown h1
          have t2' := cell_regrown h2
          have t3 := cell_regrown h3
          have t4 := cell_regrown h4
          clear h1 h2 h3 h4 N C
          cases t
          all_goals
            go_wp2_with fail
            refine wp_region_quiet_below (by kernel_rfl) (by kernel_rfl) ?_
            repeat (go_big_quiet_step (first | (with_reducible exact (K1 _ _).out) | (with_reducible exact (K2 _ _).out)))
            refine wpQuiet_nil ?_
            intro _ hw'
            obtain ⟨⟨dq, osq⟩, hw''⟩ := hw'
            subst hw''
            have HBE := Lib.hid (hbr.trans ((below_regrown wr dq osq).mono hbr.size))
            go_wp2_with fail
            go_roundw
            case rel => exact ⟨q + 1, by omega, by go_num, by rw [HS.out]; simp, HBE.out⟩
            case measure => simp [intOf]; omega
        · obtain rfl : q = m := by omega
          have HT : Hid ((r.take q).all (rightQ (gt l k) (nx l k)) = partsAt l r k) := Lib.hid (by rw [List.take_of_length_le (by rw [HM.out]; omega)]; rfl)
          have HBE := Lib.hid (HBW.out.trans (hbr.mono HBW.out.size))
          generalize (r.take q).all (rightQ (gt l k) (nx l k)) = t at *
          cases t
          · go_wp2_with fail
            go_roundw
            case rel =>
              refine ⟨k + 1, by omega, by go_num, fun j hj => ?_, HBE.out⟩
              rcases Nat.lt_or_eq_of_le (Nat.le_of_lt_succ hj) with h' | h'
              · exact HZ.out j h'
              · rw [h']; exact HT.out.symm
            case measure => simp [intOf]; omega
          · have HF : Hid (partsB l r = true) := Lib.hid (List.any_eq_true.2 ⟨k, List.mem_range.2 (by rw [HL.out]; exact hlt), HT.out.symm⟩)
            go_wp2_with fail
            go_ret
            exact ⟨ret_bool HF.out.symm, HBE.out⟩
    · obtain rfl : k = n := by omega
      have HF : Hid (partsB l r = false) := Lib.hid (by
        unfold partsB
        rw [List.any_eq_false]
        intro j hj
        rw [HZ.out j (by have := List.mem_range.1 hj; rwa [HL.out] at this)]
        simp)
      go_wp2_with fail
      go_ret
      exact ⟨ret_bool HF.out.symm, hbw⟩

theorem refApart_any (b off n c b' off' m d : Nat) (l r : List Pt) (w : World) (hl : l.length = n) (hn : 0 < n) (hn' : n ≤ 100) (h : PtsIn w b off l) (hb : b < w.heap.size) (hbd : ∀ x ∈ l, Bd x)
    (hm : r.length = m) (hm0 : 0 < m) (hm' : m ≤ 100) (h' : PtsIn w b' off' r) (hb' : b' < w.heap.size) (hrd : ∀ x ∈ r, Bd x) :
    Calls Try.prog 40 #[.slice (some ⟨b, off, none⟩) n c, .slice (some ⟨b', off', none⟩) m d] w fun e w' => e = .returned (.bool (apartB l r)) ∧ Below w.heap.size w w' := by
  have gt_bd : ∀ (l : List Pt), (∀ x ∈ l, Bd x) → ∀ i, Bd (gt l i) := fun l hl i => by
    unfold gt
    rw [List.getD_eq_getElem?_getD]
    cases e : l[i]? with
    | none => exact ⟨by decide, by decide⟩
    | some x => exact hl x (List.mem_of_getElem? e)
  have K1 := fun W (hW : Below w.heap.size w W) => Lib.hid (parts_any b off n c b' off' m d l r W hl hn hn' (h.below hW hb) (Nat.lt_of_lt_of_le hb hW.size) (gt_bd l hbd) hm hm' (h'.below hW hb') (Nat.lt_of_lt_of_le hb' hW.size) (gt_bd r hrd))
  have K2 := fun W (hW : Below w.heap.size w W) => Lib.hid (parts_any b' off' m d b off n c r l W hm hm0 hm' (h'.below hW hb') (Nat.lt_of_lt_of_le hb' hW.size) (gt_bd r hrd) hl hn' (h.below hW hb) (Nat.lt_of_lt_of_le hb hW.size) (gt_bd l hbd))
  rw [parts_same] at K1 K2
  have E : Hid (apartB l r = (beyondB l r || beyondB r l)) := Lib.hid rfl
  clear hl h hbd hm h' hrd gt_bd
  generalize apartB l r = t at *
  generalize beyondB l r = t1 at *
  generalize beyondB r l = t2 at *
  cases t1
  · go_enter Try.func40, Try.ntmps40
    go_wp2_with fail
    refine ((K1 _ (Below.refl _ _)).out).mono ?_
    rintro e w1 ⟨rfl, hb1⟩
    go_wp2_with fail
    refine ((K2 _ hb1).out).mono ?_
    rintro e w2 ⟨rfl, hb2⟩
    have hb3 := hb1.trans (hb2.mono hb1.size)
    go_wp2
    go_ret
    exact ⟨ret_bool (by rw [E.out]; rfl), hb3⟩
  · go_enter Try.func40, Try.ntmps40
    go_wp2_with fail
    refine ((K1 _ (Below.refl _ _)).out).mono ?_
    rintro e w1 ⟨rfl, hb1⟩
    go_wp2
    go_ret
    exact ⟨ret_bool (by rw [E.out]; rfl), hb1⟩
end Go.Proofs.Ytlmdmgbhfoehgaa

/- Shape: the law's points: any points, with coordinates up to a limit. -/
namespace Go.Proofs.Ytlmdmgbhfoehgaa
open Go.RowKit Go.Sort
attribute [local go_sem ↓] run_min_mn run_max_mx

/-- A point's rest. -/
def tmP (p : Pt) : Pt := (p.1.tmod 10001, p.2.tmod 10001)
def foldL (xs : List Pt) : List Pt := xs.map tmP
theorem foldL_length (xs : List Pt) : (foldL xs).length = xs.length := by simp [foldL]
theorem tmod_bd (x : Int) : -10000 ≤ x.tmod 10001 ∧ x.tmod 10001 ≤ 10000 := by
  have a := Int.tmod_lt_of_pos x (b := 10001) (by omega)
  have b := Int.lt_tmod_of_pos x (b := 10001) (by omega)
  omega

def PointsTo (w : World) (l : List Pt) (e : Ending) (w' : World) : Prop := ∃ v, e = .returned v ∧ PtsOwn w' w.heap.size v l ∧ Below w.heap.size w w'

set_option maxRecDepth 100000 in
set_option maxHeartbeats 2000000 in
theorem points_any (A : Option Addr) (n c : Nat) (xs : List Pt) (w : World) (hn : xs.length = n) (hbig : n ≤ 9223372036854775807) (hx : PtsAt w A xs) (hw : ∀ x ∈ xs, (-9223372036854775808 ≤ x.1 ∧ x.1 ≤ 9223372036854775807) ∧ (-9223372036854775808 ≤ x.2 ∧ x.2 ≤ 9223372036854775807)) :
    Calls Try.prog 42 #[.slice A n c, .int .i64 10000, .int .i64 20] w (PointsTo w (foldL (xs.take 20))) := by
  have HN := Lib.hid hn
  have HX := Lib.hid hx
  have HW := Lib.hid hw
  clear hn hx hw
  go_enter Try.func42, Try.ntmps42
  go_wp2
  go_loopw [7, 8] (fun o i wr => ∃ k : Nat, k ≤ n ∧ k ≤ 20 ∧ i = .int .i64 k ∧ PtsOwn wr w.heap.size o (foldL (xs.take k)) ∧ Below w.heap.size w wr) (fun _ i _ => 20 - (intOf i).toNat)
  case atStart => exact ⟨0, Nat.zero_le _, by omega, rfl, by simpa [foldL] using PtsOwn.empty w, (Below.refl _ _).alloc (Nat.le_refl _) _⟩
  case round =>
    obtain ⟨k, hk, hk20, rfl, hown, hbr⟩ := hrel
    have HO := Lib.hid hown
    have HB := Lib.hid hbr
    have hsz := hbr.size
    clear hown
    by_cases hlt : k < n ∧ k < 20
    · obtain ⟨hlt, hlt2⟩ := hlt
      have hkl : k < xs.length := by rw [HN.out]; exact hlt
      obtain ⟨b, off, rfl, hb, hin⟩ := HX.out (by intro e; subst e; simp at hkl)
      obtain ⟨h1, h2⟩ := (hin.below hbr hb) k _ (List.getElem?_eq_getElem hkl)
      obtain ⟨⟨d3, d4⟩, d5, d6⟩ := HW.out _ (List.getElem_mem hkl)
      have HNX : Hid (foldL (xs.take (k + 1)) = foldL (xs.take k) ++ [tmP xs[k]]) := Lib.hid (by
        rw [List.take_succ_eq_append_getElem hkl]; unfold foldL; rw [List.map_append]; rfl)
      have HLN : Hid ((foldL (xs.take k)).length ≤ 100) := Lib.hid (by rw [foldL_length, List.length_take]; omega)
      generalize xs[k] = p at *
      generalize foldL (xs.take k) = cur at *
      obtain ⟨x, y⟩ := p
      replace d3 : -9223372036854775808 ≤ x := d3
      replace d4 : x ≤ 9223372036854775807 := d4
      replace d5 : -9223372036854775808 ≤ y := d5
      replace d6 : y ≤ 9223372036854775807 := d6
      have ne1 : u7.ownBlock ≠ some b := fun e => by have := (HO.out.base b e).1; omega
      have hB : b < wr.heap.size := by omega
      clear hin
      have l1 : b < (wr.alloc (.cells #[.int .i64 (x.tmod 10001), .int .i64 (y.tmod 10001)] 38)).drew.heap.size := by simp; omega
      have k1 : (wr.alloc (.cells #[.int .i64 (x.tmod 10001), .int .i64 (y.tmod 10001)] 38)).drew.cell? ⟨b, off + k * 2, none⟩ = some (.int .i64 x) := (World.cell?_alloc_lt wr _ ⟨b, _, none⟩ hB).trans h1
      have k2 : (wr.alloc (.cells #[.int .i64 (x.tmod 10001), .int .i64 (y.tmod 10001)] 38)).drew.cell? ⟨b, off + k * 2 + 1, none⟩ = some (.int .i64 y) := (World.cell?_alloc_lt wr _ ⟨b, _, none⟩ hB).trans h2
      have hlim : IntKind.i64.wrap 10001 = 10001 := by decide
      have hlim2 : IntKind.i64.wrap (10000 + 1) = 10001 := by decide
      have r1 : IntKind.i64.wrap (x.tmod 10001) = x.tmod 10001 := by have := tmod_bd x; rw [IntKind.wrap_i64]; omega
      have r2 : IntKind.i64.wrap (y.tmod 10001) = y.tmod 10001 := by have := tmod_bd y; rw [IntKind.wrap_i64]; omega
      go_wp2_with fail
      go_region_held3 (fun w' => w'.cell? ⟨b, off + k * 2, none⟩ = some (.int .i64 x) ∧ w'.cell? ⟨b, off + k * 2 + 1, none⟩ = some (.int .i64 y))
        (first
          | go_keep
          | exact ⟨(hgrow.cell_far _ l1 (Ne.symm ne1)).trans k1, (hgrow.cell_far _ l1 (Ne.symm ne1)).trans k2⟩)
        ((refine step_papp (by rfl) _ _ (by rfl) w.heap.size _ cur [(x.tmod 10001, y.tmod 10001)] (some ⟨wr.heap.size, 0, none⟩) 1 1 (by rfl) (by rfl) ((HO.out.alloc _).drew) rfl (PtsAt.one wr _ _) (by have := HLN.out; simp; omega) (by simp; omega) ?_; intro v1 w2 hown1 hgrow hat))
      have HO2 : Hid (PtsOwn w2 w.heap.size v1 (foldL (xs.take (k + 1)))) := Lib.hid (by rw [HNX.out]; exact hown1)
      have HB2 : Hid (Below w.heap.size w w2) := Lib.hid ((hbr.alloc (by omega) _).drew.grown hgrow (by simp; omega) (fun k hk => (HO.out.base k hk).1))
      clear hown1 hgrow hat k1 k2 l1 r1 r2
      go_wp2_with fail
      go_roundw
      case rel => exact ⟨k + 1, by omega, by omega, by go_num, HO2.out, HB2.out⟩
      case measure => simp [intOf]; omega
    · have HF : Hid (foldL (xs.take k) = foldL (xs.take 20)) := Lib.hid (by
        rcases Nat.lt_or_ge k 20 with g | g
        · rw [List.take_of_length_le (by rw [HN.out]; omega), List.take_of_length_le (by rw [HN.out]; omega)]
        · rw [show k = 20 by omega])
      by_cases g : k < n
      · have g20 : k = 20 := by omega
        go_wp2_with fail
        go_ret
        exact ⟨_, rfl, by rw [← HF.out]; exact HO.out, HB.out⟩
      · go_wp2_with fail
        go_ret
        exact ⟨_, rfl, by rw [← HF.out]; exact HO.out, HB.out⟩

end Go.Proofs.Ytlmdmgbhfoehgaa

/- Plain mathematics of convex hulls: the monotone chain. -/
namespace Go.Proofs.Ytlmdmgbhfoehgaa

/-- The cross product of two vectors. -/
def xr (u v : Pt) : Int := u.1 * v.2 - v.1 * u.2
def subP (a b : Pt) : Pt := (a.1 - b.1, a.2 - b.2)
/-- Upward, or to the right. -/
def Up (v : Pt) : Prop := 0 < v.2 ∨ (v.2 = 0 ∧ 0 < v.1)
/-- From below, then from the left. -/
def ltP (a b : Pt) : Prop := a.2 < b.2 ∨ (a.2 = b.2 ∧ a.1 < b.1)
def leP (a b : Pt) : Prop := a = b ∨ ltP a b

theorem up_sub {a b : Pt} : Up (subP b a) ↔ ltP a b := by unfold Up subP ltP; simp only; omega
theorem ltP_trans {a b c : Pt} (h : ltP a b) (k : ltP b c) : ltP a c := by unfold ltP at *; omega
theorem ltP_irrefl (a : Pt) : ¬ ltP a a := by unfold ltP; omega
theorem ltP_asymm {a b : Pt} (h : ltP a b) : ¬ ltP b a := by unfold ltP at *; omega
theorem leP_trans {a b c : Pt} (h : leP a b) (k : leP b c) : leP a c := by
  rcases h with rfl | h
  · exact k
  · rcases k with rfl | k
    · exact .inr h
    · exact .inr (ltP_trans h k)
theorem leP_refl (a : Pt) : leP a a := .inl rfl
theorem ltP_leP {a b c : Pt} (h : ltP a b) (k : leP b c) : ltP a c := by
  rcases k with rfl | k
  · exact h
  · exact ltP_trans h k
theorem leP_ltP {a b c : Pt} (h : leP a b) (k : ltP b c) : ltP a c := by
  rcases h with rfl | h
  · exact k
  · exact ltP_trans h k
theorem leP_total (a b : Pt) : leP a b ∨ ltP b a := by
  obtain ⟨x, y⟩ := a
  obtain ⟨u, v⟩ := b
  unfold leP ltP
  simp only [Prod.mk.injEq]
  omega
theorem leP_anti {a b : Pt} (h : leP a b) (k : leP b a) : a = b := by
  rcases h with h | h
  · exact h
  · rcases k with k | k
    · exact k.symm
    · exact absurd k (ltP_asymm h)

theorem nonneg_of_mul {v z s : Int} (hv : 0 < v) (h : v * z = s) (hs : 0 ≤ s) : 0 ≤ z := by
  rcases Int.lt_or_le z 0 with g | g
  · have := Int.mul_neg_of_pos_of_neg hv g; omega
  · exact g
theorem pos_of_mul {v z s : Int} (hv : 0 < v) (h : v * z = s) (hs : 0 < s) : 0 < z := by
  rcases Int.lt_or_le 0 z with g | g
  · exact g
  · have := Int.mul_nonpos_of_nonneg_of_nonpos (Int.le_of_lt hv) g; omega
theorem up_y {u : Pt} (h : Up u) : 0 ≤ u.2 := by unfold Up at h; omega

/-- In the upper half plane the angles are ordered. -/
theorem xr_trans {u v w : Pt} (hu : Up u) (hv : Up v) (hw : Up w) (h : 0 ≤ xr u v) (k : 0 ≤ xr v w) : 0 ≤ xr u w := by
  have e : v.2 * xr u w = w.2 * xr u v + u.2 * xr v w := by unfold xr; grind
  have a1 := Int.mul_nonneg (up_y hw) h
  have a2 := Int.mul_nonneg (up_y hu) k
  rcases hv with g | ⟨g, g'⟩
  · exact nonneg_of_mul g e (by omega)
  · have e2 : xr u v = - (v.1 * u.2) := by unfold xr; rw [g]; grind
    have e3 : xr v w = v.1 * w.2 := by unfold xr; rw [g]; grind
    have u0 : u.2 = 0 := by
      rcases Int.lt_or_le 0 u.2 with q | q
      · have := Int.mul_pos g' q; omega
      · have := up_y hu; omega
    have e4 : xr u w = u.1 * w.2 := by unfold xr; rw [u0]; grind
    have hu1 : 0 < u.1 := by unfold Up at hu; omega
    rw [e4]
    exact Int.mul_nonneg (Int.le_of_lt hu1) (up_y hw)
theorem xr_trans1 {u v w : Pt} (hu : Up u) (hv : Up v) (hw : Up w) (h : 0 < xr u v) (k : 0 ≤ xr v w) : 0 < xr u w := by
  have e : v.2 * xr u w = w.2 * xr u v + u.2 * xr v w := by unfold xr; grind
  have hv2 : 0 < v.2 := by
    rcases hv with g | ⟨g, g'⟩
    · exact g
    · have e2 : xr u v = - (v.1 * u.2) := by unfold xr; rw [g]; grind
      have := Int.mul_nonneg (Int.le_of_lt g') (up_y hu)
      omega
  have hw2 : 0 < w.2 := by
    rcases hw with g | ⟨g, g'⟩
    · exact g
    · have e2 : xr v w = - (w.1 * v.2) := by unfold xr; rw [g]; grind
      have := Int.mul_pos g' hv2
      omega
  have a1 := Int.mul_pos hw2 h
  have a2 := Int.mul_nonneg (up_y hu) k
  exact pos_of_mul hv2 e (by omega)
theorem xr_trans2 {u v w : Pt} (hu : Up u) (hv : Up v) (hw : Up w) (h : 0 ≤ xr u v) (k : 0 < xr v w) : 0 < xr u w := by
  have e : v.2 * xr u w = w.2 * xr u v + u.2 * xr v w := by unfold xr; grind
  have hw2 : 0 < w.2 := by
    rcases hw with g | ⟨g, g'⟩
    · exact g
    · have e2 : xr v w = - (w.1 * v.2) := by unfold xr; rw [g]; grind
      have := Int.mul_nonneg (Int.le_of_lt g') (up_y hv)
      omega
  rcases hv with g | ⟨g, g'⟩
  · rcases hu with q | ⟨q, q'⟩
    · have a1 := Int.mul_nonneg (up_y (.inl hw2)) h
      have a2 := Int.mul_pos q k
      exact pos_of_mul g e (by omega)
    · have e2 : xr u v = u.1 * v.2 := by unfold xr; rw [q]; grind
      have e3 : xr u w = u.1 * w.2 := by unfold xr; rw [q]; grind
      rw [e3]; exact Int.mul_pos q' hw2
  · have e2 : xr u v = - (v.1 * u.2) := by unfold xr; rw [g]; grind
    have u0 : u.2 = 0 := by
      rcases Int.lt_or_le 0 u.2 with q | q
      · have := Int.mul_pos g' q; omega
      · have := up_y hu; omega
    have e4 : xr u w = u.1 * w.2 := by unfold xr; rw [u0]; grind
    have hu1 : 0 < u.1 := by unfold Up at hu; omega
    rw [e4]; exact Int.mul_pos hu1 hw2

theorem crossP_xr (a b c : Pt) : crossP a b c = xr (subP b a) (subP c a) := by unfold crossP cross xr subP; grind
theorem crossP_xr2 (a b c : Pt) : crossP a b c = xr (subP b a) (subP c b) := by unfold crossP cross xr subP; grind

/-- A point is to the left of an edge, or on it. -/
def LeftOn (a b p : Pt) : Prop := 0 < crossP a b p ∨ onP a b p = true
theorem onP_cross {a b p : Pt} (h : onP a b p = true) : crossP a b p = 0 := by
  unfold onP onB at h
  simp only [Bool.and_eq_true, beq_iff_eq] at h
  exact h.1.1
theorem LeftOn.nonneg {a b p : Pt} (h : LeftOn a b p) : 0 ≤ crossP a b p := by
  rcases h with h | h
  · omega
  · rw [onP_cross h]; omega
/-- On a line, what lies between in the order lies between. -/
theorem on_of_between {a b p : Pt} (h : crossP a b p = 0) (h1 : leP a p) (h2 : leP p b) : onP a b p = true := by
  obtain ⟨ax, ay⟩ := a
  obtain ⟨bx, by'⟩ := b
  obtain ⟨px, py⟩ := p
  rcases h1 with e | h1
  · rw [← e]; exact onP_start _ _
  · rcases h2 with e | h2
    · rw [e]
      have := (on_iff ax ay (bx - ax) (by' - ay) (bx - ax) (by' - ay)).2 ⟨by unfold al; grind, by unfold btw; omega, by unfold btw; omega⟩
      rw [show ax + (bx - ax) = bx by omega, show ay + (by' - ay) = by' by omega] at this
      exact this
    · have hc : (bx - ax) * (py - ay) = (px - ax) * (by' - ay) := by unfold crossP cross at h; simp only at h; omega
      have key := (on_iff ax ay (bx - ax) (by' - ay) (px - ax) (py - ay))
      rw [show ax + (bx - ax) = bx by omega, show ay + (by' - ay) = by' by omega, show ax + (px - ax) = px by omega, show ay + (py - ay) = py by omega] at key
      refine key.2 ⟨by unfold al; omega, ?_⟩
      unfold ltP at h1 h2
      simp only at h1 h2
      have hy : btw (py - ay) (by' - ay) := by unfold btw; omega
      by_cases e : by' - ay = 0
      · refine ⟨?_, hy⟩
        unfold btw; omega
      · exact ⟨btw_dim e (by rw [Int.mul_comm, ← hc, Int.mul_comm]) hy, hy⟩


theorem onP_end (a b : Pt) (h : leP a b) : onP a b b = true := on_of_between (by unfold crossP cross; grind) h (leP_refl b)

/-- The edges of a chain whose last point stands first. -/
def edges : List Pt → List (Pt × Pt)
  | b :: a :: r => (a, b) :: edges (a :: r)
  | _ => []
def EdgeOK (P : List Pt) (a b : Pt) : Prop := ∀ p ∈ P, LeftOn a b p
def vec (e : Pt × Pt) : Pt := subP e.2 e.1
def Chn (P : List Pt) : List Pt → Prop
  | b :: a :: r => Chn P (a :: r) ∧ ltP a b ∧ EdgeOK P a b ∧ ∀ e ∈ edges (a :: r), 0 < xr (vec e) (subP b a)
  | _ => True
def popW (x : Pt) : List Pt → List Pt
  | b :: a :: r => if crossP a b x ≤ 0 then popW x (a :: r) else b :: a :: r
  | l => l
def pushW (st : List Pt) (x : Pt) : List Pt := x :: popW x st
def chainW (l : List Pt) : List Pt := l.foldl pushW []

theorem chn_edges {P : List Pt} : ∀ {st : List Pt}, Chn P st → ∀ e ∈ edges st, ltP e.1 e.2 ∧ EdgeOK P e.1 e.2
  | [], _, _, h => by cases h
  | [_], _, _, h => by cases h
  | b :: a :: r, hc, e, h => by
    obtain ⟨h1, h2, h3, _⟩ := hc
    rcases List.mem_cons.1 h with rfl | h
    · exact ⟨h2, h3⟩
    · exact chn_edges h1 e h
theorem chn_more {P : List Pt} {x : Pt} : ∀ {st : List Pt}, Chn P st → (∀ e ∈ edges st, LeftOn e.1 e.2 x) → Chn (x :: P) st
  | [], _, _ => trivial
  | [_], _, _ => trivial
  | b :: a :: r, hc, h => by
    obtain ⟨h1, h2, h3, h4⟩ := hc
    refine ⟨chn_more h1 (fun e he => h e (List.mem_cons_of_mem _ he)), h2, fun p hp => ?_, h4⟩
    rcases List.mem_cons.1 hp with rfl | hp
    · exact h (a, b) (List.mem_cons_self)
    · exact h3 p hp
theorem edges_mem : ∀ {st : List Pt} {e : Pt × Pt}, e ∈ edges st → e.1 ∈ st ∧ e.2 ∈ st
  | [], _, h => by cases h
  | [_], _, h => by cases h
  | b :: a :: r, e, h => by
    rcases List.mem_cons.1 h with rfl | h
    · exact ⟨by simp, by simp⟩
    · obtain ⟨h1, h2⟩ := edges_mem h
      exact ⟨List.mem_cons_of_mem _ h1, List.mem_cons_of_mem _ h2⟩

theorem q_step {P : List Pt} {a t x : Pt} (h1 : ltP a t) (h2 : ltP t x) (hx : ∀ p ∈ P, leP p x) (hc : crossP a t x ≤ 0) (he : EdgeOK P a t) (hq : ∀ p ∈ P, leP t p → LeftOn t x p) :
    ∀ p ∈ P, leP a p → LeftOn a x p := by
  intro p hp hap
  have hax := ltP_trans h1 h2
  have hpx := hx p hp
  have hA : Up (subP t a) := up_sub.2 h1
  have hB : Up (subP x t) := up_sub.2 h2
  have hAB : Up (subP x a) := up_sub.2 hax
  have hBA : 0 ≤ xr (subP x t) (subP t a) := by
    have : crossP a t x = - xr (subP x t) (subP t a) := by unfold crossP cross xr subP; grind
    omega
  have key : 0 ≤ crossP a x p := by
    rcases leP_total t p with g | g
    · rcases hpx with rfl | hpx
      · rw [show crossP a p p = 0 by unfold crossP cross; grind]; omega
      · have hD : Up (subP x p) := up_sub.2 hpx
        have k1 := (hq p hp g).nonneg
        have e1 : crossP t x p = xr (subP x p) (subP x t) := by unfold crossP cross xr subP; grind
        have e2 : crossP a x p = xr (subP x p) (subP t a) + xr (subP x p) (subP x t) := by unfold crossP cross xr subP; grind
        have := xr_trans hD hB hA (by omega) hBA
        omega
    · have k1 := (he p hp).nonneg
      rcases hap with rfl | hap
      · rw [show crossP a x a = 0 by unfold crossP cross; grind]; omega
      · have hC : Up (subP p a) := up_sub.2 hap
        have e1 : crossP a t p = xr (subP t a) (subP p a) := crossP_xr a t p
        have e2 : xr (subP x a) (subP t a) = xr (subP x t) (subP t a) := by unfold xr subP; grind
        rw [crossP_xr]
        exact xr_trans hAB hA hC (by omega) (by omega)
  rcases Int.lt_or_eq_of_le key with g | g
  · exact .inl g
  · exact .inr (on_of_between g.symm hap hpx)

/-- What popping leaves. -/
structure Popped (P : List Pt) (x : Pt) (t : Pt) (r : List Pt) : Prop where
  chn : Chn P (t :: r)
  lt : ltP t x
  q : ∀ p ∈ P, leP t p → LeftOn t x p
  turn : ∀ a r', r = a :: r' → 0 < crossP a t x

theorem pop_ok {P : List Pt} {x : Pt} (hx : ∀ p ∈ P, leP p x) : ∀ (t : Pt) (r : List Pt), Chn P (t :: r) → ltP t x → (∀ p ∈ P, leP t p → LeftOn t x p) →
    ∃ t' r', popW x (t :: r) = t' :: r' ∧ Popped P x t' r' ∧ (t' :: r') <:+ (t :: r)
  | t, [], hc, hl, hq => ⟨t, [], rfl, ⟨hc, hl, hq, fun _ _ h => by cases h⟩, List.suffix_refl _⟩
  | t, a :: r, hc, hl, hq => by
    by_cases h : crossP a t x ≤ 0
    · obtain ⟨h1, h2, h3, h4⟩ := hc
      obtain ⟨t', r', e, hp, hs⟩ := pop_ok hx a r h1 (ltP_trans h2 hl) (q_step h2 hl hx h h3 hq)
      refine ⟨t', r', ?_, hp, hs.trans (List.suffix_cons _ _)⟩
      rw [popW, if_pos h]; exact e
    · refine ⟨t, a :: r, ?_, ⟨hc, hl, hq, fun a' r' e => ?_⟩, List.suffix_refl _⟩
      · rw [popW, if_neg h]
      · obtain ⟨rfl, rfl⟩ : a = a' ∧ r = r' := by simpa using e
        omega

theorem push_ok {P : List Pt} {x s0 t : Pt} {r : List Pt} (h : Popped P x t r) (hin : ∀ s ∈ t :: r, s ∈ P) (hx : ∀ p ∈ P, leP p x) (hlast : (t :: r).getLast? = some s0) (hlow : ∀ p ∈ P, leP s0 p) :
    Chn (x :: P) (x :: t :: r) := by
  have hB : Up (subP x t) := up_sub.2 h.lt
  have turns : ∀ e ∈ edges (t :: r), 0 < xr (vec e) (subP x t) := by
    intro e he
    cases r with
    | nil => cases he
    | cons a r =>
      have ht := h.turn a r rfl
      obtain ⟨h1, h2, h3, h4⟩ := h.chn
      have e0 : crossP a t x = xr (subP t a) (subP x t) := crossP_xr2 a t x
      rcases List.mem_cons.1 he with rfl | he
      · show 0 < xr (subP t a) (subP x t); omega
      · have hv : Up (vec e) := up_sub.2 (chn_edges h1 e he).1
        exact xr_trans1 hv (up_sub.2 h2) hB (h4 e he) (by omega)
  have old : ∀ e ∈ edges (t :: r), LeftOn e.1 e.2 x := by
    intro e he
    left
    have k1 := ((chn_edges h.chn e he).2 t (hin t (by simp))).nonneg
    have k2 := turns e he
    have e0 : crossP e.1 e.2 x = crossP e.1 e.2 t + xr (vec e) (subP x t) := by unfold crossP cross xr vec subP; grind
    omega
  refine ⟨chn_more h.chn old, h.lt, fun p hp => ?_, turns⟩
  rcases List.mem_cons.1 hp with rfl | hp
  · exact .inr (onP_end _ _ (.inr h.lt))
  · rcases leP_total t p with g | g
    · exact h.q p hp g
    · left
      cases r with
      | nil =>
        obtain rfl : t = s0 := by simpa using hlast
        exact absurd (leP_ltP (hlow p hp) g) (ltP_irrefl _)
      | cons a r =>
        have ht := h.turn a r rfl
        obtain ⟨h1, h2, h3, h4⟩ := h.chn
        have k1 := (h3 p hp).nonneg
        have e1 : crossP a t p = xr (subP t p) (subP t a) := by unfold crossP cross xr subP; grind
        have e2 : crossP a t x = xr (subP t a) (subP x t) := crossP_xr2 a t x
        have e3 : crossP t x p = xr (subP t p) (subP x t) := by unfold crossP cross xr subP; grind
        have := xr_trans2 (up_sub.2 g) (up_sub.2 h2) hB (by omega) (by omega)
        omega

/-- A chain over points that are not all one. -/
structure Good (P : List Pt) (s0 : Pt) (st : List Pt) : Prop where
  chn : Chn P st
  two : 2 ≤ st.length
  top : ∃ t r, st = t :: r ∧ ∀ p ∈ P, leP p t
  last : st.getLast? = some s0
  low : ∀ p ∈ P, leP s0 p
  sub : ∀ s ∈ st, s ∈ P
/-- .. and over points that are. -/
def Same (P : List Pt) (s0 : Pt) (st : List Pt) : Prop := (∀ p ∈ P, p = s0) ∧ s0 ∈ P ∧ (st = [s0] ∨ st = [s0, s0])

theorem same_push {P : List Pt} {s0 : Pt} {st : List Pt} (h : Same P s0 st) {x : Pt} (hx : leP s0 x) : Same (x :: P) s0 (pushW st x) ∨ Good (x :: P) s0 (pushW st x) := by
  obtain ⟨h1, h2, h3⟩ := h
  have e0 : ∀ q, crossP s0 s0 q = 0 := fun q => by unfold crossP cross; grind
  have hp : pushW st x = [x, s0] := by
    rcases h3 with rfl | rfl
    · rfl
    · show x :: popW x [s0, s0] = _
      rw [popW, if_pos (by rw [e0]; omega)]; rfl
  rw [hp]
  rcases hx with rfl | hx
  · left
    exact ⟨fun p hp => by rcases List.mem_cons.1 hp with h | h; exact h; exact h1 p h, by simp, .inr rfl⟩
  · right
    refine ⟨⟨trivial, hx, fun p hp => ?_, fun e he => by cases he⟩, by simp, ⟨x, [s0], rfl, fun p hp => ?_⟩, rfl, fun p hp => ?_, fun s hs => ?_⟩
    · rcases List.mem_cons.1 hp with rfl | hp
      · exact .inr (onP_end _ _ (.inr hx))
      · rw [h1 p hp]; exact .inr (onP_start _ _)
    · rcases List.mem_cons.1 hp with rfl | hp
      · exact leP_refl _
      · rw [h1 p hp]; exact .inr hx
    · rcases List.mem_cons.1 hp with rfl | hp
      · exact .inr hx
      · rw [h1 p hp]; exact leP_refl _
    · rcases List.mem_cons.1 hs with rfl | hs
      · simp
      · have : s = s0 := by simpa using hs
        subst this; exact List.mem_cons_of_mem _ h2

theorem good_push {P : List Pt} {s0 : Pt} {st : List Pt} (h : Good P s0 st) {x : Pt} (hx : ∀ p ∈ P, leP p x) : Good (x :: P) s0 (pushW st x) := by
  obtain ⟨t, r, rfl, htop⟩ := h.top
  have fin : ∀ t' r', popW x (t :: r) = t' :: r' → Popped P x t' r' → (t' :: r') <:+ (t :: r) → Good (x :: P) s0 (pushW (t :: r) x) := by
    intro t' r' e hp hs
    have hl : (t' :: r').getLast? = some s0 := by
      obtain ⟨pre, hpre⟩ := hs
      have := h.last
      rw [← hpre, List.getLast?_append] at this
      cases e2 : (t' :: r').getLast? with
      | none => simp at e2
      | some y => rw [e2] at this; simpa using this
    have hin : ∀ s ∈ t' :: r', s ∈ P := fun s hs' => h.sub s (hs.subset hs')
    have hne : pushW (t :: r) x = x :: t' :: r' := by unfold pushW; rw [e]
    rw [hne]
    refine ⟨push_ok hp hin hx hl h.low, by simp, ⟨x, _, rfl, fun p hp' => ?_⟩, ?_, fun p hp' => ?_, fun s hs' => ?_⟩
    · rcases List.mem_cons.1 hp' with rfl | hp'
      · exact leP_refl _
      · exact hx p hp'
    · rw [List.getLast?_cons_cons]; exact hl
    · rcases List.mem_cons.1 hp' with rfl | hp'
      · exact leP_trans (h.low t' (hin t' (by simp))) (.inr hp.lt)
      · exact h.low p hp'
    · rcases List.mem_cons.1 hs' with rfl | hs'
      · simp
      · exact List.mem_cons_of_mem _ (hin s hs')
  rcases hx t (h.sub t (by simp)) with e | hlt
  · subst e
    cases r with
    | nil => have := h.two; simp at this
    | cons a r =>
      obtain ⟨h1, h2, h3, h4⟩ := h.chn
      obtain ⟨t', r', e, hp, hs⟩ := pop_ok hx a r h1 h2 (fun p hp _ => h3 p hp)
      refine fin t' r' ?_ hp (hs.trans (List.suffix_cons _ _))
      rw [popW, if_pos (by rw [show crossP a t t = 0 by unfold crossP cross; grind]; omega)]; exact e
  · obtain ⟨t', r', e, hp, hs⟩ := pop_ok hx t r h.chn hlt (fun p hp hle => by
      have : p = t := leP_anti (htop p hp) hle
      subst this; exact .inr (onP_start _ _))
    exact fin t' r' e hp hs

/-- The chain over sorted points. -/
theorem chain_ok : ∀ (l P : List Pt) (s0 : Pt) (st : List Pt), (Same P s0 st ∨ Good P s0 st) → (∀ p ∈ P, ∀ x ∈ l, leP p x) → l.Pairwise leP → s0 ∈ P →
    ∃ Q, (∀ p, p ∈ Q ↔ p ∈ P ∨ p ∈ l) ∧ (Same Q s0 (l.foldl pushW st) ∨ Good Q s0 (l.foldl pushW st))
  | [], P, s0, st, h, _, _, _ => ⟨P, by simp, h⟩
  | x :: l, P, s0, st, h, hle, hs, h0 => by
    obtain ⟨h1, h2⟩ := List.pairwise_cons.1 hs
    have step : Same (x :: P) s0 (pushW st x) ∨ Good (x :: P) s0 (pushW st x) := by
      rcases h with h | h
      · exact same_push h (hle s0 h0 x (by simp))
      · exact .inr (good_push h (fun p hp => hle p hp x (by simp)))
    obtain ⟨Q, hQ, hr⟩ := chain_ok l (x :: P) s0 (pushW st x) step (fun p hp y hy => by
      rcases List.mem_cons.1 hp with rfl | hp
      · exact h1 y hy
      · exact hle p hp y (List.mem_cons_of_mem _ hy)) h2 (List.mem_cons_of_mem _ h0)
    refine ⟨Q, fun p => ?_, hr⟩
    rw [hQ]; simp only [List.mem_cons]
    constructor
    · rintro ((h | h) | h)
      · exact .inr (.inl h)
      · exact .inl h
      · exact .inr (.inr h)
    · rintro (h | h | h)
      · exact .inl (.inr h)
      · exact .inl (.inl h)
      · exact .inr h

end Go.Proofs.Ytlmdmgbhfoehgaa
