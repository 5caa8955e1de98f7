/- Parts of the proof, one after the other: PtRow, NestBox, HullMath, HullSpec, HullWrap, RefWhere, WhereTop, DevBeyond, ApartTop, RefApart, DevChain. -/
import Derived.Test.YthbekbfhpedghaaNd1
import Derived.Test.YthbekbfhpedghaaNd2
import Derived.Laws.MakeOwn
import Derived.Deep.AppendLies
/- A row of points that a function makes: its cells; points that are moved. -/
namespace Go.Proofs.Ythbekbfhpedghaa
open Go.RowKit Go.Sort
attribute [local go_sem ↓] run_min_mn run_max_mx

/-- A block that holds a list of points, and nothing else. -/
def PtBlk (w : World) (g : Nat) (l : List Pt) : Prop := w.heap[g]? = some (.cells (ptsV l).toArray 37 (0, 0))
section
variable {w w' : World} {g : Nat} {l : List Pt}
theorem PtBlk.lt (h : PtBlk w g l) : g < w.heap.size := (Array.getElem?_eq_some_iff.1 h).1
theorem PtBlk.same (h : PtBlk w g l) (e : w'.heap[g]? = w.heap[g]?) : PtBlk w' g l := e.trans h
theorem PtBlk.cells (h : PtBlk w g l) (j : Nat) : w.cell? ⟨g, j, none⟩ = (ptsV l)[j]? := by
  rw [cell_of_row w g j _ 37 (0, 0) h]; simp
theorem PtBlk.cell (h : PtBlk w g l) {i : Nat} {p : Pt} (hp : l[i]? = some p) : w.cell? ⟨g, i * 2, none⟩ = some (.int .i64 p.1) ∧ w.cell? ⟨g, i * 2 + 1, none⟩ = some (.int .i64 p.2) := by
  obtain ⟨h1, h2⟩ := ptsV_get l i p hp
  exact ⟨(h.cells _).trans h1, (h.cells _).trans h2⟩
theorem PtBlk.frozen (h : PtBlk w g l) (i : Nat) : w.frozen? ⟨g, i, none⟩ = false := by simp [World.frozen?, show w.heap[g]? = _ from h]
theorem PtBlk.pts (h : PtBlk w g l) : PtsIn w g 0 l := fun i p hp => by
  obtain ⟨h1, h2⟩ := h.cell hp
  exact ⟨by rw [Nat.zero_add]; exact h1, by rw [Nat.zero_add]; exact h2⟩
theorem PtBlk.below {B : Nat} (h : PtBlk w g l) (hb : Below B w w') (hg : g < B) : PtBlk w' g l := h.same (hb.block g hg)
theorem PtBlk.alloc (h : PtBlk w g l) (o : Obj) : PtBlk (w.alloc o) g l := h.same (Below.heap_alloc w o g h.lt)
theorem ptsV_set : ∀ (l : List Pt) (i : Nat) (x y : Int), ((ptsV l).set (i * 2) (.int .i64 x)).set (i * 2 + 1) (.int .i64 y) = ptsV (l.set i (x, y))
  | [], _, _, _ => rfl
  | p :: l, 0, x, y => rfl
  | p :: l, i + 1, x, y => by
    have e : (i + 1) * 2 = i * 2 + 1 + 1 := by omega
    rw [e]
    simp only [ptsV, List.set_cons_succ, ptsV_set l i x y]
theorem PtBlk.set (h : PtBlk w g l) (i : Nat) (x y : Int) : PtBlk ((w.setCell ⟨g, i * 2, none⟩ (.int .i64 x)).setCell ⟨g, i * 2 + 1, none⟩ (.int .i64 y)) g (l.set i (x, y)) := by
  have e : w.heap[g]? = _ := h
  unfold PtBlk
  rw [← ptsV_set]
  simp [World.setCell, Array.getElem?_modify, e]
theorem PtBlk.far (h : PtBlk w g l) {p : Addr} (hp : g ≠ p.block) (u : Value) : PtBlk (w.setCell p u) g l := h.same (Below.heap_setCell w p u g hp)
end

/-- Points that a function gives. -/
def ptF (n : Nat) (f : Nat → Pt) : List Pt := (List.range n).map f
theorem ptF_length (n : Nat) (f : Nat → Pt) : (ptF n f).length = n := by simp [ptF]
theorem ptF_set (n : Nat) (f : Nat → Pt) (t : Nat) (v : Pt) : (ptF n f).set t v = ptF n (fun u => if u = t then v else f u) := by
  apply List.ext_getElem
  · simp [ptF]
  · intro i h1 h2
    rw [List.getElem_set]
    simp only [ptF, List.getElem_map, List.getElem_range]
    by_cases e : t = i
    · subst e; simp
    · rw [if_neg e, if_neg (fun h => e h.symm)]
theorem ptF_congr {n : Nat} {f g : Nat → Pt} (h : ∀ i, i < n → f i = g i) : ptF n f = ptF n g := List.map_congr_left fun i hi => h i (List.mem_range.1 hi)
theorem ptF_get {n : Nat} {f : Nat → Pt} {i : Nat} (h : i < n) : (ptF n f)[i]? = some (f i) := by simp [ptF, h]

theorem made_pts (m : Nat) : madeCells #[Value.int .i64 0, Value.int .i64 0] (m * 2) = (ptsV (ptF m fun _ => (0, 0))).toArray := by
  apply Array.ext'
  rw [List.toList_toArray]
  have e : ptsV (ptF m fun _ => (0, 0)) = List.replicate (m * 2) (Value.int .i64 0) := by
    induction m with
    | zero => rfl
    | succ m ih =>
      have : ptF (m + 1) (fun _ => ((0, 0) : Pt)) = ptF m (fun _ => (0, 0)) ++ [(0, 0)] := by simp [ptF, List.range_succ]
      rw [this, ptsV_append, ih, show (m + 1) * 2 = m * 2 + 1 + 1 by omega, List.replicate_succ', List.replicate_succ']
      simp [ptsV]
  rw [e]
  apply List.ext_getElem
  · simp [madeCells]
  · intro i h1 h2
    simp only [madeCells, Array.toList_map, Array.toList_range, List.getElem_map, List.getElem_range, List.getElem_replicate]
    have : i % (#[Value.int .i64 0, Value.int .i64 0] : Array Value).size < 2 := Nat.mod_lt _ (by decide)
    generalize i % (#[Value.int .i64 0, Value.int .i64 0] : Array Value).size = r at this
    match r, this with
    | 0, _ => rfl
    | 1, _ => rfl

/-- make([]api.Point, n). -/
theorem make_pts (m : Nat) (hm : m ≤ 1000001) (W : World) : (Instr.makeSlice 24 (.int .i64 (m : Int)) (.int .i64 (m : Int))).run Try.prog W =
    .ok (.slice (some ⟨W.heap.size, 0, none⟩) m m) (W.alloc (.cells (ptsV (ptF m fun _ => (0, 0))).toArray 37)) := by
  obtain ⟨i0, hi0, hz0, hz1, hz2⟩ := info_pparts info_pt
  have h := run_makeSlice (P := Try.prog) W 24 37 i0 _ Try.underlying24 hi0 hz0 .i64 .i64 (m : Int) (m : Int) (by omega) (Int.le_refl _) (by rw [hz1]; omega) (by rw [hz2]; omega) (by omega)
  rw [h, hz1, Int.toNat_natCast]
  rw [show (Value.agg #[Value.int .i64 0, Value.int .i64 0]).cells = #[Value.int .i64 0, Value.int .i64 0] from rfl, made_pts]

def addP (p q : Pt) : Pt := (p.1 + q.1, p.2 + q.2)
def movedL (l : List Pt) (v : Pt) : List Pt := l.map fun p => addP p v
theorem movedL_length (l : List Pt) (v : Pt) : (movedL l v).length = l.length := by simp [movedL]
theorem movedL_F (l : List Pt) (v : Pt) : movedL l v = ptF l.length fun i => addP (gt l i) v := by
  apply List.ext_getElem
  · simp [movedL, ptF]
  · intro i h1 h2
    have : i < l.length := by simpa [movedL] using h1
    simp [movedL, ptF, gt, List.getD, this]

theorem plus_any (ax ay bx by' : Int) (w : World) (h1 : -200000 ≤ ax ∧ ax ≤ 200000) (h2 : -200000 ≤ ay ∧ ay ≤ 200000) (h3 : -200000 ≤ bx ∧ bx ≤ 200000) (h4 : -200000 ≤ by' ∧ by' ≤ 200000) :
    Calls Try.prog 51 #[.agg #[.int .i64 ax, .int .i64 ay], .agg #[.int .i64 bx, .int .i64 by']] w fun e w' =>
      e = .returned (.agg #[.int .i64 (ax + bx), .int .i64 (ay + by')]) ∧ Below w.heap.size w w' := by
  go_enter Try.func51, Try.ntmps51
  go_wp2
  go_returns
  exact ⟨rfl, by go_grown⟩

def MovedTo (l : List Pt) (w : World) (n : Nat) (e : Ending) (w' : World) : Prop :=
  ∃ g : Nat, e = .returned (.slice (some ⟨g, 0, none⟩) n n) ∧ w.heap.size ≤ g ∧ PtBlk w' g l ∧ Below w.heap.size w w'

set_option maxRecDepth 100000 in
set_option maxHeartbeats 2000000 in
theorem moved_any (b off n c : Nat) (l : List Pt) (v : Pt) (w : World) (hl : l.length = n) (hn' : n ≤ 100) (h : PtsIn w b off l) (hb : b < w.heap.size) (hbd : ∀ i, Bd (gt l i)) (hv : Bd v) :
    Calls Try.prog 31 #[.slice (some ⟨b, off, none⟩) n c, .agg #[.int .i64 v.1, .int .i64 v.2]] w (MovedTo (movedL l v) w n) := by
  have HL := Lib.hid hl
  have HP := Lib.hid h
  have HBD := Lib.hid hbd
  have hmk := make_pts n (by omega)
  have HM : Hid (movedL l v = ptF n fun i => addP (gt l i) v) := Lib.hid (by rw [← hl]; exact movedL_F l v)
  obtain ⟨vx, vy⟩ := v
  obtain ⟨hv1, hv2⟩ := hv
  clear hl h hbd
  go_enter Try.func31, Try.ntmps31
  go_upto_region 1 with (fail)
  have B : PtAt (w.alloc (bx vx vy)) w.heap.size vx vy := PtAt.new
  have hb0 : Below w.heap.size w (w.alloc (bx vx vy)) := (Below.refl _ _).alloc (Nat.le_refl _) _
  have hz0 : (w.alloc (bx vx vy)).heap.size = w.heap.size + 1 := by simp
  generalize w.alloc (bx vx vy) = w0 at *
  generalize hgg : w.heap.size = gg at *
  go_wp2_with fail
  have R0 : PtBlk (w0.alloc (.cells (ptsV (ptF n fun _ => (0, 0))).toArray 37)) w0.heap.size (ptF n fun _ => (0, 0)) := heap_alloc_new _ _
  have hb1 : Below w0.heap.size w0 (w0.alloc (.cells (ptsV (ptF n fun _ => (0, 0))).toArray 37)) := (Below.refl _ _).alloc (Nat.le_refl _) _
  have hz1 : (w0.alloc (.cells (ptsV (ptF n fun _ => (0, 0))).toArray 37)).heap.size = gg + 2 := by simp; omega
  generalize w0.alloc (.cells (ptsV (ptF n fun _ => (0, 0))).toArray 37) = w1 at *
  rw [hz0] at R0 hb1
  have hb2 : Below gg w w1 := hb0.trans (hb1.mono (by omega))
  have B1 : PtAt w1 gg vx vy := PtAt.below hb1 (by omega) B
  clear hb0 hb1 B hmk
  go_loopw [13] (fun i wr => ∃ k : Nat, k ≤ n ∧ i = .int .i64 k ∧ PtBlk wr (gg + 1) (ptF n fun u => if u < k then addP (gt l u) (vx, vy) else (0, 0)) ∧ PtAt wr gg vx vy ∧ Below gg w wr ∧ gg + 2 ≤ wr.heap.size) (fun i _ => n - (intOf i).toNat)
  case atStart => exact ⟨0, Nat.zero_le _, rfl, by simpa using R0, B1, hb2, by omega⟩
  case round =>
    clear R0 B1 hb2
    obtain ⟨k, hk, rfl, hR, ⟨p1, p2⟩, hbw, hgr⟩ := hrel
    have HR := Lib.hid hR
    clear hR
    by_cases hlt : k < n
    · obtain ⟨h1, h2⟩ := (HP.out.below hbw hb) k (gt l k) (by unfold gt; rw [List.getD_eq_getElem?_getD, List.getElem?_eq_getElem (by rw [HL.out]; exact hlt)]; rfl)
      have hB : b < wr.heap.size := by omega
      have hg1 : gg < wr.heap.size := by omega
      have hg2 : gg + 1 < wr.heap.size := by omega
      obtain ⟨d1, d2⟩ := HBD.out k
      have HN : Hid (∀ W, PtBlk W (gg + 1) ((ptF n fun u => if u < k then addP (gt l u) (vx, vy) else (0, 0)).set k (addP (gt l k) (vx, vy))) → PtBlk W (gg + 1) (ptF n fun u => if u < k + 1 then addP (gt l u) (vx, vy) else (0, 0))) := Lib.hid fun W hW => by
        rw [ptF_set] at hW
        rw [ptF_congr (g := fun u => if u = k then addP (gt l k) (vx, vy) else if u < k then addP (gt l u) (vx, vy) else (0, 0))]
        · exact hW
        · intro i hi
          by_cases e : i = k
          · subst e; simp
          · rw [if_neg e]
            by_cases e2 : i < k
            · rw [if_pos e2, if_pos (by omega)]
            · rw [if_neg e2, if_neg (by omega)]
      generalize hp : gt l k = p at *
      obtain ⟨x, y⟩ := p
      have PL := fun W => Lib.hid (plus_any x y vx vy W (by simp only at d1; omega) (by simp only at d2; omega) (by omega) (by omega))
      clear hp d1 d2
      go_wp2_with fail
      have hb1 : Below wr.heap.size wr (wr.alloc (bx x y)) := (Below.refl _ _).alloc (Nat.le_refl _) _
      refine ((PL _).out).mono ?_
      rintro e w2 ⟨rfl, hb2⟩
      have hb3 := hb1.trans (hb2.mono hb1.size)
      have hbw3 := hbw.trans (hb3.mono (by omega))
      have R2 := HR.out.below hb3 (by omega)
      obtain ⟨p1, p2⟩ := PtAt.below hb3 (by omega) ⟨p1, p2⟩
      obtain ⟨c1, c2⟩ := R2.cell (i := k) (ptF_get hlt)
      have f1 := R2.frozen (k * 2)
      have f2 := R2.frozen (k * 2 + 1)
      have hsz := hb3.size
      have HR2 := Lib.hid R2
      clear hb1 hb2 R2
      go_wp2_with fail
      go_roundw
      case rel => exact ⟨k + 1, by omega, by go_num, HN.out _ (HR2.out.set k _ _), PtAt.set_far (by simp) (PtAt.set_far (by simp) ⟨p1, p2⟩), (hbw3.setCell (by simp) _).setCell (by simp) _, by simp; omega⟩
      case measure => simp [intOf]; omega
    · obtain rfl : k = n := by omega
      have HF : Hid (PtBlk wr (gg + 1) (movedL l (vx, vy))) := Lib.hid (by
        rw [HM.out]
        have := HR.out
        rw [ptF_congr (g := fun i => addP (gt l i) (vx, vy)) (fun i hi => by rw [if_pos hi])] at this
        exact this)
      go_wp2_with fail
      go_ret
      exact ⟨gg + 1, rfl, by omega, HF.out, by rw [hgg]; exact hbw⟩
end Go.Proofs.Ythbekbfhpedghaa

/- Boxes about points. -/
namespace Go.Proofs.Ythbekbfhpedghaa

/-- The box of the first k points. -/
def boxTo (l : List Pt) : Nat → Pt × Pt
  | 0 => (gt l 0, gt l 0)
  | k + 1 => ((mn (boxTo l k).1.1 (gt l k).1, mn (boxTo l k).1.2 (gt l k).2), (mx (boxTo l k).2.1 (gt l k).1, mx (boxTo l k).2.2 (gt l k).2))
def lowL (l : List Pt) : Pt := (boxTo l l.length).1
def highL (l : List Pt) : Pt := (boxTo l l.length).2

theorem boxTo_in (l : List Pt) : ∀ k i, i < k → ((boxTo l k).1.1 ≤ (gt l i).1 ∧ (gt l i).1 ≤ (boxTo l k).2.1) ∧ ((boxTo l k).1.2 ≤ (gt l i).2 ∧ (gt l i).2 ≤ (boxTo l k).2.2)
  | 0, i, h => absurd h (Nat.not_lt_zero _)
  | k + 1, i, h => by
    simp only [boxTo, mn, mx]
    rcases Nat.lt_or_eq_of_le (Nat.le_of_lt_succ h) with h' | rfl
    · have := boxTo_in l k i h'
      constructor <;> constructor <;> split <;> omega
    · constructor <;> constructor <;> split <;> omega
theorem boxTo_bd {L : Int} {l : List Pt} (hl : ∀ i, (-L ≤ (gt l i).1 ∧ (gt l i).1 ≤ L) ∧ (-L ≤ (gt l i).2 ∧ (gt l i).2 ≤ L)) : ∀ k, ((-L ≤ (boxTo l k).1.1 ∧ (boxTo l k).1.1 ≤ L) ∧ (-L ≤ (boxTo l k).1.2 ∧ (boxTo l k).1.2 ≤ L)) ∧
    ((-L ≤ (boxTo l k).2.1 ∧ (boxTo l k).2.1 ≤ L) ∧ (-L ≤ (boxTo l k).2.2 ∧ (boxTo l k).2.2 ≤ L))
  | 0 => ⟨hl 0, hl 0⟩
  | k + 1 => by
    have h1 := boxTo_bd hl k
    have h2 := hl k
    simp only [boxTo, mn, mx]
    refine ⟨⟨?_, ?_⟩, ?_, ?_⟩ <;> constructor <;> split <;> omega
theorem box_in {l : List Pt} {p : Pt} (h : p ∈ l) : ((lowL l).1 ≤ p.1 ∧ p.1 ≤ (highL l).1) ∧ ((lowL l).2 ≤ p.2 ∧ p.2 ≤ (highL l).2) := by
  obtain ⟨i, hi⟩ := List.getElem?_of_mem h
  have := boxTo_in l l.length i (List.getElem?_eq_some_iff.1 hi).1
  have e : gt l i = p := by unfold gt; rw [List.getD_eq_getElem?_getD, hi]; rfl
  rwa [e] at this

end Go.Proofs.Ythbekbfhpedghaa

/- Plain mathematics of convex hulls: the monotone chain. -/
namespace Go.Proofs.Ythbekbfhpedghaa

/-- The cross product of two vectors. -/
def xr (u v : Pt) : Int := u.1 * v.2 - v.1 * u.2
def subP (a b : Pt) : Pt := (a.1 - b.1, a.2 - b.2)
/-- Upward, or to the right. -/
def Up (v : Pt) : Prop := 0 < v.2 ∨ (v.2 = 0 ∧ 0 < v.1)
/-- From below, then from the left. -/
def ltP (a b : Pt) : Prop := a.2 < b.2 ∨ (a.2 = b.2 ∧ a.1 < b.1)
def leP (a b : Pt) : Prop := a = b ∨ ltP a b

theorem up_sub {a b : Pt} : Up (subP b a) ↔ ltP a b := by unfold Up subP ltP; simp only; omega
theorem ltP_trans {a b c : Pt} (h : ltP a b) (k : ltP b c) : ltP a c := by unfold ltP at *; omega
theorem ltP_irrefl (a : Pt) : ¬ ltP a a := by unfold ltP; omega
theorem ltP_asymm {a b : Pt} (h : ltP a b) : ¬ ltP b a := by unfold ltP at *; omega
theorem leP_trans {a b c : Pt} (h : leP a b) (k : leP b c) : leP a c := by
  rcases h with rfl | h
  · exact k
  · rcases k with rfl | k
    · exact .inr h
    · exact .inr (ltP_trans h k)
theorem leP_refl (a : Pt) : leP a a := .inl rfl
theorem ltP_leP {a b c : Pt} (h : ltP a b) (k : leP b c) : ltP a c := by
  rcases k with rfl | k
  · exact h
  · exact ltP_trans h k
theorem leP_ltP {a b c : Pt} (h : leP a b) (k : ltP b c) : ltP a c := by
  rcases h with rfl | h
  · exact k
  · exact ltP_trans h k
theorem leP_total (a b : Pt) : leP a b ∨ ltP b a := by
  obtain ⟨x, y⟩ := a
  obtain ⟨u, v⟩ := b
  unfold leP ltP
  simp only [Prod.mk.injEq]
  omega
theorem leP_anti {a b : Pt} (h : leP a b) (k : leP b a) : a = b := by
  rcases h with h | h
  · exact h
  · rcases k with k | k
    · exact k.symm
    · exact absurd k (ltP_asymm h)

theorem nonneg_of_mul {v z s : Int} (hv : 0 < v) (h : v * z = s) (hs : 0 ≤ s) : 0 ≤ z := by
  rcases Int.lt_or_le z 0 with g | g
  · have := Int.mul_neg_of_pos_of_neg hv g; omega
  · exact g
theorem pos_of_mul {v z s : Int} (hv : 0 < v) (h : v * z = s) (hs : 0 < s) : 0 < z := by
  rcases Int.lt_or_le 0 z with g | g
  · exact g
  · have := Int.mul_nonpos_of_nonneg_of_nonpos (Int.le_of_lt hv) g; omega
theorem up_y {u : Pt} (h : Up u) : 0 ≤ u.2 := by unfold Up at h; omega

/-- In the upper half plane the angles are ordered. -/
theorem xr_trans {u v w : Pt} (hu : Up u) (hv : Up v) (hw : Up w) (h : 0 ≤ xr u v) (k : 0 ≤ xr v w) : 0 ≤ xr u w := by
  have e : v.2 * xr u w = w.2 * xr u v + u.2 * xr v w := by unfold xr; grind
  have a1 := Int.mul_nonneg (up_y hw) h
  have a2 := Int.mul_nonneg (up_y hu) k
  rcases hv with g | ⟨g, g'⟩
  · exact nonneg_of_mul g e (by omega)
  · have e2 : xr u v = - (v.1 * u.2) := by unfold xr; rw [g]; grind
    have e3 : xr v w = v.1 * w.2 := by unfold xr; rw [g]; grind
    have u0 : u.2 = 0 := by
      rcases Int.lt_or_le 0 u.2 with q | q
      · have := Int.mul_pos g' q; omega
      · have := up_y hu; omega
    have e4 : xr u w = u.1 * w.2 := by unfold xr; rw [u0]; grind
    have hu1 : 0 < u.1 := by unfold Up at hu; omega
    rw [e4]
    exact Int.mul_nonneg (Int.le_of_lt hu1) (up_y hw)
theorem xr_trans1 {u v w : Pt} (hu : Up u) (hv : Up v) (hw : Up w) (h : 0 < xr u v) (k : 0 ≤ xr v w) : 0 < xr u w := by
  have e : v.2 * xr u w = w.2 * xr u v + u.2 * xr v w := by unfold xr; grind
  have hv2 : 0 < v.2 := by
    rcases hv with g | ⟨g, g'⟩
    · exact g
    · have e2 : xr u v = - (v.1 * u.2) := by unfold xr; rw [g]; grind
      have := Int.mul_nonneg (Int.le_of_lt g') (up_y hu)
      omega
  have hw2 : 0 < w.2 := by
    rcases hw with g | ⟨g, g'⟩
    · exact g
    · have e2 : xr v w = - (w.1 * v.2) := by unfold xr; rw [g]; grind
      have := Int.mul_pos g' hv2
      omega
  have a1 := Int.mul_pos hw2 h
  have a2 := Int.mul_nonneg (up_y hu) k
  exact pos_of_mul hv2 e (by omega)
theorem xr_trans2 {u v w : Pt} (hu : Up u) (hv : Up v) (hw : Up w) (h : 0 ≤ xr u v) (k : 0 < xr v w) : 0 < xr u w := by
  have e : v.2 * xr u w = w.2 * xr u v + u.2 * xr v w := by unfold xr; grind
  have hw2 : 0 < w.2 := by
    rcases hw with g | ⟨g, g'⟩
    · exact g
    · have e2 : xr v w = - (w.1 * v.2) := by unfold xr; rw [g]; grind
      have := Int.mul_nonneg (Int.le_of_lt g') (up_y hv)
      omega
  rcases hv with g | ⟨g, g'⟩
  · rcases hu with q | ⟨q, q'⟩
    · have a1 := Int.mul_nonneg (up_y (.inl hw2)) h
      have a2 := Int.mul_pos q k
      exact pos_of_mul g e (by omega)
    · have e2 : xr u v = u.1 * v.2 := by unfold xr; rw [q]; grind
      have e3 : xr u w = u.1 * w.2 := by unfold xr; rw [q]; grind
      rw [e3]; exact Int.mul_pos q' hw2
  · have e2 : xr u v = - (v.1 * u.2) := by unfold xr; rw [g]; grind
    have u0 : u.2 = 0 := by
      rcases Int.lt_or_le 0 u.2 with q | q
      · have := Int.mul_pos g' q; omega
      · have := up_y hu; omega
    have e4 : xr u w = u.1 * w.2 := by unfold xr; rw [u0]; grind
    have hu1 : 0 < u.1 := by unfold Up at hu; omega
    rw [e4]; exact Int.mul_pos hu1 hw2

theorem crossP_xr (a b c : Pt) : crossP a b c = xr (subP b a) (subP c a) := by unfold crossP cross xr subP; grind
theorem crossP_xr2 (a b c : Pt) : crossP a b c = xr (subP b a) (subP c b) := by unfold crossP cross xr subP; grind

/-- A point is to the left of an edge, or on it. -/
def LeftOn (a b p : Pt) : Prop := 0 < crossP a b p ∨ onP a b p = true
theorem onP_cross {a b p : Pt} (h : onP a b p = true) : crossP a b p = 0 := by
  unfold onP onB at h
  simp only [Bool.and_eq_true, beq_iff_eq] at h
  exact h.1.1
theorem LeftOn.nonneg {a b p : Pt} (h : LeftOn a b p) : 0 ≤ crossP a b p := by
  rcases h with h | h
  · omega
  · rw [onP_cross h]; omega
/-- On a line, what lies between in the order lies between. -/
theorem on_of_between {a b p : Pt} (h : crossP a b p = 0) (h1 : leP a p) (h2 : leP p b) : onP a b p = true := by
  obtain ⟨ax, ay⟩ := a
  obtain ⟨bx, by'⟩ := b
  obtain ⟨px, py⟩ := p
  rcases h1 with e | h1
  · rw [← e]; exact onP_start _ _
  · rcases h2 with e | h2
    · rw [e]
      have := (on_iff ax ay (bx - ax) (by' - ay) (bx - ax) (by' - ay)).2 ⟨by unfold al; grind, by unfold btw; omega, by unfold btw; omega⟩
      rw [show ax + (bx - ax) = bx by omega, show ay + (by' - ay) = by' by omega] at this
      exact this
    · have hc : (bx - ax) * (py - ay) = (px - ax) * (by' - ay) := by unfold crossP cross at h; simp only at h; omega
      have key := (on_iff ax ay (bx - ax) (by' - ay) (px - ax) (py - ay))
      rw [show ax + (bx - ax) = bx by omega, show ay + (by' - ay) = by' by omega, show ax + (px - ax) = px by omega, show ay + (py - ay) = py by omega] at key
      refine key.2 ⟨by unfold al; omega, ?_⟩
      unfold ltP at h1 h2
      simp only at h1 h2
      have hy : btw (py - ay) (by' - ay) := by unfold btw; omega
      by_cases e : by' - ay = 0
      · refine ⟨?_, hy⟩
        unfold btw; omega
      · exact ⟨btw_dim e (by rw [Int.mul_comm, ← hc, Int.mul_comm]) hy, hy⟩


theorem onP_end (a b : Pt) (h : leP a b) : onP a b b = true := on_of_between (by unfold crossP cross; grind) h (leP_refl b)

/-- The edges of a chain whose last point stands first. -/
def edges : List Pt → List (Pt × Pt)
  | b :: a :: r => (a, b) :: edges (a :: r)
  | _ => []
def EdgeOK (P : List Pt) (a b : Pt) : Prop := ∀ p ∈ P, LeftOn a b p
def vec (e : Pt × Pt) : Pt := subP e.2 e.1
def Chn (P : List Pt) : List Pt → Prop
  | b :: a :: r => Chn P (a :: r) ∧ ltP a b ∧ EdgeOK P a b ∧ ∀ e ∈ edges (a :: r), 0 < xr (vec e) (subP b a)
  | _ => True
def popW (x : Pt) : List Pt → List Pt
  | b :: a :: r => if crossP a b x ≤ 0 then popW x (a :: r) else b :: a :: r
  | l => l
def pushW (st : List Pt) (x : Pt) : List Pt := x :: popW x st
def chainW (l : List Pt) : List Pt := l.foldl pushW []

theorem chn_edges {P : List Pt} : ∀ {st : List Pt}, Chn P st → ∀ e ∈ edges st, ltP e.1 e.2 ∧ EdgeOK P e.1 e.2
  | [], _, _, h => by cases h
  | [_], _, _, h => by cases h
  | b :: a :: r, hc, e, h => by
    obtain ⟨h1, h2, h3, _⟩ := hc
    rcases List.mem_cons.1 h with rfl | h
    · exact ⟨h2, h3⟩
    · exact chn_edges h1 e h
theorem chn_more {P : List Pt} {x : Pt} : ∀ {st : List Pt}, Chn P st → (∀ e ∈ edges st, LeftOn e.1 e.2 x) → Chn (x :: P) st
  | [], _, _ => trivial
  | [_], _, _ => trivial
  | b :: a :: r, hc, h => by
    obtain ⟨h1, h2, h3, h4⟩ := hc
    refine ⟨chn_more h1 (fun e he => h e (List.mem_cons_of_mem _ he)), h2, fun p hp => ?_, h4⟩
    rcases List.mem_cons.1 hp with rfl | hp
    · exact h (a, b) (List.mem_cons_self)
    · exact h3 p hp
theorem edges_mem : ∀ {st : List Pt} {e : Pt × Pt}, e ∈ edges st → e.1 ∈ st ∧ e.2 ∈ st
  | [], _, h => by cases h
  | [_], _, h => by cases h
  | b :: a :: r, e, h => by
    rcases List.mem_cons.1 h with rfl | h
    · exact ⟨by simp, by simp⟩
    · obtain ⟨h1, h2⟩ := edges_mem h
      exact ⟨List.mem_cons_of_mem _ h1, List.mem_cons_of_mem _ h2⟩

theorem q_step {P : List Pt} {a t x : Pt} (h1 : ltP a t) (h2 : ltP t x) (hx : ∀ p ∈ P, leP p x) (hc : crossP a t x ≤ 0) (he : EdgeOK P a t) (hq : ∀ p ∈ P, leP t p → LeftOn t x p) :
    ∀ p ∈ P, leP a p → LeftOn a x p := by
  intro p hp hap
  have hax := ltP_trans h1 h2
  have hpx := hx p hp
  have hA : Up (subP t a) := up_sub.2 h1
  have hB : Up (subP x t) := up_sub.2 h2
  have hAB : Up (subP x a) := up_sub.2 hax
  have hBA : 0 ≤ xr (subP x t) (subP t a) := by
    have : crossP a t x = - xr (subP x t) (subP t a) := by unfold crossP cross xr subP; grind
    omega
  have key : 0 ≤ crossP a x p := by
    rcases leP_total t p with g | g
    · rcases hpx with rfl | hpx
      · rw [show crossP a p p = 0 by unfold crossP cross; grind]; omega
      · have hD : Up (subP x p) := up_sub.2 hpx
        have k1 := (hq p hp g).nonneg
        have e1 : crossP t x p = xr (subP x p) (subP x t) := by unfold crossP cross xr subP; grind
        have e2 : crossP a x p = xr (subP x p) (subP t a) + xr (subP x p) (subP x t) := by unfold crossP cross xr subP; grind
        have := xr_trans hD hB hA (by omega) hBA
        omega
    · have k1 := (he p hp).nonneg
      rcases hap with rfl | hap
      · rw [show crossP a x a = 0 by unfold crossP cross; grind]; omega
      · have hC : Up (subP p a) := up_sub.2 hap
        have e1 : crossP a t p = xr (subP t a) (subP p a) := crossP_xr a t p
        have e2 : xr (subP x a) (subP t a) = xr (subP x t) (subP t a) := by unfold xr subP; grind
        rw [crossP_xr]
        exact xr_trans hAB hA hC (by omega) (by omega)
  rcases Int.lt_or_eq_of_le key with g | g
  · exact .inl g
  · exact .inr (on_of_between g.symm hap hpx)

/-- What popping leaves. -/
structure Popped (P : List Pt) (x : Pt) (t : Pt) (r : List Pt) : Prop where
  chn : Chn P (t :: r)
  lt : ltP t x
  q : ∀ p ∈ P, leP t p → LeftOn t x p
  turn : ∀ a r', r = a :: r' → 0 < crossP a t x

theorem pop_ok {P : List Pt} {x : Pt} (hx : ∀ p ∈ P, leP p x) : ∀ (t : Pt) (r : List Pt), Chn P (t :: r) → ltP t x → (∀ p ∈ P, leP t p → LeftOn t x p) →
    ∃ t' r', popW x (t :: r) = t' :: r' ∧ Popped P x t' r' ∧ (t' :: r') <:+ (t :: r)
  | t, [], hc, hl, hq => ⟨t, [], rfl, ⟨hc, hl, hq, fun _ _ h => by cases h⟩, List.suffix_refl _⟩
  | t, a :: r, hc, hl, hq => by
    by_cases h : crossP a t x ≤ 0
    · obtain ⟨h1, h2, h3, h4⟩ := hc
      obtain ⟨t', r', e, hp, hs⟩ := pop_ok hx a r h1 (ltP_trans h2 hl) (q_step h2 hl hx h h3 hq)
      refine ⟨t', r', ?_, hp, hs.trans (List.suffix_cons _ _)⟩
      rw [popW, if_pos h]; exact e
    · refine ⟨t, a :: r, ?_, ⟨hc, hl, hq, fun a' r' e => ?_⟩, List.suffix_refl _⟩
      · rw [popW, if_neg h]
      · obtain ⟨rfl, rfl⟩ : a = a' ∧ r = r' := by simpa using e
        omega

theorem push_ok {P : List Pt} {x s0 t : Pt} {r : List Pt} (h : Popped P x t r) (hin : ∀ s ∈ t :: r, s ∈ P) (hx : ∀ p ∈ P, leP p x) (hlast : (t :: r).getLast? = some s0) (hlow : ∀ p ∈ P, leP s0 p) :
    Chn (x :: P) (x :: t :: r) := by
  have hB : Up (subP x t) := up_sub.2 h.lt
  have turns : ∀ e ∈ edges (t :: r), 0 < xr (vec e) (subP x t) := by
    intro e he
    cases r with
    | nil => cases he
    | cons a r =>
      have ht := h.turn a r rfl
      obtain ⟨h1, h2, h3, h4⟩ := h.chn
      have e0 : crossP a t x = xr (subP t a) (subP x t) := crossP_xr2 a t x
      rcases List.mem_cons.1 he with rfl | he
      · show 0 < xr (subP t a) (subP x t); omega
      · have hv : Up (vec e) := up_sub.2 (chn_edges h1 e he).1
        exact xr_trans1 hv (up_sub.2 h2) hB (h4 e he) (by omega)
  have old : ∀ e ∈ edges (t :: r), LeftOn e.1 e.2 x := by
    intro e he
    left
    have k1 := ((chn_edges h.chn e he).2 t (hin t (by simp))).nonneg
    have k2 := turns e he
    have e0 : crossP e.1 e.2 x = crossP e.1 e.2 t + xr (vec e) (subP x t) := by unfold crossP cross xr vec subP; grind
    omega
  refine ⟨chn_more h.chn old, h.lt, fun p hp => ?_, turns⟩
  rcases List.mem_cons.1 hp with rfl | hp
  · exact .inr (onP_end _ _ (.inr h.lt))
  · rcases leP_total t p with g | g
    · exact h.q p hp g
    · left
      cases r with
      | nil =>
        obtain rfl : t = s0 := by simpa using hlast
        exact absurd (leP_ltP (hlow p hp) g) (ltP_irrefl _)
      | cons a r =>
        have ht := h.turn a r rfl
        obtain ⟨h1, h2, h3, h4⟩ := h.chn
        have k1 := (h3 p hp).nonneg
        have e1 : crossP a t p = xr (subP t p) (subP t a) := by unfold crossP cross xr subP; grind
        have e2 : crossP a t x = xr (subP t a) (subP x t) := crossP_xr2 a t x
        have e3 : crossP t x p = xr (subP t p) (subP x t) := by unfold crossP cross xr subP; grind
        have := xr_trans2 (up_sub.2 g) (up_sub.2 h2) hB (by omega) (by omega)
        omega

/-- A chain over points that are not all one. -/
structure Good (P : List Pt) (s0 : Pt) (st : List Pt) : Prop where
  chn : Chn P st
  two : 2 ≤ st.length
  top : ∃ t r, st = t :: r ∧ ∀ p ∈ P, leP p t
  last : st.getLast? = some s0
  low : ∀ p ∈ P, leP s0 p
  sub : ∀ s ∈ st, s ∈ P
/-- .. and over points that are. -/
def Same (P : List Pt) (s0 : Pt) (st : List Pt) : Prop := (∀ p ∈ P, p = s0) ∧ s0 ∈ P ∧ (st = [s0] ∨ st = [s0, s0])

theorem same_push {P : List Pt} {s0 : Pt} {st : List Pt} (h : Same P s0 st) {x : Pt} (hx : leP s0 x) : Same (x :: P) s0 (pushW st x) ∨ Good (x :: P) s0 (pushW st x) := by
  obtain ⟨h1, h2, h3⟩ := h
  have e0 : ∀ q, crossP s0 s0 q = 0 := fun q => by unfold crossP cross; grind
  have hp : pushW st x = [x, s0] := by
    rcases h3 with rfl | rfl
    · rfl
    · show x :: popW x [s0, s0] = _
      rw [popW, if_pos (by rw [e0]; omega)]; rfl
  rw [hp]
  rcases hx with rfl | hx
  · left
    exact ⟨fun p hp => by rcases List.mem_cons.1 hp with h | h; exact h; exact h1 p h, by simp, .inr rfl⟩
  · right
    refine ⟨⟨trivial, hx, fun p hp => ?_, fun e he => by cases he⟩, by simp, ⟨x, [s0], rfl, fun p hp => ?_⟩, rfl, fun p hp => ?_, fun s hs => ?_⟩
    · rcases List.mem_cons.1 hp with rfl | hp
      · exact .inr (onP_end _ _ (.inr hx))
      · rw [h1 p hp]; exact .inr (onP_start _ _)
    · rcases List.mem_cons.1 hp with rfl | hp
      · exact leP_refl _
      · rw [h1 p hp]; exact .inr hx
    · rcases List.mem_cons.1 hp with rfl | hp
      · exact .inr hx
      · rw [h1 p hp]; exact leP_refl _
    · rcases List.mem_cons.1 hs with rfl | hs
      · simp
      · have : s = s0 := by simpa using hs
        subst this; exact List.mem_cons_of_mem _ h2

theorem good_push {P : List Pt} {s0 : Pt} {st : List Pt} (h : Good P s0 st) {x : Pt} (hx : ∀ p ∈ P, leP p x) : Good (x :: P) s0 (pushW st x) := by
  obtain ⟨t, r, rfl, htop⟩ := h.top
  have fin : ∀ t' r', popW x (t :: r) = t' :: r' → Popped P x t' r' → (t' :: r') <:+ (t :: r) → Good (x :: P) s0 (pushW (t :: r) x) := by
    intro t' r' e hp hs
    have hl : (t' :: r').getLast? = some s0 := by
      obtain ⟨pre, hpre⟩ := hs
      have := h.last
      rw [← hpre, List.getLast?_append] at this
      cases e2 : (t' :: r').getLast? with
      | none => simp at e2
      | some y => rw [e2] at this; simpa using this
    have hin : ∀ s ∈ t' :: r', s ∈ P := fun s hs' => h.sub s (hs.subset hs')
    have hne : pushW (t :: r) x = x :: t' :: r' := by unfold pushW; rw [e]
    rw [hne]
    refine ⟨push_ok hp hin hx hl h.low, by simp, ⟨x, _, rfl, fun p hp' => ?_⟩, ?_, fun p hp' => ?_, fun s hs' => ?_⟩
    · rcases List.mem_cons.1 hp' with rfl | hp'
      · exact leP_refl _
      · exact hx p hp'
    · rw [List.getLast?_cons_cons]; exact hl
    · rcases List.mem_cons.1 hp' with rfl | hp'
      · exact leP_trans (h.low t' (hin t' (by simp))) (.inr hp.lt)
      · exact h.low p hp'
    · rcases List.mem_cons.1 hs' with rfl | hs'
      · simp
      · exact List.mem_cons_of_mem _ (hin s hs')
  rcases hx t (h.sub t (by simp)) with e | hlt
  · subst e
    cases r with
    | nil => have := h.two; simp at this
    | cons a r =>
      obtain ⟨h1, h2, h3, h4⟩ := h.chn
      obtain ⟨t', r', e, hp, hs⟩ := pop_ok hx a r h1 h2 (fun p hp _ => h3 p hp)
      refine fin t' r' ?_ hp (hs.trans (List.suffix_cons _ _))
      rw [popW, if_pos (by rw [show crossP a t t = 0 by unfold crossP cross; grind]; omega)]; exact e
  · obtain ⟨t', r', e, hp, hs⟩ := pop_ok hx t r h.chn hlt (fun p hp hle => by
      have : p = t := leP_anti (htop p hp) hle
      subst this; exact .inr (onP_start _ _))
    exact fin t' r' e hp hs

/-- The chain over sorted points. -/
theorem chain_ok : ∀ (l P : List Pt) (s0 : Pt) (st : List Pt), (Same P s0 st ∨ Good P s0 st) → (∀ p ∈ P, ∀ x ∈ l, leP p x) → l.Pairwise leP → s0 ∈ P →
    ∃ Q, (∀ p, p ∈ Q ↔ p ∈ P ∨ p ∈ l) ∧ (Same Q s0 (l.foldl pushW st) ∨ Good Q s0 (l.foldl pushW st))
  | [], P, s0, st, h, _, _, _ => ⟨P, by simp, h⟩
  | x :: l, P, s0, st, h, hle, hs, h0 => by
    obtain ⟨h1, h2⟩ := List.pairwise_cons.1 hs
    have step : Same (x :: P) s0 (pushW st x) ∨ Good (x :: P) s0 (pushW st x) := by
      rcases h with h | h
      · exact same_push h (hle s0 h0 x (by simp))
      · exact .inr (good_push h (fun p hp => hle p hp x (by simp)))
    obtain ⟨Q, hQ, hr⟩ := chain_ok l (x :: P) s0 (pushW st x) step (fun p hp y hy => by
      rcases List.mem_cons.1 hp with rfl | hp
      · exact h1 y hy
      · exact hle p hp y (List.mem_cons_of_mem _ hy)) h2 (List.mem_cons_of_mem _ h0)
    refine ⟨Q, fun p => ?_, hr⟩
    rw [hQ]; simp only [List.mem_cons]
    constructor
    · rintro ((h | h) | h)
      · exact .inr (.inl h)
      · exact .inl h
      · exact .inr (.inr h)
    · rintro (h | h | h)
      · exact .inl (.inr h)
      · exact .inl (.inl h)
      · exact .inr h

end Go.Proofs.Ythbekbfhpedghaa

/- Plain mathematics of convex hulls: what the chains make, and what wrapping finds. -/
namespace Go.Proofs.Ythbekbfhpedghaa

def negP (p : Pt) : Pt := (-p.1, -p.2)
theorem negP_negP (p : Pt) : negP (negP p) = p := by unfold negP; simp
theorem negP_inj {p q : Pt} (h : negP p = negP q) : p = q := by rw [← negP_negP p, h, negP_negP]
theorem crossP_neg (a b c : Pt) : crossP (negP a) (negP b) (negP c) = crossP a b c := by unfold crossP cross negP; grind
theorem ltP_neg {a b : Pt} : ltP (negP a) (negP b) ↔ ltP b a := by unfold ltP negP; simp only; omega
theorem leP_neg {a b : Pt} : leP (negP a) (negP b) ↔ leP b a := by
  unfold leP
  rw [ltP_neg]
  constructor
  · rintro (h | h)
    · exact .inl (negP_inj h).symm
    · exact .inr h
  · rintro (h | h)
    · exact .inl (by rw [h])
    · exact .inr h
theorem onP_iff (a b p : Pt) : onP a b p = true ↔ al (b.1 - a.1) (b.2 - a.2) (p.1 - a.1) (p.2 - a.2) = 0 ∧ btw (p.1 - a.1) (b.1 - a.1) ∧ btw (p.2 - a.2) (b.2 - a.2) := by
  have key := on_iff a.1 a.2 (b.1 - a.1) (b.2 - a.2) (p.1 - a.1) (p.2 - a.2)
  rw [show a.1 + (b.1 - a.1) = b.1 by omega, show a.2 + (b.2 - a.2) = b.2 by omega, show a.1 + (p.1 - a.1) = p.1 by omega, show a.2 + (p.2 - a.2) = p.2 by omega] at key
  exact key
theorem onP_neg (a b p : Pt) : onP (negP a) (negP b) (negP p) = onP a b p := by
  rw [Bool.eq_iff_iff, onP_iff, onP_iff]
  unfold negP al btw
  simp only
  rw [show (-b.1 - -a.1) * (-p.2 - -a.2) - (-p.1 - -a.1) * (-b.2 - -a.2) = (b.1 - a.1) * (p.2 - a.2) - (p.1 - a.1) * (b.2 - a.2) by grind]
  omega
theorem LeftOn_neg {a b p : Pt} : LeftOn (negP a) (negP b) (negP p) ↔ LeftOn a b p := by unfold LeftOn; rw [crossP_neg, onP_neg]

theorem popW_neg (x : Pt) : ∀ st : List Pt, popW (negP x) (st.map negP) = (popW x st).map negP
  | [] => rfl
  | [_] => rfl
  | b :: a :: r => by
    have ih := popW_neg x (a :: r)
    simp only [List.map_cons, popW, crossP_neg] at ih ⊢
    split
    · exact ih
    · rfl
theorem chainW_neg (l : List Pt) : chainW (l.map negP) = (chainW l).map negP := by
  have key : ∀ (l st : List Pt), (l.map negP).foldl pushW (st.map negP) = (l.foldl pushW st).map negP := by
    intro l
    induction l with
    | nil => intro st; rfl
    | cons x l ih =>
      intro st
      simp only [List.map_cons, List.foldl_cons]
      rw [← ih]
      congr 1
      unfold pushW
      rw [popW_neg]; rfl
  exact key l []

/-- An edge of the hull. -/
structure Hedge (P : List Pt) (a b : Pt) : Prop where
  ne : a ≠ b
  ok : ∀ p ∈ P, LeftOn a b p
  fst : a ∈ P
  snd : b ∈ P

/-- A chain, forward: from one end to the other. -/
structure Fwd (P L : List Pt) (s t : Pt) : Prop where
  two : 2 ≤ L.length
  first : L[0]? = some s
  last : L[L.length - 1]? = some t
  edge : ∀ i a b, L[i]? = some a → L[i + 1]? = some b → Hedge P a b

theorem edges_at {R : Pt → Pt → Prop} : ∀ {st : List Pt}, (∀ e ∈ edges st, R e.1 e.2) → ∀ j a b, st[j + 1]? = some a → st[j]? = some b → R a b
  | [], _, _, _, _, h, _ => by simp at h
  | [_], _, _, _, _, h, _ => by simp at h
  | y :: x :: r, h, 0, a, b, h1, h2 => by
    obtain rfl : x = a := by simpa using h1
    obtain rfl : y = b := by simpa using h2
    exact h (x, y) (by simp [edges])
  | y :: x :: r, h, j + 1, a, b, h1, h2 =>
    edges_at (st := x :: r) (fun e he => h e (List.mem_cons_of_mem _ he)) j a b (by simpa using h1) (by simpa using h2)

theorem Fwd.of_edges {P st : List Pt} {s t : Pt} {r : List Pt} (h2 : 2 ≤ st.length) (ht : st = t :: r) (hs : st.getLast? = some s) (he : ∀ e ∈ edges st, Hedge P e.1 e.2) : Fwd P st.reverse s t := by
  have hl : st.reverse.length = st.length := List.length_reverse
  refine ⟨by omega, ?_, ?_, fun i a b ha hb => ?_⟩
  · rw [List.getElem?_reverse (by omega), Nat.sub_zero, ← List.getLast?_eq_getElem?]; exact hs
  · rw [hl, List.getElem?_reverse (by omega), show st.length - 1 - (st.length - 1) = 0 by omega, ht]; rfl
  · have hi : i + 1 < st.length := by
      have := (List.getElem?_eq_some_iff.1 hb).1; omega
    rw [List.getElem?_reverse (by omega)] at ha hb
    exact edges_at he (st.length - 1 - (i + 1)) a b (by rw [show st.length - 1 - (i + 1) + 1 = st.length - 1 - i by omega]; exact ha) hb

def hullL (s : List Pt) : List Pt := (chainW s).reverse.dropLast ++ (chainW s.reverse).reverse.dropLast

/-- What a hull is: its points in their order round it. -/
structure Hull (P H : List Pt) (s0 : Pt) : Prop where
  first : gt H 0 = s0
  two : 2 ≤ H.length
  edge : ∀ i, i < H.length → Hedge P (gt H i) (nx H i)
  once : ∀ i, 0 < i → i < H.length → gt H i ≠ s0

theorem gt_of {l : List Pt} {i : Nat} {p : Pt} (h : l[i]? = some p) : gt l i = p := by
  unfold gt; rw [List.getD_eq_getElem?_getD, h]; rfl

theorem Hull.join {P U D : List Pt} {s t : Pt} (hu : Fwd P U s t) (hd : Fwd P D t s) (hu1 : ∀ i a, 0 < i → U[i]? = some a → a ≠ s) (hd1 : ∀ i a, i + 1 < D.length → D[i]? = some a → a ≠ s) : Hull P (U.dropLast ++ D.dropLast) s := by
  have lu := hu.two
  have ld := hd.two
  have hlen : (U.dropLast ++ D.dropLast).length = (U.length - 1) + (D.length - 1) := by simp
  have gu : ∀ i, i < U.length - 1 → (U.dropLast ++ D.dropLast)[i]? = U[i]? := fun i hi => by
    rw [List.getElem?_append_left (by simpa using hi), List.getElem?_dropLast, if_pos hi]
  have gd : ∀ j, j < D.length - 1 → (U.dropLast ++ D.dropLast)[(U.length - 1) + j]? = D[j]? := fun j hj => by
    rw [List.getElem?_append_right (by simp), List.length_dropLast, Nat.add_sub_cancel_left, List.getElem?_dropLast, if_pos hj]
  have some_u : ∀ i, i < U.length → ∃ a, U[i]? = some a := fun i hi => ⟨U[i], List.getElem?_eq_getElem hi⟩
  have some_d : ∀ i, i < D.length → ∃ a, D[i]? = some a := fun i hi => ⟨D[i], List.getElem?_eq_getElem hi⟩
  have f0 : (U.dropLast ++ D.dropLast)[0]? = some s := by rw [gu 0 (by omega)]; exact hu.first
  have nxg : ∀ i, nx (U.dropLast ++ D.dropLast) i = gt (U.dropLast ++ D.dropLast) ((i + 1) % (U.dropLast ++ D.dropLast).length) := fun _ => rfl
  refine ⟨gt_of f0, by omega, fun i hi => ?_, fun i h0 hi => ?_⟩
  · rw [hlen] at hi
    rcases Nat.lt_or_ge i (U.length - 1) with g | g
    · obtain ⟨a, ha⟩ := some_u i (by omega)
      obtain ⟨b, hb⟩ := some_u (i + 1) (by omega)
      have e1 : gt (U.dropLast ++ D.dropLast) i = a := gt_of ((gu i g).trans ha)
      have e2 : nx (U.dropLast ++ D.dropLast) i = b := by
        rw [nxg, hlen, Nat.mod_eq_of_lt (by omega)]
        rcases Nat.lt_or_ge (i + 1) (U.length - 1) with q | q
        · exact gt_of ((gu _ q).trans hb)
        · have : i + 1 = U.length - 1 := by omega
          have h1 := gd 0 (by omega)
          rw [Nat.add_zero, ← this, hd.first] at h1
          rw [this, hu.last] at hb
          rw [gt_of h1]; exact Option.some.inj hb
      rw [e1, e2]
      exact hu.edge i a b ha hb
    · obtain ⟨j, rfl⟩ : ∃ j, i = (U.length - 1) + j := ⟨i - (U.length - 1), by omega⟩
      obtain ⟨a, ha⟩ := some_d j (by omega)
      obtain ⟨b, hb⟩ := some_d (j + 1) (by omega)
      have e1 : gt (U.dropLast ++ D.dropLast) ((U.length - 1) + j) = a := gt_of ((gd j (by omega)).trans ha)
      have e2 : nx (U.dropLast ++ D.dropLast) ((U.length - 1) + j) = b := by
        rw [nxg, hlen]
        rcases Nat.lt_or_ge (j + 1) (D.length - 1) with q | q
        · rw [Nat.mod_eq_of_lt (by omega)]
          exact gt_of ((gd (j + 1) q).trans hb)
        · have hj : j + 1 = D.length - 1 := by omega
          rw [show U.length - 1 + j + 1 = U.length - 1 + (D.length - 1) by omega, Nat.mod_self, gt_of f0]
          rw [hj, hd.last] at hb
          exact Option.some.inj hb
      rw [e1, e2]
      exact hd.edge j a b ha hb
  · rw [hlen] at hi
    rcases Nat.lt_or_ge i (U.length - 1) with g | g
    · obtain ⟨a, ha⟩ := some_u i (by omega)
      rw [gt_of ((gu i g).trans ha)]
      exact hu1 i a h0 ha
    · obtain ⟨j, rfl⟩ : ∃ j, i = (U.length - 1) + j := ⟨i - (U.length - 1), by omega⟩
      obtain ⟨a, ha⟩ := some_d j (by omega)
      rw [gt_of ((gd j (by omega)).trans ha)]
      exact hd1 j a (by omega) ha

/-- Along a chain the points rise. -/
theorem rises {P : List Pt} : ∀ {st : List Pt}, Chn P st → ∀ (j : Nat) (a b : Pt), st[j]? = some b → ∀ i : Nat, j < i → st[i]? = some a → ltP a b
  | [], _, _, _, _, h, _, _, _ => by simp at h
  | [_], _, j, a, b, h, i, hi, h' => by
    have h1 := (List.getElem?_eq_some_iff.1 h').1
    simp at h1; omega
  | y :: x :: r, hc, j, a, b, h, i, hi, h' => by
    obtain ⟨h1, h2, h3, h4⟩ := hc
    obtain ⟨i, rfl⟩ : ∃ i', i = i' + 1 := ⟨i - 1, by omega⟩
    rw [List.getElem?_cons_succ] at h'
    cases j with
    | zero =>
      obtain rfl : y = b := by simpa using h
      cases i with
      | zero =>
        obtain rfl : x = a := by simpa using h'
        exact h2
      | succ i => exact ltP_trans (rises h1 0 a x rfl (i + 1) (by omega) h') h2
    | succ j =>
      rw [List.getElem?_cons_succ] at h
      exact rises h1 j a b h i (by omega) h'

theorem sorted_neg {s : List Pt} (h : s.Pairwise leP) : (s.reverse.map negP).Pairwise leP := by
  rw [List.pairwise_map, List.pairwise_reverse]
  exact h.imp fun hab => leP_neg.2 hab

/-- The chain over a sorted list. -/
theorem chain_sorted {x : Pt} {l : List Pt} (hs : (x :: l).Pairwise leP) :
    ∃ Q, (∀ p, p ∈ Q ↔ p ∈ x :: l) ∧ (Same Q x (chainW (x :: l)) ∨ Good Q x (chainW (x :: l))) := by
  obtain ⟨h1, h2⟩ := List.pairwise_cons.1 hs
  obtain ⟨Q, hQ, hr⟩ := chain_ok l [x] x [x] (.inl ⟨by simp, by simp, .inl rfl⟩) (fun p hp y hy => by
    have : p = x := by simpa using hp
    subst this; exact h1 y hy) h2 (by simp)
  exact ⟨Q, fun p => by rw [hQ]; simp, hr⟩

theorem hedge_same {P Q : List Pt} (h : ∀ p, p ∈ Q ↔ p ∈ P) {a b : Pt} (k : Hedge Q a b) : Hedge P a b :=
  ⟨k.ne, fun p hp => k.ok p ((h p).2 hp), (h a).1 k.fst, (h b).1 k.snd⟩

/-- THE HULL OF SORTED POINTS. -/
theorem hull_ok {x : Pt} {l : List Pt} (hs : (x :: l).Pairwise leP) :
    ((∀ p ∈ x :: l, p = x) ∧ (hullL (x :: l)).length ≤ 2) ∨ Hull (x :: l) (hullL (x :: l)) x := by
  obtain ⟨Q, hQ, hr⟩ := chain_sorted hs
  obtain ⟨h1, h2⟩ := List.pairwise_cons.1 hs
  have hlow : ∀ p ∈ x :: l, leP x p := fun p hp => by
    rcases List.mem_cons.1 hp with rfl | hp
    · exact leP_refl _
    · exact h1 p hp
  cases hrev : (x :: l).reverse with
  | nil => simp at hrev
  | cons y m =>
    have hmem : ∀ p, p ∈ y :: m ↔ p ∈ x :: l := fun p => by rw [← hrev]; exact List.mem_reverse
    have hns := sorted_neg hs
    rw [hrev, List.map_cons] at hns
    obtain ⟨R, hR, hr2⟩ := chain_sorted hns
    rw [← List.map_cons, chainW_neg] at hr2
    have hR2 : ∀ p, negP p ∈ R ↔ p ∈ x :: l := fun p => by
      rw [hR, ← List.map_cons, List.mem_map]
      constructor
      · rintro ⟨q, hq, e⟩
        rw [← negP_inj e]; exact (hmem q).1 hq
      · intro h; exact ⟨p, (hmem p).2 h, rfl⟩
    have hhigh : ∀ p ∈ x :: l, leP p y := fun p hp => by
      have := (List.pairwise_cons.1 hns).1
      rcases List.mem_cons.1 ((hmem p).2 hp) with e | e
      · rw [e]; exact leP_refl _
      · exact leP_neg.1 (this (negP p) (List.mem_map.2 ⟨p, e, rfl⟩))
    have hy : y ∈ x :: l := (hmem y).1 (by simp)
    unfold hullL
    rw [hrev]
    rcases hr with hr | hr
    · left
      have hall : ∀ p ∈ x :: l, p = x := fun p hp => hr.1 p ((hQ p).2 hp)
      refine ⟨hall, ?_⟩
      have l1 : (chainW (x :: l)).length ≤ 2 := by rcases hr.2.2 with e | e <;> rw [e] <;> simp
      have l2 : (chainW (y :: m)).length ≤ 2 := by
        rcases hr2 with hr2 | hr2
        · have : ((chainW (y :: m)).map negP).length ≤ 2 := by rcases hr2.2.2 with e | e <;> rw [e] <;> simp
          simpa using this
        · exfalso
          have t2 := hr2.two
          have c := hr2.chn
          match hst : (chainW (y :: m)).map negP, c with
          | [], _ => rw [hst] at t2; simp at t2
          | [_], _ => rw [hst] at t2; simp at t2
          | b :: a :: r, c =>
            have sb := hr2.sub
            rw [hst] at sb
            have ea := hall (negP a) ((hR2 _).1 (by rw [negP_negP]; exact sb a (by simp)))
            have eb := hall (negP b) ((hR2 _).1 (by rw [negP_negP]; exact sb b (by simp)))
            have := c.2.1
            rw [negP_inj (ea.trans eb.symm)] at this
            exact ltP_irrefl _ this
      simp only [List.length_append, List.length_dropLast, List.length_reverse]
      omega
    · right
      obtain ⟨t, r, ht, htop⟩ := hr.top
      have hin := hr.sub
      have tty : t = y := leP_anti (hhigh t ((hQ t).1 (hin t (by rw [ht]; simp)))) (htop y ((hQ y).2 hy))
      have hu : Fwd (x :: l) (chainW (x :: l)).reverse x y := by
        refine Fwd.of_edges (r := r) hr.two (by rw [ht, tty]) hr.last fun e he => ?_
        obtain ⟨k1, k2⟩ := chn_edges hr.chn e he
        obtain ⟨k3, k4⟩ := edges_mem he
        exact ⟨fun q => ltP_irrefl _ (q ▸ k1), fun p hp => k2 p ((hQ p).2 hp), (hQ _).1 (hin _ k3), (hQ _).1 (hin _ k4)⟩
      have hr3 : Good R (negP y) ((chainW (y :: m)).map negP) := by
        rcases hr2 with hr2 | hr2
        · exfalso
          have hall : ∀ p ∈ x :: l, p = y := fun p hp => negP_inj (hr2.1 _ ((hR2 p).2 hp))
          have c := hr.chn
          match hst : chainW (x :: l), c with
          | [], _ => have := hr.two; rw [hst] at this; simp at this
          | [_], _ => have := hr.two; rw [hst] at this; simp at this
          | b :: a :: r, c =>
            rw [hst] at hin
            have ea := hall a ((hQ a).1 (hin a (by simp)))
            have eb := hall b ((hQ b).1 (hin b (by simp)))
            have := c.2.1
            rw [ea, eb] at this
            exact ltP_irrefl _ this
        · exact hr2
      have ed : ∀ e ∈ edges ((chainW (y :: m)).map negP), Hedge (x :: l) (negP e.1) (negP e.2) := fun e he => by
        obtain ⟨k1, k2⟩ := chn_edges hr3.chn e he
        obtain ⟨k3, k4⟩ := edges_mem he
        refine ⟨fun q => ltP_irrefl _ ((negP_inj q) ▸ k1), fun p hp => ?_, (hR2 _).1 (by rw [negP_negP]; exact hr3.sub _ k3), (hR2 _).1 (by rw [negP_negP]; exact hr3.sub _ k4)⟩
        have := k2 (negP p) ((hR2 p).2 hp)
        rw [← LeftOn_neg, negP_negP, negP_negP]
        exact this
      obtain ⟨t', r', ht', htop'⟩ := hr3.top
      have tx : negP t' = x := by
        have g1 : t' ∈ R := hr3.sub t' (by rw [ht']; simp)
        have g2 : negP t' ∈ x :: l := (hR2 _).1 (by rw [negP_negP]; exact g1)
        have g3 := htop' (negP x) ((hR2 x).2 (by simp))
        rw [← negP_negP t', leP_neg] at g3
        exact leP_anti g3 (hlow _ g2)
      have hd0 : Fwd (x :: l) (chainW (y :: m)).reverse y x := by
        have l2 : 2 ≤ (chainW (y :: m)).length := by simpa using hr3.two
        cases hst : chainW (y :: m) with
        | nil => rw [hst] at l2; simp at l2
        | cons b r2 =>
          have e1 : b = x := by
            have : negP b = t' := by rw [hst] at ht'; simpa using (List.cons.inj ht').1
            rw [← tx, ← this, negP_negP]
          have elast : (b :: r2).getLast? = some y := by
            have := hr3.last
            rw [hst, List.getLast?_map] at this
            cases e : (b :: r2).getLast? with
            | none => rw [e] at this; cases this
            | some q => rw [e] at this; rw [negP_inj (Option.some.inj this)]
          refine Fwd.of_edges (r := r2) (by rw [← hst]; exact l2) (by rw [e1]) elast fun e he => ?_
          have em : ∀ (st : List Pt) (e : Pt × Pt), e ∈ edges st → (negP e.1, negP e.2) ∈ edges (st.map negP) := by
            intro st
            induction st with
            | nil => intro e h; cases h
            | cons b st ih =>
              intro e h
              cases st with
              | nil => cases h
              | cons a st =>
                rcases List.mem_cons.1 h with rfl | h
                · simp [edges]
                · have := ih e h
                  simp only [List.map_cons] at this ⊢
                  exact List.mem_cons_of_mem _ this
          have := ed _ (by rw [hst]; exact em _ e he)
          simpa only [negP_negP] using this
      refine Hull.join hu hd0 (fun i a h0 ha => ?_) (fun i a hi ha => ?_)
      · have hl : (chainW (x :: l)).reverse.length = (chainW (x :: l)).length := List.length_reverse
        have hi : i < (chainW (x :: l)).length := by have := (List.getElem?_eq_some_iff.1 ha).1; omega
        rw [List.getElem?_reverse hi] at ha
        have hlast := hr.last
        rw [List.getLast?_eq_getElem?] at hlast
        intro e
        rw [e] at ha
        exact ltP_irrefl _ (rises hr.chn _ x x ha ((chainW (x :: l)).length - 1) (by omega) hlast)
      · have hl : (chainW (y :: m)).reverse.length = (chainW (y :: m)).length := List.length_reverse
        rw [hl] at hi
        rw [List.getElem?_reverse (by omega)] at ha
        intro e
        have hch := hr3.chn
        have h0 : ((chainW (y :: m)).map negP)[0]? = some t' := by rw [ht']; rfl
        have hj : ((chainW (y :: m)).map negP)[(chainW (y :: m)).length - 1 - i]? = some (negP a) := by rw [List.getElem?_map, ha]; rfl
        have := rises hch 0 (negP a) t' h0 _ (by omega) hj
        rw [e, ← tx, negP_negP] at this
        exact ltP_irrefl _ this

end Go.Proofs.Ythbekbfhpedghaa

/- Plain mathematics of convex hulls: what wrapping finds; points on one line. -/
namespace Go.Proofs.Ythbekbfhpedghaa

theorem crossP_swap (a b c : Pt) : crossP a b c = - crossP a c b := by unfold crossP cross; grind
theorem on_both {a t p : Pt} (h1 : onP a t p = true) (h2 : onP a p t = true) : p = t := by
  rw [onP_iff] at h1 h2
  obtain ⟨x, y⟩ := p
  obtain ⟨u, v⟩ := t
  unfold btw at h1 h2
  simp only [Prod.mk.injEq] at *
  omega

/-- One step of wrapping: the point where the next edge may end. -/
def wrapStep (at_ cur p : Pt) : Pt :=
  if p = at_ then cur else if cur = at_ ∨ crossP at_ cur p < 0 ∨ (crossP at_ cur p = 0 ∧ onP at_ p cur = true) then p else cur
def wrap (at_ : Pt) (l : List Pt) : Pt := l.foldl (wrapStep at_) at_

theorem wrap_keep {at_ t p : Pt} (hne : at_ ≠ t) (h : LeftOn at_ t p) : wrapStep at_ t p = t := by
  unfold wrapStep
  split
  · rfl
  · split
    · rename_i h1 h2
      rcases h2 with h2 | h2 | ⟨h2, h3⟩
      · exact absurd h2.symm hne
      · have := h.nonneg; omega
      · rcases h with h | h
        · omega
        · exact on_both h h3
    · rfl
theorem wrap_take {at_ t cur : Pt} (hne : at_ ≠ t) (h : cur = at_ ∨ LeftOn at_ t cur) : wrapStep at_ cur t = t := by
  unfold wrapStep
  rw [if_neg (fun e => hne e.symm), if_pos]
  rcases h with h | h
  · exact .inl h
  · have e := crossP_swap at_ cur t
    rcases h with h | h
    · exact .inr (.inl (by omega))
    · exact .inr (.inr ⟨by have := onP_cross h; omega, h⟩)
theorem wrap_fold {P : List Pt} {at_ t : Pt} (he : Hedge P at_ t) : ∀ (l : List Pt) (cur : Pt), (∀ p ∈ l, p ∈ P) → (cur = at_ ∨ cur ∈ P) → (t ∈ l ∨ cur = t) → l.foldl (wrapStep at_) cur = t
  | [], cur, _, _, h => by
    rcases h with h | h
    · cases h
    · exact h
  | p :: l, cur, hl, hcur, h => by
    rw [List.foldl_cons]
    have hp : p ∈ P := hl p (by simp)
    have hl' : ∀ q ∈ l, q ∈ P := fun q hq => hl q (List.mem_cons_of_mem _ hq)
    by_cases e : cur = t
    · rw [e, wrap_keep he.ne (he.ok p hp)]
      exact wrap_fold he l t hl' (.inr he.snd) (.inr rfl)
    · by_cases e2 : p = t
      · rw [e2, wrap_take he.ne (hcur.imp id (fun h => he.ok cur h))]
        exact wrap_fold he l t hl' (.inr he.snd) (.inr rfl)
      · have ht : t ∈ l := by
          rcases h with h | h
          · rcases List.mem_cons.1 h with h | h
            · exact absurd h.symm e2
            · exact h
          · exact absurd h e
        refine wrap_fold he l _ hl' ?_ (.inl ht)
        unfold wrapStep
        split
        · exact hcur
        · split
          · exact .inr hp
          · exact hcur
theorem wrap_edge {P : List Pt} {at_ t : Pt} (he : Hedge P at_ t) : wrap at_ P = t :=
  wrap_fold he P at_ (fun _ h => h) (.inl rfl) (.inl he.snd)

/-- All points lie on one line. -/
def Flat (P : List Pt) (o : Pt) : Prop := ∀ a ∈ P, ∀ b ∈ P, crossP o a b = 0
theorem Flat.all {P : List Pt} {o : Pt} (h : Flat P o) {a b c : Pt} (ha : a ∈ P) (hb : b ∈ P) (hc : c ∈ P) : crossP a b c = 0 := by
  have e : crossP a b c = crossP o a b + crossP o b c + crossP o c a := by unfold crossP cross; grind
  rw [e, h a ha b hb, h b hb c hc, h c hc a ha]; omega

theorem line_all {a b p q r : Pt} (hne : a ≠ b) (hp : crossP a b p = 0) (hq : crossP a b q = 0) (hr : crossP a b r = 0) : crossP p q r = 0 := by
  have key : ∀ (u v : Pt), xr (subP b a) u = 0 → xr (subP b a) v = 0 → xr u v = 0 := by
    intro u v h1 h2
    have e1 : (subP b a).1 * xr u v = u.1 * xr (subP b a) v - v.1 * xr (subP b a) u := by unfold xr; grind
    have e2 : (subP b a).2 * xr u v = u.2 * xr (subP b a) v - v.2 * xr (subP b a) u := by unfold xr; grind
    rw [h1, h2] at e1 e2
    simp only [Int.mul_zero, Int.sub_self] at e1 e2
    rcases Int.mul_eq_zero.1 e1 with g | g
    · rcases Int.mul_eq_zero.1 e2 with k | k
      · exfalso; apply hne
        obtain ⟨ax, ay⟩ := a
        obtain ⟨bx, by'⟩ := b
        unfold subP at g k
        simp only [Prod.mk.injEq] at *
        omega
      · exact k
    · exact g
  rw [crossP_xr] at hp hq hr ⊢
  have e1 : xr (subP b a) (subP q p) = xr (subP b a) (subP q a) - xr (subP b a) (subP p a) := by unfold xr subP; grind
  have e2 : xr (subP b a) (subP r p) = xr (subP b a) (subP r a) - xr (subP b a) (subP p a) := by unfold xr subP; grind
  exact key _ _ (by omega) (by omega)

theorem gt_nx {H : List Pt} {i : Nat} (h : i + 1 < H.length) : nx H i = gt H (i + 1) := by
  show gt H ((i + 1) % H.length) = _
  rw [Nat.mod_eq_of_lt h]

/-- A hull has three points or more exactly if its points are not on one line. -/
theorem hull_flat {P H : List Pt} {s0 o : Pt} (h : Hull P H s0) (ho : o ∈ P) : Flat P o ↔ H.length < 3 := by
  have two := h.two
  constructor
  · intro hf
    rcases Nat.lt_or_ge H.length 3 with g | g
    · exact g
    · exfalso
      have e0 := h.edge 0 (by omega)
      have e1 := h.edge 1 (by omega)
      rw [gt_nx (by omega)] at e0 e1
      have k0 := hf.all e0.fst e0.snd e1.snd
      have k1 := hf.all e1.fst e1.snd e0.fst
      have o0 : onP (gt H 0) (gt H 1) (gt H 2) = true := by
        rcases e0.ok _ e1.snd with q | q
        · have q' : 0 < crossP (gt H 0) (gt H 1) (gt H 2) := q
          have k0' : crossP (gt H 0) (gt H (0 + 1)) (gt H (1 + 1)) = 0 := k0
          simp only [Nat.zero_add] at k0'
          omega
        · exact q
      have o1 : onP (gt H 1) (gt H 2) (gt H 0) = true := by
        rcases e1.ok _ e0.fst with q | q
        · have q' : 0 < crossP (gt H 1) (gt H 2) (gt H 0) := q
          have k1' : crossP (gt H 1) (gt H (1 + 1)) (gt H 0) = 0 := k1
          omega
        · exact q
      have hne := h.once 2 (by omega) (by omega)
      apply hne
      rw [← h.first]
      rw [onP_iff] at o0 o1
      generalize gt H 0 = a at *
      generalize gt H 1 = b at *
      generalize gt H 2 = c at *
      obtain ⟨a1, a2⟩ := a
      obtain ⟨b1, b2⟩ := b
      obtain ⟨c1, c2⟩ := c
      unfold btw at o0 o1
      simp only [Prod.mk.injEq] at *
      omega
  · intro hl
    have hl2 : H.length = 2 := by omega
    have e0 := h.edge 0 (by omega)
    have e1 := h.edge 1 (by omega)
    have n0 : nx H 0 = gt H 1 := gt_nx (by omega)
    have n1 : nx H 1 = gt H 0 := by show gt H ((1 + 1) % H.length) = _; rw [hl2]
    rw [n0] at e0
    rw [n1] at e1
    have z : ∀ p ∈ P, crossP (gt H 0) (gt H 1) p = 0 := fun p hp => by
      have a1 := (e0.ok p hp).nonneg
      have a2 := (e1.ok p hp).nonneg
      have : crossP (gt H 1) (gt H 0) p = - crossP (gt H 0) (gt H 1) p := by unfold crossP cross; grind
      omega
    intro a ha b hb
    exact line_all e0.ne (z o ho) (z a ha) (z b hb)

theorem flat_one {P : List Pt} {x o : Pt} (h : ∀ p ∈ P, p = x) (ho : o ∈ P) : Flat P o := fun a ha b hb => by
  rw [h a ha, h b hb, h o ho]; unfold crossP cross; grind

theorem Hedge.mem {P Q : List Pt} (h : ∀ p, p ∈ Q ↔ p ∈ P) {a b : Pt} (k : Hedge P a b) : Hedge Q a b :=
  ⟨k.ne, fun p hp => k.ok p ((h p).1 hp), (h a).2 k.fst, (h b).2 k.snd⟩
theorem Hull.mem {P Q H : List Pt} {s0 : Pt} (h : ∀ p, p ∈ Q ↔ p ∈ P) (k : Hull P H s0) : Hull Q H s0 :=
  ⟨k.first, k.two, fun i hi => (k.edge i hi).mem h, k.once⟩

/-- Points in their order, from below and then from the left. -/
def leB (a b : Pt) : Bool := decide (a.2 < b.2) || (decide (a.2 = b.2) && decide (a.1 ≤ b.1))
theorem leB_iff {a b : Pt} : leB a b = true ↔ leP a b := by
  obtain ⟨x, y⟩ := a
  obtain ⟨u, v⟩ := b
  unfold leB leP ltP
  simp only [Bool.or_eq_true, Bool.and_eq_true, decide_eq_true_eq, Prod.mk.injEq]
  omega

end Go.Proofs.Ythbekbfhpedghaa

/- Where is a point? The reference's function, and that package shape's finds the same. -/
namespace Go.Proofs.Ythbekbfhpedghaa
open Go.RowKit Go.Sort
attribute [local go_sem ↓] run_min_mn run_max_mx Go.wp_at_zero Go.wp_at_succ

def upI (py ay by' c : Int) : Int := if by' < ay then -c else c
def rayB (px py ax ay bx by' : Int) : Bool := (decide (py < ay) != decide (py < by')) && decide (0 < upI py ay by' (cross ax ay bx by' px py))
def ray2At (l : List Pt) (p : Pt) (i : Nat) : Bool := rayB p.1 p.2 (gt l i).1 (gt l i).2 (nx l i).1 (nx l i).2
def insTo (l : List Pt) (p : Pt) : Nat → Bool
  | 0 => false
  | k + 1 => if ray2At l p k then !insTo l p k else insTo l p k
def whereR (l : List Pt) (p : Pt) : Int := if (List.range l.length).any (on2At l p) then 0 else if insTo l p l.length then 1 else -1

theorem left_ray {px py ax ay bx by' : Int} (h : onB ax ay bx by' px py = false) : leftB px py ax ay bx by' = rayB px py ax ay bx by' := by
  have key : cross ax ay bx by' px py = 0 → ¬ ((ay ≤ py ∧ py < by') ∨ (by' ≤ py ∧ py < ay)) := by
    intro h0 hb
    have hne : by' - ay ≠ 0 := by omega
    have hc : (by' - ay) * (px - ax) = (py - ay) * (bx - ax) := by unfold cross at h0; grind
    have hbt : btw (py - ay) (by' - ay) := by unfold btw; omega
    have := btw_dim hne hc hbt
    have ho : onB ax ay bx by' px py = true := by
      have k := (on_iff ax ay (bx - ax) (by' - ay) (px - ax) (py - ay)).2 ⟨by unfold al; unfold cross at h0; grind, this, hbt⟩
      rw [show ax + (bx - ax) = bx by omega, show ay + (by' - ay) = by' by omega, show ax + (px - ax) = px by omega, show ay + (py - ay) = py by omega] at k
      exact k
    rw [h] at ho; cases ho
  rw [Bool.eq_iff_iff]
  unfold leftB rayB upI
  generalize cross ax ay bx by' px py = c at *
  simp only [Bool.and_eq_true, bne_iff_ne, ne_eq, decide_eq_true_eq, decide_eq_decide, beq_iff_eq]
  by_cases g1 : py < ay <;> by_cases g2 : py < by'
  · simp [g1, g2]
  · have := key; split <;> (by_cases hc : c = 0) <;> omega
  · have := key; split <;> (by_cases hc : c = 0) <;> omega
  · simp [g1, g2]

theorem where_same (l : List Pt) (p : Pt) : whereD l p = whereR l p := by
  unfold whereD whereR
  by_cases h : (List.range l.length).any (on2At l p) = true
  · rw [if_pos h, if_pos h]
  · rw [if_neg h, if_neg h]
    have hoff : ∀ j, j < l.length → on2At l p j = false := fun j hj => by
      cases e : on2At l p j
      · rfl
      · exact absurd (List.any_eq_true.2 ⟨j, List.mem_range.2 hj, e⟩) h
    have : ∀ k, k ≤ l.length → sideTo l p k = if insTo l p k then 1 else -1 := by
      intro k
      induction k with
      | zero => intro _; rfl
      | succ k ih =>
        intro hk
        have e : left2At l p k = ray2At l p k := left_ray (hoff k (by omega))
        unfold sideTo insTo
        rw [e, ih (by omega)]
        cases ray2At l p k <;> cases insTo l p k <;> rfl
    exact this _ (Nat.le_refl _)

end Go.Proofs.Ythbekbfhpedghaa

/- Package shape's Where, and the law's own 'simple'. -/
namespace Go.Proofs.Ythbekbfhpedghaa
open Go.RowKit Go.Sort
attribute [local go_sem ↓] run_min_mn run_max_mx

def simpE (l : List Pt) : Int := if polyB l then (if simpleB l then 0 else 2) else 1

theorem checkSimple_any (A : Option Addr) (n c : Nat) (l : List Pt) (w : World) (hn : l.length = n) (hbig : n ≤ 1000000) (hx : PtsAt w A l) :
    Calls Try.prog 41 #[.slice A n c] w fun e w' => e = .returned (.int .i64 (simpE l)) ∧ Below w.heap.size w w' := by
  have K := Lib.hid (isPolygon_any A n c l w hn hbig hx)
  cases hp : polyB l
  · have e1 : simpE l = 1 := by unfold simpE; rw [hp]; rfl
    rw [e1]
    rw [hp] at K
    clear hn hx
    go_enter Try.func41, Try.ntmps41
    go_wp2_with fail
    refine (K.out).mono ?_
    rintro e w' ⟨rfl, hb⟩
    go_wp2
    go_ret
    exact ⟨rfl, hb⟩
  · have e1 : simpE l = if simpleB l then 0 else 2 := by unfold simpE; rw [hp]; rfl
    have E1 := Lib.hid e1
    rw [hp] at K
    obtain ⟨b, off, rfl, h1, h2, h3, h4, h5⟩ := hx.poly hn hp
    have S := fun W hW => Lib.hid (isSimple_any b off n c l W hn (by omega) (by omega) (h4.below (B := w.heap.size) hW h3) (Nat.lt_of_lt_of_le h3 hW.size) h5)
    rw [simple_same] at S
    clear hn hx h4 h5 e1
    generalize simpE l = r at *
    cases hs : simpleB l
    all_goals
      have E2 := Lib.hid (E1.out.trans (by rw [hs]))
      rw [hs] at S
      go_enter Try.func41, Try.ntmps41
      go_wp2_with fail
      refine (K.out).mono ?_
      rintro e w1 ⟨rfl, hb⟩
      go_wp2_with fail
      refine ((S _ hb).out).mono ?_
      rintro e w2 ⟨rfl, hb2⟩
      go_wp2
      go_ret
      exact ⟨ret_int E2.out.symm, hb.trans (hb2.mono hb.size)⟩

theorem simpE_cases (l : List Pt) : (simpE l = 1 ∧ polyB l = false) ∨ (simpE l = 2 ∧ polyB l = true ∧ simpleB l = false) ∨ (simpE l = 0 ∧ polyB l = true ∧ simpleB l = true) := by
  unfold simpE
  cases polyB l <;> cases simpleB l <;> simp

theorem simpE_zero {l : List Pt} (h0 : simpE l = 0) : polyB l = true ∧ simpleB l = true := by
  rcases simpE_cases l with h | h | h
  · rw [h.1] at h0; cases h0
  · rw [h.1] at h0; cases h0
  · exact h.2

def whereX (l : List Pt) (p : Pt) : Int := if simpE l = 0 ∧ validB p.1 p.2 10000 = true then whereR l p else 0
def whereE (l : List Pt) (p : Pt) : Int := if simpE l = 0 then (if validB p.1 p.2 10000 then 0 else 1) else simpE l

theorem valid_Bd {p : Pt} (h : validB p.1 p.2 10000 = true) : Bd p := Bd.of_ok (p := p) h

end Go.Proofs.Ythbekbfhpedghaa

/- Package shape's areApart: is one polygon beyond an edge of the other? And the reference's parts. -/
namespace Go.Proofs.Ythbekbfhpedghaa
open Go.RowKit Go.Sort
attribute [local go_sem ↓] run_min_mn run_max_mx Go.wp_at_zero Go.wp_at_succ

def leftQ (p q x : Pt) : Bool := decide (0 < crossP p q x)
def anyLeft (p q : Pt) (l : List Pt) : Bool := l.any (leftQ p q)
def FoundLeft (p q : Pt) (l : List Pt) (w : World) (e : Ending) (w' : World) : Prop := ∃ i : Int, e = .returned (.int .i64 i) ∧ decide (0 ≤ i) = anyLeft p q l ∧ Below w.heap.size w w'

def beyondAt (a b : List Pt) (i : Nat) : Bool := !anyLeft (gt a i) (nx a i) b
def beyondB (a b : List Pt) : Bool := (List.range a.length).any (beyondAt a b)
def apartB (a b : List Pt) : Bool := beyondB a b || beyondB b a

end Go.Proofs.Ythbekbfhpedghaa

/- Package shape's checkConvex and Apart; the law's own 'convex'; the reference's Moved and Apart. -/
namespace Go.Proofs.Ythbekbfhpedghaa
open Go.RowKit Go.Sort
attribute [local go_sem ↓] run_min_mn run_max_mx Go.wp_at_zero Go.wp_at_succ

def conE (l : List Pt) : Int := if polyB l then (if convexB l then 0 else 2) else 1
theorem conE_cases (l : List Pt) : (conE l = 1 ∧ polyB l = false) ∨ (conE l = 2 ∧ polyB l = true ∧ convexB l = false) ∨ (conE l = 0 ∧ polyB l = true ∧ convexB l = true) := by
  unfold conE
  cases polyB l <;> cases convexB l <;> simp
theorem conE_zero {l : List Pt} (h0 : conE l = 0) : polyB l = true ∧ convexB l = true := by
  rcases conE_cases l with h | h | h
  · rw [h.1] at h0; cases h0
  · rw [h.1] at h0; cases h0
  · exact h.2
theorem conE_rng (l : List Pt) : 0 ≤ conE l ∧ conE l ≤ 2 := by
  rcases conE_cases l with h | h | h <;> omega

def convsE : List (List Pt) → Int
  | [] => 0
  | l :: L => if conE l = 0 then convsE L else conE l
theorem convsE_skip {L : List (List Pt)} {k : Nat} (hk : k < L.length) (h : conE L[k] = 0) : convsE (L.drop (k + 1)) = convsE (L.drop k) := by
  rw [List.drop_eq_getElem_cons hk]
  show _ = if conE L[k] = 0 then convsE (L.drop (k + 1)) else conE L[k]
  rw [if_pos h]
theorem convsE_here {L : List (List Pt)} {k : Nat} (hk : k < L.length) (h : conE L[k] ≠ 0) : convsE (L.drop k) = conE L[k] := by
  rw [List.drop_eq_getElem_cons hk]
  show (if conE L[k] = 0 then convsE (L.drop (k + 1)) else conE L[k]) = _
  rw [if_neg h]

/-- A row of slices of points. -/
def PolysIn (w : World) (b off : Nat) (L : List (List Pt)) : Prop :=
  ∀ i l, L[i]? = some l → ∃ A n c, w.cell? ⟨b, off + i, none⟩ = some (.slice A n c) ∧ l.length = n ∧ n ≤ 1000000 ∧ PtsAt w A l
theorem PolysIn.below {w w' : World} {b off : Nat} {L : List (List Pt)} (h : PolysIn w b off L) (hb : Below w.heap.size w w') (hB : b < w.heap.size) : PolysIn w' b off L := fun i l hi => by
  obtain ⟨A, n, c, h1, h2, h3, h4⟩ := h i l hi
  exact ⟨A, n, c, (hb.cell (p := ⟨b, _, none⟩) hB).trans h1, h2, h3, h4.below hb⟩

set_option maxRecDepth 100000 in
set_option maxHeartbeats 1000000 in
theorem checkConvex_any (b off n c : Nat) (L : List (List Pt)) (w : World) (hl : L.length = n) (hn' : n ≤ 1000) (h : PolysIn w b off L) (hb : b < w.heap.size) :
    Calls Try.prog 16 #[.slice (some ⟨b, off, none⟩) n c] w fun e w' => e = .returned (.int .i64 (convsE L)) ∧ Below w.heap.size w w' := by
  have HL := Lib.hid hl
  have HP := Lib.hid h
  clear hl h
  go_enter Try.func16, Try.ntmps16
  go_wp2
  go_loopw [7] (fun i wr => ∃ k : Nat, k ≤ n ∧ i = .int .i64 k ∧ convsE (L.drop k) = convsE L ∧ Below w.heap.size w wr) (fun i _ => n - (intOf i).toNat)
  case atStart => exact ⟨0, Nat.zero_le _, rfl, rfl, Below.refl _ _⟩
  case round =>
    obtain ⟨k, hk, rfl, hz, hbw⟩ := hrel
    have HZ := Lib.hid hz
    clear hz
    by_cases hlt : k < n
    · have hkl : k < L.length := by rw [HL.out]; exact hlt
      obtain ⟨A, m, d, h1, h2, h3, h4⟩ := (HP.out.below hbw hb) k L[k] (List.getElem?_eq_getElem hkl)
      have hB : b < wr.heap.size := Nat.lt_of_lt_of_le hb hbw.size
      have KP := fun W hW => Lib.hid (isPolygon_any A m d L[k] W h2 h3 (h4.below (w' := W) hW))
      have HE1 : Hid (conE L[k] = 0 → convsE (L.drop (k + 1)) = convsE L) := Lib.hid fun h => (convsE_skip hkl h).trans HZ.out
      have HE2 : Hid (conE L[k] ≠ 0 → convsE L = conE L[k]) := Lib.hid fun h => HZ.out.symm.trans (convsE_here hkl h)
      generalize L[k] = l at *
      cases hp : polyB l
      · have HE : Hid (convsE L = 1) := Lib.hid (by
          have e : conE l = 1 := by unfold conE; rw [hp]; rfl
          rw [HE2.out (by rw [e]; decide), e])
        rw [hp] at KP
        clear h2 h4
        go_wp2_with fail
        refine ((KP _ (Below.refl _ _)).out).mono ?_
        rintro e w1 ⟨rfl, hb1⟩
        have hbw1 := hbw.trans (hb1.mono hbw.size)
        go_wp2_with fail
        go_ret
        exact ⟨ret_int HE.out.symm, hbw1⟩
      · rw [hp] at KP
        obtain ⟨b2, off2, rfl, g1, g2, g3, g4, g5⟩ := h4.poly h2 hp
        have KC := fun W hW => Lib.hid (isConvex_any b2 off2 m d l W h2 (by omega) (by omega) (g4.below (B := wr.heap.size) hW g3) (Nat.lt_of_lt_of_le g3 hW.size) g5)
        rw [convex_same] at KC
        clear h2 h4 g4 g5
        cases hc : convexB l
        · have HE : Hid (convsE L = 2) := Lib.hid (by
            have e : conE l = 2 := by unfold conE; rw [hp, hc]; rfl
            rw [HE2.out (by rw [e]; decide), e])
          rw [hc] at KC
          go_wp2_with fail
          refine ((KP _ (Below.refl _ _)).out).mono ?_
          rintro e w1 ⟨rfl, hb1⟩
          go_wp2_with fail
          refine ((KC _ hb1).out).mono ?_
          rintro e w2 ⟨rfl, hb2⟩
          have hbw2 := hbw.trans ((hb1.trans (hb2.mono hb1.size)).mono hbw.size)
          go_wp2_with fail
          go_ret
          exact ⟨ret_int HE.out.symm, hbw2⟩
        · have HE := Lib.hid (HE1.out (by unfold conE; rw [hp, hc]; rfl))
          rw [hc] at KC
          go_wp2_with fail
          refine ((KP _ (Below.refl _ _)).out).mono ?_
          rintro e w1 ⟨rfl, hb1⟩
          go_wp2_with fail
          refine ((KC _ hb1).out).mono ?_
          rintro e w2 ⟨rfl, hb2⟩
          have hbw2 := hbw.trans ((hb1.trans (hb2.mono hb1.size)).mono hbw.size)
          go_wp2_with fail
          go_roundw
          case rel => exact ⟨k + 1, by omega, by go_num, HE.out, hbw2⟩
          case measure => simp [intOf]; omega
    · have HE : Hid (convsE L = 0) := Lib.hid (by
        rw [← HZ.out, List.drop_of_length_le (by rw [HL.out]; omega)]; rfl)
      go_wp2_with fail
      go_ret
      exact ⟨ret_int HE.out.symm, hbw⟩

theorem lawConvex_any (A : Option Addr) (n c : Nat) (l : List Pt) (w : World) (hn : l.length = n) (hbig : n ≤ 1000000) (hx : PtsAt w A l) :
    Calls Try.prog 7 #[.slice A n c] w fun e w' => e = .returned (.int .i64 (conE l)) ∧ Below w.heap.size w w' := by
  have K := Lib.hid (polygonX_any A n c l w hn hbig hx)
  cases hp : polyB l
  · have e1 : conE l = 1 := by unfold conE; rw [hp]; rfl
    rw [e1]
    rw [hp] at K
    clear hn hx
    go_enter Try.func7, Try.ntmps7
    go_wp2_with fail
    refine (K.out).mono ?_
    rintro e w' ⟨rfl, hb⟩
    go_wp2
    go_ret
    exact ⟨rfl, hb⟩
  · have e1 : conE l = if convexB l then 0 else 2 := by unfold conE; rw [hp]; rfl
    have E1 := Lib.hid e1
    rw [hp] at K
    obtain ⟨b, off, rfl, h1, h2, h3, h4, h5⟩ := hx.poly hn hp
    have S := fun W hW => Lib.hid (convex_any b off n c l W hn (by omega) (by omega) (h4.below (B := w.heap.size) hW h3) (Nat.lt_of_lt_of_le h3 hW.size) h5)
    clear hn hx h4 h5 e1
    generalize conE l = r at *
    cases hs : convexB l
    all_goals
      have E2 := Lib.hid (E1.out.trans (by rw [hs]))
      rw [hs] at S
      go_enter Try.func7, Try.ntmps7
      go_wp2_with fail
      refine (K.out).mono ?_
      rintro e w1 ⟨rfl, hb⟩
      go_wp2_with fail
      refine ((S _ hb).out).mono ?_
      rintro e w2 ⟨rfl, hb2⟩
      go_wp2
      go_ret
      exact ⟨ret_int E2.out.symm, hb.trans (hb2.mono hb.size)⟩

theorem ok_Bd {l : List Pt} (h : l.all okP = true) : ∀ x ∈ l, Bd x := fun x hx => Bd.of_ok (List.all_eq_true.1 h x hx)
theorem moved_Bd {l : List Pt} {v : Pt} (h : l.all okP = true) (hv : validB v.1 v.2 20000 = true) : ∀ x ∈ movedL l v, Bd x := fun x hx => by
  obtain ⟨p, hp, rfl⟩ := List.mem_map.1 hx
  obtain ⟨h1, h2⟩ := okP_bd (List.all_eq_true.1 h p hp)
  have : (-20000 ≤ v.1 ∧ v.1 ≤ 20000) ∧ (-20000 ≤ v.2 ∧ v.2 ≤ 20000) := by simpa [validB, inB] using hv
  unfold Bd addP
  simp only
  omega
theorem valid_Bd2 {v : Pt} (hv : validB v.1 v.2 20000 = true) : Bd v := by
  have : (-20000 ≤ v.1 ∧ v.1 ≤ 20000) ∧ (-20000 ≤ v.2 ∧ v.2 ≤ 20000) := by simpa [validB, inB] using hv
  unfold Bd
  omega

/-- What Apart says: whether, and the error. -/
def apE (a b : List Pt) (v : Pt) : Int := if conE a = 0 then (if conE b = 0 then (if validB v.1 v.2 20000 then 0 else 1) else conE b) else conE a
def apX (a b : List Pt) (v : Pt) : Bool := if apE a b v = 0 then apartB a (movedL b v) else false
theorem apE_zero {a b : List Pt} {v : Pt} (h : apE a b v = 0) : conE a = 0 ∧ conE b = 0 ∧ validB v.1 v.2 20000 = true := by
  unfold apE at h
  split at h
  · split at h
    · split at h
      · exact ⟨by assumption, by assumption, by assumption⟩
      · cases h
    · rename_i h1 h2; exact absurd h h2
  · rename_i h2; exact absurd h h2
theorem convs_two (a b : List Pt) : convsE [a, b] = if conE a = 0 then conE b else conE a := by
  show (if conE a = 0 then (if conE b = 0 then 0 else conE b) else conE a) = _
  split
  · split
    · rename_i h; exact h.symm
    · rfl
  · rfl

end Go.Proofs.Ythbekbfhpedghaa

/- The reference's Moved, parts and Apart. -/
namespace Go.Proofs.Ythbekbfhpedghaa
open Go.RowKit Go.Sort
attribute [local go_sem ↓] run_min_mn run_max_mx Go.wp_at_zero Go.wp_at_succ

theorem PtsOwn.low {w : World} {base base' : Nat} {v : Value} {xs : List Pt} (h : PtsOwn w base v xs) (hb : base' ≤ base) : PtsOwn w base' v xs := by
  unfold PtsOwn World.ownsRow at *
  obtain ⟨h1, h2⟩ := h
  refine ⟨h1, ?_⟩
  rcases h2 with h2 | ⟨g, cap, cur, e, hg, r⟩
  · exact .inl h2
  · exact .inr ⟨g, cap, cur, e, Nat.le_trans hb hg, r⟩
theorem PtsOwn.alloc {w : World} {base : Nat} {v : Value} {xs : List Pt} (h : PtsOwn w base v xs) (o : Obj) : PtsOwn (w.alloc o) base v xs := World.ownsRow.alloc h o
theorem PtsOwn.drew {w : World} {base : Nat} {v : Value} {xs : List Pt} (h : PtsOwn w base v xs) : PtsOwn w.drew base v xs := h
theorem PtsOwn.base {w : World} {base : Nat} {v : Value} {xs : List Pt} (h : PtsOwn w base v xs) : ∀ k, v.ownBlock = some k → base ≤ k ∧ k < w.heap.size := World.ownsRow.lt h
theorem PtsAt.one (W : World) (x y : Int) : PtsAt (W.alloc (.cells #[.int .i64 x, .int .i64 y] 37)) (some ⟨W.heap.size, 0, none⟩) [(x, y)] := fun _ =>
  ⟨W.heap.size, 0, rfl, by simp, fun i p hp => by
    match i, hp with
    | 0, hp =>
      obtain rfl : (x, y) = p := by simpa using hp
      constructor <;> simp [World.cell?_alloc_new]⟩

/-- An append as one step of a region that draws its order. -/
theorem step_papp {w : World} {ops : Array Oper} {o : Oper} {a : Act} {K : Act → World → Prop} {Q : Exit → Act → World → Prop} {E : Prop} (hgd : o.guard = none) (s x : Operand)
    (ho : o.op = .call { callee := .builtin .append, args := #[s, x], argTypes := #[24, 24] }) (base : Nat) (v : Value) (xs ys : List Pt) (A : Option Addr) (m c : Nat)
    (hs : a.eval s = v) (hx : a.eval x = .slice A m c) (hown : PtsOwn w base v xs) (hm : ys.length = m) (hy : PtsAt w A ys) (hlen : xs.length + ys.length ≤ 100000) (hb : base ≤ w.heap.size)
    (h : ∀ v' w', PtsOwn w' base v' (xs ++ ys) → w.grownBy w' v.ownBlock → (v'.ownBlock = v.ownBlock ∨ v'.ownBlock = some w.heap.size) → K (a.put o.dst v') w') :
    if Region.wanted o (yielded ops a.tmps) = true then Oper.wp Try.prog o a w K Q else E := by
  have hw : Region.wanted o (yielded ops a.tmps) = true := by simp [Region.wanted, hgd]
  rw [if_pos hw]
  subst hm
  obtain ⟨v', w', hr, h2, h3, h4⟩ := papp_run hown c hy hlen hb o.type
  unfold Oper.wp execOp
  simp only [ho, resolve, invoke, builtin, Sem.run_bind, Sem.run_pure, Result.andThen_ok, List.map_toArray, List.map_cons, List.map_nil, hs, hx, hr]
  exact h v' w' h2 h3 h4

/-- Four cells of old blocks stay behind an append to a row of the call's own. -/
theorem cells4_grown {w W w1 : World} {b o1 o2 g B : Nat} {v1 v2 v3 v4 : Value} {row : Option Nat} (hg : W.grownBy w1 row) (hr : ∀ k, row = some k → B ≤ k) (hb : b < B) (hgg : g < B) (hs : B ≤ W.heap.size)
    (h : W.cell? ⟨b, o1, none⟩ = some v1 ∧ W.cell? ⟨b, o2, none⟩ = some v2 ∧ W.cell? ⟨g, 0, none⟩ = some v3 ∧ W.cell? ⟨g, 1, none⟩ = some v4) :
    w1.cell? ⟨b, o1, none⟩ = some v1 ∧ w1.cell? ⟨b, o2, none⟩ = some v2 ∧ w1.cell? ⟨g, 0, none⟩ = some v3 ∧ w1.cell? ⟨g, 1, none⟩ = some v4 := by
  have hB : Below B W w1 := (Below.refl _ _).grown hg hs hr
  exact ⟨(hB.cell (p := ⟨b, _, none⟩) hb).trans h.1, (hB.cell (p := ⟨b, _, none⟩) hb).trans h.2.1, (hB.cell (p := ⟨g, _, none⟩) hgg).trans h.2.2.1, (hB.cell (p := ⟨g, _, none⟩) hgg).trans h.2.2.2⟩

def RefMovedTo (l : List Pt) (w : World) (e : Ending) (w' : World) : Prop := ∃ v, e = .returned v ∧ PtsOwn w' w.heap.size v l ∧ Below w.heap.size w w'

set_option maxRecDepth 100000 in
set_option maxHeartbeats 2000000 in
theorem refMoved_any (b off n c : Nat) (l : List Pt) (v : Pt) (w : World) (hl : l.length = n) (hn' : n ≤ 100) (h : PtsIn w b off l) (hb : b < w.heap.size) (hbd : ∀ i, Bd (gt l i)) (hv : Bd v) :
    Calls Try.prog 13 #[.slice (some ⟨b, off, none⟩) n c, .agg #[.int .i64 v.1, .int .i64 v.2]] w (RefMovedTo (movedL l v) w) := by
  have HL := Lib.hid hl
  have HP := Lib.hid h
  have HBD := Lib.hid hbd
  obtain ⟨vx, vy⟩ := v
  obtain ⟨hv1, hv2⟩ := hv
  clear hl h hbd
  go_enter Try.func13, Try.ntmps13
  go_upto_region 1 with (fail)
  have B : PtAt (w.alloc (bx vx vy)) w.heap.size vx vy := PtAt.new
  have hb0 : Below w.heap.size w (w.alloc (bx vx vy)) := (Below.refl _ _).alloc (Nat.le_refl _) _
  have hz0 : (w.alloc (bx vx vy)).heap.size = w.heap.size + 1 := by simp
  generalize w.alloc (bx vx vy) = w0 at *
  generalize hgg : w.heap.size = gg at *
  go_wp2_with fail
  have O0 : PtsOwn (w0.alloc (.cells #[] 37)) (gg + 1) (.slice (some ⟨gg + 1, 0, none⟩) 0 0) [] := by
    have := PtsOwn.empty w0
    rwa [hz0] at this
  have hb1 : Below w0.heap.size w0 (w0.alloc (.cells #[] 37)) := (Below.refl _ _).alloc (Nat.le_refl _) _
  have hz1 : (w0.alloc (.cells #[] 37)).heap.size = gg + 2 := by simp; omega
  generalize w0.alloc (.cells #[] 37) = w1 at *
  have hb2 : Below gg w w1 := hb0.trans (hb1.mono (by omega))
  have B1 : PtAt w1 gg vx vy := PtAt.below hb1 (by omega) B
  clear hb0 hb1 B
  have HP1 := Lib.hid (HP.out.below hb2 hb)
  go_loopw [5, 6] (fun s i wr => ∃ k : Nat, k ≤ n ∧ i = .int .i64 k ∧ PtsOwn wr (gg + 1) s (movedL (l.take k) (vx, vy)) ∧ Below (gg + 1) w1 wr) (fun _ i _ => n - (intOf i).toNat)
  case atStart => exact ⟨0, Nat.zero_le _, rfl, by simpa [movedL] using O0, Below.refl _ _⟩
  case round =>
    clear O0
    obtain ⟨k, hk, rfl, hO, hbr⟩ := hrel
    have HO := Lib.hid hO
    clear hO
    obtain ⟨p1, p2⟩ := PtAt.below hbr (by omega) B1
    have hgr : gg + 2 ≤ wr.heap.size := by have := hbr.size; omega
    have hg1 : gg < wr.heap.size := by omega
    by_cases hlt : k < n
    · have hkl : k < l.length := by rw [HL.out]; exact hlt
      obtain ⟨h1, h2⟩ := (HP1.out.below hbr (by omega)) k (gt l k) (by unfold gt; rw [List.getD_eq_getElem?_getD, List.getElem?_eq_getElem hkl]; rfl)
      have hB : b < wr.heap.size := by omega
      obtain ⟨d1, d2⟩ := HBD.out k
      have HN : Hid (movedL (l.take (k + 1)) (vx, vy) = movedL (l.take k) (vx, vy) ++ [addP (gt l k) (vx, vy)]) := Lib.hid (by
        rw [List.take_succ_eq_append_getElem hkl]
        unfold movedL
        rw [List.map_append]
        simp [gt, List.getD, hkl])
      have HLN : Hid ((movedL (l.take k) (vx, vy)).length ≤ 100) := Lib.hid (by rw [movedL_length, List.length_take]; omega)
      generalize gt l k = p at *
      generalize movedL (l.take k) (vx, vy) = cur at *
      obtain ⟨x, y⟩ := p
      replace d1 : -60000 ≤ x ∧ x ≤ 60000 := d1
      replace d2 : -60000 ≤ y ∧ y ≤ 60000 := d2
      obtain ⟨d3, d4⟩ := d1
      obtain ⟨d5, d6⟩ := d2
      obtain ⟨v3, v4⟩ := hv1
      obtain ⟨v5, v6⟩ := hv2
      have ne1 : u5.ownBlock ≠ some b := fun e => by have := (HO.out.base b e).1; omega
      have ne2 : u5.ownBlock ≠ some gg := fun e => by have := (HO.out.base gg e).1; omega
      have l1 : b < (wr.alloc (.cells #[.int .i64 (IntKind.i64.wrap (x + vx)), .int .i64 (IntKind.i64.wrap (y + vy))] 37)).drew.heap.size := by simp; omega
      have l2 : gg < (wr.alloc (.cells #[.int .i64 (IntKind.i64.wrap (x + vx)), .int .i64 (IntKind.i64.wrap (y + vy))] 37)).drew.heap.size := by simp; omega
      have k1 : (wr.alloc (.cells #[.int .i64 (IntKind.i64.wrap (x + vx)), .int .i64 (IntKind.i64.wrap (y + vy))] 37)).drew.cell? ⟨b, off + k * 2, none⟩ = some (.int .i64 x) := (World.cell?_alloc_lt wr _ ⟨b, _, none⟩ hB).trans h1
      have k2 : (wr.alloc (.cells #[.int .i64 (IntKind.i64.wrap (x + vx)), .int .i64 (IntKind.i64.wrap (y + vy))] 37)).drew.cell? ⟨b, off + k * 2 + 1, none⟩ = some (.int .i64 y) := (World.cell?_alloc_lt wr _ ⟨b, _, none⟩ hB).trans h2
      have k3 : (wr.alloc (.cells #[.int .i64 (IntKind.i64.wrap (x + vx)), .int .i64 (IntKind.i64.wrap (y + vy))] 37)).drew.cell? ⟨gg, 0, none⟩ = some (.int .i64 vx) := (World.cell?_alloc_lt wr _ ⟨gg, _, none⟩ hg1).trans p1
      have k4 : (wr.alloc (.cells #[.int .i64 (IntKind.i64.wrap (x + vx)), .int .i64 (IntKind.i64.wrap (y + vy))] 37)).drew.cell? ⟨gg, 1, none⟩ = some (.int .i64 vy) := (World.cell?_alloc_lt wr _ ⟨gg, _, none⟩ hg1).trans p2
      go_wp2_with fail
      go_region_held3 (fun w' => w'.cell? ⟨b, off + k * 2, none⟩ = some (.int .i64 x) ∧ w'.cell? ⟨b, off + k * 2 + 1, none⟩ = some (.int .i64 y) ∧ w'.cell? ⟨gg, 0, none⟩ = some (.int .i64 vx) ∧ w'.cell? ⟨gg, 1, none⟩ = some (.int .i64 vy))
        (first
          | go_keep
          | exact ⟨(hgrow.cell_far _ l1 (Ne.symm ne1)).trans k1, (hgrow.cell_far _ l1 (Ne.symm ne1)).trans k2, (hgrow.cell_far _ l2 (Ne.symm ne2)).trans k3, (hgrow.cell_far _ l2 (Ne.symm ne2)).trans k4⟩)
        ((refine step_papp (by rfl) _ _ (by rfl) (gg + 1) _ cur [(IntKind.i64.wrap (x + vx), IntKind.i64.wrap (y + vy))] (some ⟨wr.heap.size, 0, none⟩) 1 1 (by rfl) (by rfl) ((HO.out.alloc _).drew) rfl (PtsAt.one wr _ _) (by have := HLN.out; simp; omega) (by simp; omega) ?_; intro v1 w2 hown1 hgrow hat))
      have e1 : IntKind.i64.wrap (x + vx) = x + vx := by rw [IntKind.wrap_i64]; omega
      have e2 : IntKind.i64.wrap (y + vy) = y + vy := by rw [IntKind.wrap_i64]; omega
      have HO2 : Hid (PtsOwn w2 (gg + 1) v1 (movedL (l.take (k + 1)) (vx, vy))) := Lib.hid (by
        rw [HN.out]
        rw [e1, e2] at hown1
        exact hown1)
      have HB2 : Hid (Below (gg + 1) w1 w2) := Lib.hid ((hbr.alloc (by omega) _).drew.grown hgrow (by simp; omega) (fun k hk => (HO.out.base k hk).1))
      clear hown1 hgrow hat k1 k2 k3 k4 l1 l2 e1 e2
      go_wp2_with fail
      go_roundw
      case rel => exact ⟨k + 1, by omega, by go_num, HO2.out, HB2.out⟩
      case measure => simp [intOf]; omega
    · obtain rfl : k = n := by omega
      have HF : Hid (movedL (l.take k) (vx, vy) = movedL l (vx, vy)) := Lib.hid (by rw [List.take_of_length_le (by rw [HL.out]; omega)])
      generalize movedL (l.take k) (vx, vy) = cur at *
      have HBB := Lib.hid (hb2.trans (hbr.mono (by omega)))
      go_wp2_with fail
      go_ret
      exact ⟨_, rfl, by rw [← HF.out, hgg]; exact HO.out.low (by omega), by rw [hgg]; exact HBB.out⟩

def rightQ (p q x : Pt) : Bool := decide (crossP p q x ≤ 0)
def partsAt (a b : List Pt) (i : Nat) : Bool := b.all (rightQ (gt a i) (nx a i))
def partsB (a b : List Pt) : Bool := (List.range a.length).any (partsAt a b)
theorem parts_at (a b : List Pt) (i : Nat) : partsAt a b i = beyondAt a b i := by
  unfold partsAt beyondAt anyLeft
  generalize gt a i = p
  generalize nx a i = q
  induction b with
  | nil => rfl
  | cons x b ih =>
    rw [List.all_cons, List.any_cons, ih, Bool.not_or]
    congr 1
    unfold rightQ leftQ
    by_cases h : crossP p q x ≤ 0
    · rw [decide_eq_true h, decide_eq_false (by omega)]; rfl
    · rw [decide_eq_false h, decide_eq_true (by omega)]; rfl
theorem parts_same (a b : List Pt) : partsB a b = beyondB a b := by
  unfold partsB beyondB
  rw [show partsAt a b = beyondAt a b from funext (parts_at a b)]

set_option maxRecDepth 100000 in
set_option maxHeartbeats 2000000 in
theorem parts_any (b off n c b' off' m d : Nat) (l r : List Pt) (w : World) (hl : l.length = n) (hn : 0 < n) (hn' : n ≤ 100) (h : PtsIn w b off l) (hb : b < w.heap.size) (hbd : ∀ i, Bd (gt l i))
    (hm : r.length = m) (hm' : m ≤ 100) (hr : PtsIn w b' off' r) (hb' : b' < w.heap.size) (hrd : ∀ i, Bd (gt r i)) :
    Calls Try.prog 27 #[.slice (some ⟨b, off, none⟩) n c, .slice (some ⟨b', off', none⟩) m d] w fun e w' => e = .returned (.bool (partsB l r)) ∧ Below w.heap.size w w' := by
  have HL := Lib.hid hl
  have HP := Lib.hid h
  have HBD := Lib.hid hbd
  have HM := Lib.hid hm
  have HR := Lib.hid hr
  have HRD := Lib.hid hrd
  clear hl h hbd hm hr hrd
  go_enter Try.func27, Try.ntmps27
  go_wp2
  go_loopw [5] (fun i wr => ∃ k : Nat, k ≤ n ∧ i = .int .i64 k ∧ (∀ j, j < k → partsAt l r j = false) ∧ Below w.heap.size w wr) (fun i _ => n - (intOf i).toNat)
  case atStart => exact ⟨0, Nat.zero_le _, rfl, by omega, Below.refl _ _⟩
  case round =>
    obtain ⟨k, hk, rfl, hz, hbw⟩ := hrel
    have HZ := Lib.hid hz
    clear hz
    by_cases hlt : k < n
    · have HPw : Hid (PtsIn wr b off l) := Lib.hid (HP.out.below hbw hb)
      have HRw : Hid (PtsIn wr b' off' r) := Lib.hid (HR.out.below hbw hb')
      have hB : b < wr.heap.size := Nat.lt_of_lt_of_le hb hbw.size
      have hB' : b' < wr.heap.size := Nat.lt_of_lt_of_le hb' hbw.size
      have HBW := Lib.hid hbw
      obtain ⟨wo, rfl⟩ : ∃ wo : World, wo = wr := ⟨_, rfl⟩
      clear hbw
      go_wp2_with fail
      go_loopw [6, 7] (fun s i wr => ∃ q : Nat, q ≤ m ∧ i = .int .i64 q ∧ s = .bool ((r.take q).all (rightQ (gt l k) (nx l k))) ∧ Below wo.heap.size wo wr) (fun _ i _ => m - (intOf i).toNat)
      case atStart => exact ⟨0, Nat.zero_le _, rfl, rfl, Below.refl _ _⟩
      case round =>
        obtain ⟨q, hq, rfl, rfl, hbr⟩ := hrel
        by_cases hlq : q < m
        · have hql : q < r.length := by rw [HM.out]; exact hlq
          have HB1 : b < wr.heap.size := Nat.lt_of_lt_of_le hB hbr.size
          have HB2 : b' < wr.heap.size := Nat.lt_of_lt_of_le hB' hbr.size
          obtain ⟨h1, h2⟩ := (HPw.out.below hbr hB) k (gt l k) (by unfold gt; rw [List.getD_eq_getElem?_getD, List.getElem?_eq_getElem (by rw [HL.out]; exact hlt)]; rfl)
          obtain ⟨h3, h4⟩ := (HRw.out.below hbr hB') q (gt r q) (by unfold gt; rw [List.getD_eq_getElem?_getD, List.getElem?_eq_getElem hql]; rfl)
          have N := fun W hW => Lib.hid (next_any b off n c l k W HL.out (by omega) (by omega) (by omega) ((HPw.out.below hbr hB).below (B := wr.heap.size) hW HB1))
          have d1 := HBD.out k
          have d2 := HBD.out ((k + 1) % l.length)
          rw [← nx_gt] at d2
          have d3 := HRD.out q
          have HS : Hid ((r.take (q + 1)).all (rightQ (gt l k) (nx l k)) = ((r.take q).all (rightQ (gt l k) (nx l k)) && decide (crossP (gt l k) (nx l k) (gt r q) ≤ 0))) := Lib.hid (by
            rw [List.take_succ_eq_append_getElem hql, List.all_append]
            simp [rightQ, gt, List.getD, hql])
          generalize (r.take q).all (rightQ (gt l k) (nx l k)) = t at *
          generalize gt l k = p1 at *
          generalize nx l k = p2 at *
          generalize gt r q = p3 at *
          obtain ⟨x, y⟩ := p1
          obtain ⟨qx, qy⟩ := p2
          obtain ⟨rx, ry⟩ := p3
          have C := fun W => Lib.hid (cross_any x y qx qy rx ry W d1.1 d1.2 d2.1 d2.2 d3.1 d3.2)
          replace HS : Hid ((r.take (q + 1)).all (rightQ (x, y) (qx, qy)) = (t && decide (cross x y qx qy rx ry ≤ 0))) := HS
          clear d1 d2 d3
          generalize cross x y qx qy rx ry = cr at *
          have K1 := fun d os => Lib.hid (Calls.regrown_of ((N (grow (redrawn wr d) os) (below_regrown wr d os)).out))
          have K2 := fun d os => Lib.hid (Calls.regrown_of ((C (grow (redrawn wr d) os)).out))
          have t1 := cell_regrown h1
          have t2' := cell_regrown h2
          have t3 := cell_regrown h3
          have t4 := cell_regrown h4
          clear h1 h2 h3 h4 N C
          cases t
          all_goals
            go_wp2_with fail
            refine wp_region_quiet_below (by kernel_rfl) (by kernel_rfl) ?_
            repeat (go_big_quiet_step (first | (with_reducible exact (K1 _ _).out) | (with_reducible exact (K2 _ _).out)))
            refine wpQuiet_nil ?_
            intro _ hw'
            obtain ⟨⟨dq, osq⟩, hw''⟩ := hw'
            subst hw''
            have HBE := Lib.hid (hbr.trans ((below_regrown wr dq osq).mono hbr.size))
            go_wp2_with fail
            go_roundw
            case rel => exact ⟨q + 1, by omega, by go_num, by rw [HS.out]; simp, HBE.out⟩
            case measure => simp [intOf]; omega
        · obtain rfl : q = m := by omega
          have HT : Hid ((r.take q).all (rightQ (gt l k) (nx l k)) = partsAt l r k) := Lib.hid (by rw [List.take_of_length_le (by rw [HM.out]; omega)]; rfl)
          have HBE := Lib.hid (HBW.out.trans (hbr.mono HBW.out.size))
          generalize (r.take q).all (rightQ (gt l k) (nx l k)) = t at *
          cases t
          · go_wp2_with fail
            go_roundw
            case rel =>
              refine ⟨k + 1, by omega, by go_num, fun j hj => ?_, HBE.out⟩
              rcases Nat.lt_or_eq_of_le (Nat.le_of_lt_succ hj) with h' | h'
              · exact HZ.out j h'
              · rw [h']; exact HT.out.symm
            case measure => simp [intOf]; omega
          · have HF : Hid (partsB l r = true) := Lib.hid (List.any_eq_true.2 ⟨k, List.mem_range.2 (by rw [HL.out]; exact hlt), HT.out.symm⟩)
            go_wp2_with fail
            go_ret
            exact ⟨ret_bool HF.out.symm, HBE.out⟩
    · obtain rfl : k = n := by omega
      have HF : Hid (partsB l r = false) := Lib.hid (by
        unfold partsB
        rw [List.any_eq_false]
        intro j hj
        rw [HZ.out j (by have := List.mem_range.1 hj; rwa [HL.out] at this)]
        simp)
      go_wp2_with fail
      go_ret
      exact ⟨ret_bool HF.out.symm, hbw⟩

theorem refApart_any (b off n c b' off' m d : Nat) (l r : List Pt) (w : World) (hl : l.length = n) (hn : 0 < n) (hn' : n ≤ 100) (h : PtsIn w b off l) (hb : b < w.heap.size) (hbd : ∀ x ∈ l, Bd x)
    (hm : r.length = m) (hm0 : 0 < m) (hm' : m ≤ 100) (h' : PtsIn w b' off' r) (hb' : b' < w.heap.size) (hrd : ∀ x ∈ r, Bd x) :
    Calls Try.prog 15 #[.slice (some ⟨b, off, none⟩) n c, .slice (some ⟨b', off', none⟩) m d] w fun e w' => e = .returned (.bool (apartB l r)) ∧ Below w.heap.size w w' := by
  have gt_bd : ∀ (l : List Pt), (∀ x ∈ l, Bd x) → ∀ i, Bd (gt l i) := fun l hl i => by
    unfold gt
    rw [List.getD_eq_getElem?_getD]
    cases e : l[i]? with
    | none => exact ⟨by decide, by decide⟩
    | some x => exact hl x (List.mem_of_getElem? e)
  have K1 := fun W (hW : Below w.heap.size w W) => Lib.hid (parts_any b off n c b' off' m d l r W hl hn hn' (h.below hW hb) (Nat.lt_of_lt_of_le hb hW.size) (gt_bd l hbd) hm hm' (h'.below hW hb') (Nat.lt_of_lt_of_le hb' hW.size) (gt_bd r hrd))
  have K2 := fun W (hW : Below w.heap.size w W) => Lib.hid (parts_any b' off' m d b off n c r l W hm hm0 hm' (h'.below hW hb') (Nat.lt_of_lt_of_le hb' hW.size) (gt_bd r hrd) hl hn' (h.below hW hb) (Nat.lt_of_lt_of_le hb hW.size) (gt_bd l hbd))
  rw [parts_same] at K1 K2
  have E : Hid (apartB l r = (beyondB l r || beyondB r l)) := Lib.hid rfl
  clear hl h hbd hm h' hrd gt_bd
  generalize apartB l r = t at *
  generalize beyondB l r = t1 at *
  generalize beyondB r l = t2 at *
  cases t1
  · go_enter Try.func15, Try.ntmps15
    go_wp2_with fail
    refine ((K1 _ (Below.refl _ _)).out).mono ?_
    rintro e w1 ⟨rfl, hb1⟩
    go_wp2_with fail
    refine ((K2 _ hb1).out).mono ?_
    rintro e w2 ⟨rfl, hb2⟩
    have hb3 := hb1.trans (hb2.mono hb1.size)
    go_wp2
    go_ret
    exact ⟨ret_bool (by rw [E.out]; rfl), hb3⟩
  · go_enter Try.func15, Try.ntmps15
    go_wp2_with fail
    refine ((K1 _ (Below.refl _ _)).out).mono ?_
    rintro e w1 ⟨rfl, hb1⟩
    go_wp2
    go_ret
    exact ⟨ret_bool (by rw [E.out]; rfl), hb1⟩
end Go.Proofs.Ythbekbfhpedghaa

/- Package shape's chain. -/
namespace Go.Proofs.Ythbekbfhpedghaa
open Go.RowKit Go.Sort
attribute [local go_sem ↓] run_min_mn run_max_mx Go.wp_at_zero Go.wp_at_succ

theorem PtsOwn.nil (w : World) (base : Nat) : PtsOwn w base (.slice none 0 0) [] := by
  unfold PtsOwn World.ownsRow
  exact ⟨by simp [ptsV], .inl ⟨rfl, rfl⟩⟩
theorem ptsV_take : ∀ (l : List Pt) (k : Nat), (ptsV l).take (k * 2) = ptsV (l.take k)
  | [], k => by simp [ptsV]
  | p :: l, 0 => by simp [ptsV]
  | p :: l, k + 1 => by
    rw [show (k + 1) * 2 = k * 2 + 1 + 1 by omega]
    simp only [ptsV, List.take_succ_cons, ptsV_take l k]
theorem PtsOwn.shrink {w : World} {base : Nat} {A : Option Addr} {n c : Nat} {l : List Pt} (h : PtsOwn w base (.slice A n c) l) (hn : l.length = n) {k : Nat} (hk : k ≤ n) : PtsOwn w base (.slice A k c) (l.take k) := by
  have hlen : (l.take k).length = k := by rw [List.length_take]; omega
  unfold PtsOwn World.ownsRow at *
  rw [hn] at h
  rw [hlen]
  obtain ⟨h1, h2⟩ := h
  refine ⟨by rw [ptsV_length, hlen], ?_⟩
  rcases h2 with ⟨e1, e2⟩ | ⟨g, cap, cur, e, hb, hg, hnc, hh, hsz, ht⟩
  · left
    have : n = 0 := e2
    have hk0 : k = 0 := by omega
    subst hk0
    simp only [Value.slice.injEq] at e1
    exact ⟨by rw [e1.1, e1.2.2], rfl⟩
  · right
    simp only [Value.slice.injEq] at e
    obtain ⟨rfl, -, rfl⟩ := e
    refine ⟨g, c, cur, rfl, hb, hg, by omega, hh, hsz, ?_⟩
    rw [← ptsV_take, ← ht, List.take_take]
    congr 1
    omega
theorem PtsOwn.belows {w w' : World} {base B : Nat} {v : Value} {xs : List Pt} (h : PtsOwn w base v xs) (hb : Below B w w') (hB : w.heap.size ≤ B) : PtsOwn w' base v xs := by
  unfold PtsOwn World.ownsRow at *
  obtain ⟨h1, h2⟩ := h
  refine ⟨h1, ?_⟩
  rcases h2 with h2 | ⟨g, cap, cur, e, hb1, hg, hr⟩
  · exact .inl h2
  · exact .inr ⟨g, cap, cur, e, hb1, (hb.block g (Nat.lt_of_lt_of_le (Array.getElem?_eq_some_iff.1 hg).1 hB)).trans hg, hr⟩

theorem popW_suffix (x : Pt) : ∀ st : List Pt, popW x st <:+ st
  | [] => List.suffix_refl _
  | [_] => List.suffix_refl _
  | b :: a :: r => by
    rw [popW]
    split
    · exact (popW_suffix x (a :: r)).trans (List.suffix_cons _ _)
    · exact List.suffix_refl _
theorem chainW_mem : ∀ (l st : List Pt) (s : Pt), s ∈ l.foldl pushW st → s ∈ l ∨ s ∈ st
  | [], _, _, h => .inr h
  | x :: l, st, s, h => by
    rcases chainW_mem l (pushW st x) s h with h | h
    · exact .inl (List.mem_cons_of_mem _ h)
    · rcases List.mem_cons.1 h with rfl | h
      · exact .inl (by simp)
      · exact .inr ((popW_suffix x st).subset h)
theorem chainW_len : ∀ (l st : List Pt), (l.foldl pushW st).length ≤ l.length + st.length
  | [], _ => by simp
  | x :: l, st => by
    have h1 := chainW_len l (pushW st x)
    have h2 := (popW_suffix x st).length_le
    simp only [List.foldl_cons, List.length_cons, pushW] at h1 ⊢
    omega

theorem PtsOwn.slice_n {w : World} {base : Nat} {v : Value} {l : List Pt} (h : PtsOwn w base v l) {n : Nat} (hn : l.length = n) : ∃ A c, v = .slice A n c ∧ n ≤ c ∧ PtsAt w A l := by
  obtain ⟨A, c, h1, h2, h3, _⟩ := h.slice
  exact ⟨A, c, by rw [h1, hn], by rw [← hn]; exact h2, h3⟩
def slLen : Value → Nat
  | .slice _ n _ => n
  | _ => 0

set_option maxRecDepth 100000 in
set_option maxHeartbeats 4000000 in
theorem chain_any (b off n c : Nat) (l : List Pt) (w : World) (hl : l.length = n) (hn' : n ≤ 100) (h : PtsIn w b off l) (hb : b < w.heap.size) (hbd : ∀ x ∈ l, Bd x) :
    Calls Try.prog 65 #[.slice (some ⟨b, off, none⟩) n c] w (RefMovedTo (chainW l).reverse w) := by
  have HL := Lib.hid hl
  have HP := Lib.hid h
  have HBD := Lib.hid hbd
  clear hl h hbd
  go_enter Try.func65, Try.ntmps65
  go_wp2
  go_loopw [3, 8] (fun s i wr => ∃ k : Nat, k ≤ n ∧ i = .int .i64 k ∧ PtsOwn wr w.heap.size s ((l.take k).foldl pushW []).reverse ∧ Below w.heap.size w wr) (fun _ i _ => n - (intOf i).toNat)
  case atStart => exact ⟨0, Nat.zero_le _, rfl, PtsOwn.nil _ _, Below.refl _ _⟩
  case round =>
    obtain ⟨k, hk, rfl, hO, hbw⟩ := hrel
    have HO := Lib.hid hO
    have HBW := Lib.hid hbw
    clear hO
    by_cases hlt : k < n
    · have hkl : k < l.length := by rw [HL.out]; exact hlt
      obtain ⟨h1, h2⟩ := (HP.out.below hbw hb) k (gt l k) (by unfold gt; rw [List.getD_eq_getElem?_getD, List.getElem?_eq_getElem hkl]; rfl)
      have hB : b < wr.heap.size := Nat.lt_of_lt_of_le hb hbw.size
      have HN : Hid ((l.take (k + 1)).foldl pushW [] = pushW ((l.take k).foldl pushW []) (gt l k)) := Lib.hid (by
        rw [List.take_succ_eq_append_getElem hkl, List.foldl_append]
        simp [gt, List.getD, hkl])
      have HM : Hid (∀ s ∈ (l.take k).foldl pushW [], Bd s) := Lib.hid fun s hs => by
        rcases chainW_mem _ _ _ hs with h | h
        · exact HBD.out s (List.take_subset _ _ h)
        · cases h
      have HLN : Hid (((l.take k).foldl pushW []).length ≤ 100) := Lib.hid (by
        have := chainW_len (l.take k) []
        rw [List.length_take] at this
        simp only [List.length_nil] at this
        omega)
      have hx : Bd (gt l k) := HBD.out _ (by unfold gt; rw [List.getD_eq_getElem?_getD, List.getElem?_eq_getElem hkl]; exact List.getElem_mem hkl)
      generalize (l.take k).foldl pushW [] = st0 at *
      generalize gt l k = p at *
      obtain ⟨x, y⟩ := p
      obtain ⟨x1, x2⟩ := hx
      have hsz := hbw.size
      clear hbw
      obtain ⟨wo, rfl⟩ : ∃ wo : World, wo = wr := ⟨_, rfl⟩
      have Bq : PtAt (wo.alloc (bx x y)) wo.heap.size x y := PtAt.new
      have hbq : Below wo.heap.size wo (wo.alloc (bx x y)) := (Below.refl _ _).alloc (Nat.le_refl _) _
      have hzq : (wo.alloc (bx x y)).heap.size = wo.heap.size + 1 := by simp
      have O1 : PtsOwn (wo.alloc (bx x y)) w.heap.size u3 st0.reverse := HO.out.alloc _
      have HBQ : Hid (Below w.heap.size w (wo.alloc (bx x y))) := Lib.hid (HBW.out.trans (hbq.mono HBW.out.size))
      go_wp2_with fail
      generalize wo.alloc (bx x y) = wq at *
      generalize hgq : wo.heap.size = gq at *
      have HO1 := Lib.hid O1
      clear O1 hbq HO HBW h1 h2
      go_loopw [3] (fun s wi => ∃ st, PtsOwn wi w.heap.size s (List.reverse st) ∧ popW (x, y) st = popW (x, y) st0 ∧ st <:+ st0 ∧ Below wq.heap.size wq wi) (fun s _ => slLen s)
      case atStart => exact ⟨st0, HO1.out, rfl, List.suffix_refl _, Below.refl _ _⟩
      case round =>
        clear HO1
        obtain ⟨st, hO, hpop, hsuf, hbi⟩ := hrel
        have HPOP := Lib.hid hpop
        have HSUF := Lib.hid hsuf
        have hlen : st.length ≤ 100 := Nat.le_trans hsuf.length_le HLN.out
        have hgi : gq < wr.heap.size := by have := hbi.size; omega
        have Q0 : Hid (PtAt wr gq x y) := Lib.hid (PtAt.below hbi (by omega) Bq)
        obtain ⟨q1, q2⟩ := Q0.out
        have HBI := Lib.hid hbi
        have HBW := Lib.hid (HBQ.out.trans (hbi.mono HBQ.out.size))
        have HBDS : Hid (∀ s ∈ st, Bd s) := Lib.hid fun s hs => HM.out s (hsuf.subset hs)
        clear hpop hsuf hbi
        rcases st with _ | ⟨t, _ | ⟨a, r⟩⟩
        · obtain ⟨A1, c1, rfl, hc1, hat⟩ := hO.slice_n (n := 0) rfl
          have HO := Lib.hid hO
          clear hO hat
          go_wp2_with fail
          refine wp_region_quiet_below (by kernel_rfl) (by kernel_rfl) ?_
          repeat (go_big_quiet_step (fail))
          refine wpQuiet_nil ?_
          intro _ hw'
          obtain ⟨⟨dq, osq⟩, hw''⟩ := hw'
          subst hw''
          have hbr := below_regrown wr dq osq
          generalize grow (redrawn wr dq) osq = w2 at *
          have O2 : Hid (PtsOwn w2 w.heap.size _ (([] : List Pt)).reverse) := Lib.hid (HO.out.belows hbr (Nat.le_refl _))
          have HB2 := Lib.hid (HBW.out.trans (hbr.mono HBW.out.size))
          have hg2 : gq < w2.heap.size := Nat.lt_of_lt_of_le hgi hbr.size
          obtain ⟨q1, q2⟩ := PtAt.below hbr hgi Q0.out
          have HE : Hid ((pushW st0 (x, y)).reverse = (([] : List Pt)).reverse ++ [(x, y)]) := Lib.hid (by
            have e : popW (x, y) (([] : List Pt)) = ([] : List Pt) := rfl
            unfold pushW
            rw [List.reverse_cons, ← HPOP.out, e])
          have hsz2 := HB2.out.size
          clear hbr
          have hA1 : (([] : List Pt)).reverse.length + [(x, y)].length ≤ 100000 := by first | (rw [List.length_reverse, hq2]; simp; omega) | simp
          have hA2 : w.heap.size ≤ (w2.alloc (bx x y)).heap.size := by rw [World.size_alloc]; omega
          go_wp2_with (at_builtin; refine wpList_papp rfl (.tmp 37) (.tmp 39) rfl w.heap.size _ ((([] : List Pt)).reverse) [(x, y)] (some ⟨w2.heap.size, 0, none⟩) 1 1 rfl rfl (O2.out.alloc _) rfl (PtsAt.one w2 x y) hA1 hA2 ?_; intro v1 w3 ho hg hat; have HO3 := Lib.hid ho; have HG3 := Lib.hid hg; clear ho hg hat)
          have HB3 : Hid (Below w.heap.size w w3) := Lib.hid ((HB2.out.alloc hsz2 _).grown HG3.out (by simp; omega) (fun k hk => (O2.out.base k hk).1))
          go_wp2_with fail
          go_roundw
          case rel => exact ⟨k + 1, by omega, by go_num, by rw [HN.out, HE.out]; exact HO3.out, HB3.out⟩
          case measure => simp [intOf]; omega
        · obtain ⟨A1, c1, rfl, hc1, hat⟩ := hO.slice_n (n := 1) rfl
          have HO := Lib.hid hO
          clear hO hat
          go_wp2_with fail
          refine wp_region_quiet_below (by kernel_rfl) (by kernel_rfl) ?_
          repeat (go_big_quiet_step (fail))
          refine wpQuiet_nil ?_
          intro _ hw'
          obtain ⟨⟨dq, osq⟩, hw''⟩ := hw'
          subst hw''
          have hbr := below_regrown wr dq osq
          generalize grow (redrawn wr dq) osq = w2 at *
          have O2 : Hid (PtsOwn w2 w.heap.size _ ([t]).reverse) := Lib.hid (HO.out.belows hbr (Nat.le_refl _))
          have HB2 := Lib.hid (HBW.out.trans (hbr.mono HBW.out.size))
          have hg2 : gq < w2.heap.size := Nat.lt_of_lt_of_le hgi hbr.size
          obtain ⟨q1, q2⟩ := PtAt.below hbr hgi Q0.out
          have HE : Hid ((pushW st0 (x, y)).reverse = ([t]).reverse ++ [(x, y)]) := Lib.hid (by
            have e : popW (x, y) ([t]) = [t] := rfl
            unfold pushW
            rw [List.reverse_cons, ← HPOP.out, e])
          have hsz2 := HB2.out.size
          clear hbr
          have hA1 : ([t]).reverse.length + [(x, y)].length ≤ 100000 := by first | (rw [List.length_reverse, hq2]; simp; omega) | simp
          have hA2 : w.heap.size ≤ (w2.alloc (bx x y)).heap.size := by rw [World.size_alloc]; omega
          go_wp2_with (at_builtin; refine wpList_papp rfl (.tmp 37) (.tmp 39) rfl w.heap.size _ (([t]).reverse) [(x, y)] (some ⟨w2.heap.size, 0, none⟩) 1 1 rfl rfl (O2.out.alloc _) rfl (PtsAt.one w2 x y) hA1 hA2 ?_; intro v1 w3 ho hg hat; have HO3 := Lib.hid ho; have HG3 := Lib.hid hg; clear ho hg hat)
          have HB3 : Hid (Below w.heap.size w w3) := Lib.hid ((HB2.out.alloc hsz2 _).grown HG3.out (by simp; omega) (fun k hk => (O2.out.base k hk).1))
          go_wp2_with fail
          go_roundw
          case rel => exact ⟨k + 1, by omega, by go_num, by rw [HN.out, HE.out]; exact HO3.out, HB3.out⟩
          case measure => simp [intOf]; omega
        · have hlr : (t :: a :: r).reverse.length = r.length + 2 := by simp
          have ha : (t :: a :: r).reverse[r.length]? = some a := by
            rw [List.getElem?_reverse (by simp; omega)]
            rw [show (t :: a :: r).length - 1 - r.length = 1 by simp]; rfl
          have ht : (t :: a :: r).reverse[r.length + 1]? = some t := by
            rw [List.getElem?_reverse (by simp)]
            rw [show (t :: a :: r).length - 1 - (r.length + 1) = 0 by simp]; rfl
          obtain ⟨A1, c1, rfl, hc1, hat⟩ := hO.slice_n hlr
          obtain ⟨g, og, rfl, hgl, hin⟩ := hat (by simp)
          obtain ⟨a1, a2⟩ := hin _ _ ha
          obtain ⟨t1, t2⟩ := hin _ _ ht
          have HO := Lib.hid hO
          have HPS : Hid (popW (x, y) (t :: a :: r) = if crossP a t (x, y) ≤ 0 then popW (x, y) (a :: r) else t :: a :: r) := Lib.hid (by rw [popW])
          have hbt := HBDS.out t (by simp)
          have hba := HBDS.out a (by simp)
          have hq : r.length ≤ 100 := by simp at hlen; omega
          clear hO hat hin ha ht hlr hlen
          generalize hql : r.length = q at *
          have HQL := Lib.hid hql
          clear hql
          obtain ⟨tx, ty⟩ := t
          obtain ⟨ax, ay⟩ := a
          have C := fun W => Lib.hid (turn_any ax ay tx ty x y W hba.1 hba.2 hbt.1 hbt.2 x1 x2)
          have HCR : Hid (crossP (ax, ay) (tx, ty) (x, y) = cross ax ay tx ty x y) := Lib.hid rfl
          clear hba hbt
          generalize cross ax ay tx ty x y = cr at *
          have K1 := fun d os => Lib.hid (Calls.regrown_of ((C (grow (redrawn wr d) os)).out))
          have k1 := cell_regrown q1
          have k2 := cell_regrown q2
          have k3 := cell_regrown a1
          have k4 := cell_regrown a2
          have k5 := cell_regrown t1
          have k6 := cell_regrown t2
          clear q1 q2 a1 a2 t1 t2 C
          have hg : decide ((1 : Int) < (q : Int) + 2) = true := decide_eq_true (by omega)
          go_wp2_with fail
          refine wp_region_quiet_below (by kernel_rfl) (by kernel_rfl) ?_
          repeat (go_big_quiet_step (first | (with_reducible exact (K1 _ _).out)))
          refine wpQuiet_nil ?_
          intro _ hw'
          obtain ⟨⟨dq, osq⟩, hw''⟩ := hw'
          subst hw''
          by_cases hcr : cr ≤ 0
          · have HP2 : Hid (popW (x, y) ((ax, ay) :: r) = popW (x, y) st0) := Lib.hid (by rw [← HPOP.out, HPS.out, HCR.out, if_pos hcr])
            have hbr := below_regrown wr dq osq
            generalize grow (redrawn wr dq) osq = w2 at *
            have O2 : Hid (PtsOwn w2 w.heap.size (.slice (some ⟨g, og, none⟩) (q + 1) c1) (((ax, ay) :: r).reverse)) := Lib.hid (by
              have h := (HO.out.belows hbr (Nat.le_refl _)).shrink (n := q + 2) (k := q + 1) (by have := HQL.out; simp; omega) (by omega)
              rw [show ((tx, ty) :: (ax, ay) :: r).reverse.take (q + 1) = ((ax, ay) :: r).reverse by
                rw [List.reverse_cons, List.take_append_of_le_length (by have := HQL.out; simp; omega), List.take_of_length_le (by have := HQL.out; simp; omega)]] at h
              exact h)
            have HB2 := Lib.hid (HBI.out.trans (hbr.mono HBI.out.size))
            clear hbr
            go_wp2_with fail
            go_roundw
            case rel => exact ⟨(ax, ay) :: r, O2.out, HP2.out, (List.suffix_cons _ _).trans HSUF.out, HB2.out⟩
            case measure => simp [slLen]
          · have HNP : Hid (popW (x, y) ((tx, ty) :: (ax, ay) :: r) = (tx, ty) :: (ax, ay) :: r) := Lib.hid (by rw [HPS.out, HCR.out, if_neg hcr])
            have hq2 : ((tx, ty) :: (ax, ay) :: r).length = q + 2 := by have := HQL.out; simp; omega
            have hbr := below_regrown wr dq osq
            generalize grow (redrawn wr dq) osq = w2 at *
            have O2 : Hid (PtsOwn w2 w.heap.size _ ((tx, ty) :: (ax, ay) :: r).reverse) := Lib.hid (HO.out.belows hbr (Nat.le_refl _))
            have HB2 := Lib.hid (HBW.out.trans (hbr.mono HBW.out.size))
            have hg2 : gq < w2.heap.size := Nat.lt_of_lt_of_le hgi hbr.size
            obtain ⟨q1, q2⟩ := PtAt.below hbr hgi Q0.out
            have HE : Hid ((pushW st0 (x, y)).reverse = ((tx, ty) :: (ax, ay) :: r).reverse ++ [(x, y)]) := Lib.hid (by
              have e : popW (x, y) ((tx, ty) :: (ax, ay) :: r) = (tx, ty) :: (ax, ay) :: r := HNP.out
              unfold pushW
              rw [List.reverse_cons, ← HPOP.out, e])
            have hsz2 := HB2.out.size
            clear hbr
            have hA1 : ((tx, ty) :: (ax, ay) :: r).reverse.length + [(x, y)].length ≤ 100000 := by first | (rw [List.length_reverse, hq2]; simp; omega) | simp
            have hA2 : w.heap.size ≤ (w2.alloc (bx x y)).heap.size := by rw [World.size_alloc]; omega
            go_wp2_with (at_builtin; refine wpList_papp rfl (.tmp 37) (.tmp 39) rfl w.heap.size _ (((tx, ty) :: (ax, ay) :: r).reverse) [(x, y)] (some ⟨w2.heap.size, 0, none⟩) 1 1 rfl rfl (O2.out.alloc _) rfl (PtsAt.one w2 x y) hA1 hA2 ?_; intro v1 w3 ho hg hat; have HO3 := Lib.hid ho; have HG3 := Lib.hid hg; clear ho hg hat)
            have HB3 : Hid (Below w.heap.size w w3) := Lib.hid ((HB2.out.alloc hsz2 _).grown HG3.out (by simp; omega) (fun k hk => (O2.out.base k hk).1))
            go_wp2_with fail
            go_roundw
            case rel => exact ⟨k + 1, by omega, by go_num, by rw [HN.out, HE.out]; exact HO3.out, HB3.out⟩
            case measure => simp [intOf]; omega
    · obtain rfl : k = n := by omega
      have HF : Hid ((l.take k).foldl pushW [] = chainW l) := Lib.hid (by rw [List.take_of_length_le (by rw [HL.out]; omega)]; rfl)
      clear hbw
      go_wp2_with fail
      go_ret
      exact ⟨_, rfl, by rw [← HF.out]; exact HO.out, HBW.out⟩
end Go.Proofs.Ythbekbfhpedghaa
