/- Where is a point? Package shape's function. -/
import Derived.Test.YtnijcdphmibjaaaDevTop
namespace Go.Proofs.Ytnijcdphmibjaaa
open Go.RowKit Go.Sort
attribute [local go_sem ↓] run_min_mn run_max_mx Go.wp_at_zero Go.wp_at_succ

/-- Coordinates that every sum and product here can bear. -/
def Bd (p : Pt) : Prop := (-60000 ≤ p.1 ∧ p.1 ≤ 60000) ∧ (-60000 ≤ p.2 ∧ p.2 ≤ 60000)
theorem Bd.of_ok {p : Pt} (h : okP p = true) : Bd p := by
  obtain ⟨h1, h2⟩ := okP_bd h
  exact ⟨by omega, by omega⟩
theorem Bd.all {l : List Pt} (h : l.all okP = true) (i : Nat) : Bd (gt l i) := Bd.of_ok (getD_ok h i)
theorem nx_gt (l : List Pt) (i : Nat) : nx l i = gt l ((i + 1) % l.length) := rfl

def on2B (px py ax ay bx by' : Int) : Bool := (cross ax ay bx by' px py == 0) && boxB px py px py ax ay bx by'
theorem on2_same (px py ax ay bx by' : Int) : on2B px py ax ay bx by' = onB ax ay bx by' px py := by
  have e : boxB px py px py ax ay bx by' = (inB px (mn ax bx) (mx ax bx) && inB py (mn ay by') (mx ay by')) := by
    rw [Bool.eq_iff_iff]
    simp only [boxB, inB, Bool.and_eq_true, decide_eq_true_eq]
    have a1 := mn_spec px px
    have a2 := mx_spec px px
    have a3 := mn_spec py py
    have a4 := mx_spec py py
    have a5 := mx_spec (mn px px) (mn ax bx)
    have a6 := mn_spec (mx px px) (mx ax bx)
    have a7 := mx_spec (mn py py) (mn ay by')
    have a8 := mn_spec (mx py py) (mx ay by')
    omega
  unfold on2B onB
  rw [e, Bool.and_assoc]

set_option maxHeartbeats 1000000 in
theorem isOn_any (px py ax ay bx by' : Int) (w : World)
    (h1 : -60000 ≤ px ∧ px ≤ 60000) (h2 : -60000 ≤ py ∧ py ≤ 60000) (h3 : -60000 ≤ ax ∧ ax ≤ 60000) (h4 : -60000 ≤ ay ∧ ay ≤ 60000) (h5 : -60000 ≤ bx ∧ bx ≤ 60000) (h6 : -60000 ≤ by' ∧ by' ≤ 60000) :
    Calls Try.prog 95 #[.agg #[.int .i64 px, .int .i64 py], .agg #[.int .i64 ax, .int .i64 ay], .agg #[.int .i64 bx, .int .i64 by']] w fun e w' =>
      e = .returned (.bool (onB ax ay bx by' px py)) ∧ Below w.heap.size w w' := by
  have C0 := fun W => Lib.hid (turn_any ax ay bx by' px py W h3 h4 h5 h6 h1 h2)
  have C1 := fun W => Lib.hid (box_any px py px py ax ay bx by' W)
  have e : onB ax ay bx by' px py = ((cross ax ay bx by' px py == 0) && boxB px py px py ax ay bx by') := (on2_same ..).symm
  have H := Lib.hid e
  clear e h1 h2 h3 h4 h5 h6
  generalize onB ax ay bx by' px py = r at *
  generalize cross ax ay bx by' px py = x0 at *
  generalize boxB px py px py ax ay bx by' = x1 at *
  go_enter Try.func95, Try.ntmps95
  go_wp2_with fail
  have B := boxed3 w px py ax ay bx by'
  generalize ((w.alloc (Go.Proofs.Ytnijcdphmibjaaa.bx px py)).alloc (Go.Proofs.Ytnijcdphmibjaaa.bx ax ay)).alloc (Go.Proofs.Ytnijcdphmibjaaa.bx bx by') = wr at *
  obtain ⟨P1, P2, P3, hb, hz⟩ := B
  have l1 : w.heap.size < wr.heap.size ∧ w.heap.size + 1 < wr.heap.size ∧ w.heap.size + 1 + 1 < wr.heap.size := by omega
  obtain ⟨a1, a2⟩ := P1
  obtain ⟨b1, b2⟩ := P2
  obtain ⟨c1, c2⟩ := P3
  go_wp2_with fail
  refine ((C0 _).out).mono ?_
  rintro e w1 ⟨rfl, hb1⟩
  obtain ⟨a1, a2⟩ := PtAt.below hb1 l1.1 ⟨a1, a2⟩
  obtain ⟨b1, b2⟩ := PtAt.below hb1 l1.2.1 ⟨b1, b2⟩
  obtain ⟨c1, c2⟩ := PtAt.below hb1 l1.2.2 ⟨c1, c2⟩
  have hbw1 := hb.trans (hb1.mono hb.size)
  clear hb1 hb hz C0
  cases hx : (x0 == 0)
  · go_wp2
    go_ret
    exact ⟨ret_bool (by rw [H.out, hx]; rfl), hbw1⟩
  · go_wp2_with fail
    refine ((C1 _).out).mono ?_
    rintro e w2 ⟨rfl, hb2⟩
    have hbw2 := hbw1.trans (hb2.mono hbw1.size)
    go_wp2
    go_ret
    exact ⟨ret_bool (by rw [H.out, hx]; rfl), hbw2⟩

def leftB (px py ax ay bx by' : Int) : Bool := (decide (py < ay) != decide (py < by')) && (decide (0 < cross ax ay bx by' px py) == decide (ay < by'))

set_option maxHeartbeats 1000000 in
theorem isLeft_any (px py ax ay bx by' : Int) (w : World)
    (h1 : -60000 ≤ px ∧ px ≤ 60000) (h2 : -60000 ≤ py ∧ py ≤ 60000) (h3 : -60000 ≤ ax ∧ ax ≤ 60000) (h4 : -60000 ≤ ay ∧ ay ≤ 60000) (h5 : -60000 ≤ bx ∧ bx ≤ 60000) (h6 : -60000 ≤ by' ∧ by' ≤ 60000) :
    Calls Try.prog 96 #[.agg #[.int .i64 px, .int .i64 py], .agg #[.int .i64 ax, .int .i64 ay], .agg #[.int .i64 bx, .int .i64 by']] w fun e w' =>
      e = .returned (.bool (leftB px py ax ay bx by')) ∧ Below w.heap.size w w' := by
  have C0 := fun W => Lib.hid (turn_any ax ay bx by' px py W h3 h4 h5 h6 h1 h2)
  have e : leftB px py ax ay bx by' = ((decide (py < ay) != decide (py < by')) && (decide (0 < cross ax ay bx by' px py) == decide (ay < by'))) := rfl
  have H := Lib.hid e
  clear e h1 h2 h3 h4 h5 h6
  generalize leftB px py ax ay bx by' = r at *
  generalize cross ax ay bx by' px py = x0 at *
  go_enter Try.func96, Try.ntmps96
  go_upto_region 1 with (fail)
  have B := boxed3 w px py ax ay bx by'
  generalize ((w.alloc (Go.Proofs.Ytnijcdphmibjaaa.bx px py)).alloc (Go.Proofs.Ytnijcdphmibjaaa.bx ax ay)).alloc (Go.Proofs.Ytnijcdphmibjaaa.bx bx by') = wr at *
  obtain ⟨P1, P2, P3, hb, hz⟩ := B
  have l1 : w.heap.size < wr.heap.size ∧ w.heap.size + 1 < wr.heap.size ∧ w.heap.size + 1 + 1 < wr.heap.size := by omega
  obtain ⟨a1, a2⟩ := P1
  obtain ⟨b1, b2⟩ := P2
  obtain ⟨c1, c2⟩ := P3
  have HB := Lib.hid hb
  clear hb hz l1
  go_wp2_with fail
  · have g : (py < ay ↔ py < by') := by assumption
    go_ret
    refine ⟨ret_bool ?_, HB.out⟩
    rw [H.out]; simp [g]
  · have g : ¬(py < ay ↔ py < by') := by assumption
    refine ((C0 _).out).mono ?_
    rintro e w1 ⟨rfl, hb1⟩
    have hbw1 := HB.out.trans (hb1.mono HB.out.size)
    go_wp2
    all_goals
      go_ret
      refine ⟨ret_bool ?_, hbw1⟩
      rw [H.out]
      rfl

def on2At (l : List Pt) (p : Pt) (i : Nat) : Bool := onP (gt l i) (nx l i) p
def left2At (l : List Pt) (p : Pt) (i : Nat) : Bool := leftB p.1 p.2 (gt l i).1 (gt l i).2 (nx l i).1 (nx l i).2
def sideTo (l : List Pt) (p : Pt) : Nat → Int
  | 0 => -1
  | k + 1 => if left2At l p k then - sideTo l p k else sideTo l p k
def whereD (l : List Pt) (p : Pt) : Int := if (List.range l.length).any (on2At l p) then 0 else sideTo l p l.length
theorem sideTo_bd (l : List Pt) (p : Pt) : ∀ k, sideTo l p k = 1 ∨ sideTo l p k = -1
  | 0 => .inr rfl
  | k + 1 => by
    unfold sideTo
    rcases sideTo_bd l p k with h | h <;> rw [h] <;> split <;> simp
theorem whereD_on {l : List Pt} {p : Pt} {k : Nat} (hk : k < l.length) (h : on2At l p k = true) : whereD l p = 0 := by
  unfold whereD
  rw [if_pos (List.any_eq_true.2 ⟨k, List.mem_range.2 hk, h⟩)]
theorem whereD_off {l : List Pt} {p : Pt} (h : ∀ j, j < l.length → on2At l p j = false) : whereD l p = sideTo l p l.length := by
  unfold whereD
  rw [if_neg]
  rw [List.any_eq_true]
  rintro ⟨k, hk, e⟩
  rw [h k (List.mem_range.1 hk)] at e
  cases e

set_option maxRecDepth 100000 in
set_option maxHeartbeats 2000000 in
theorem where_any (b off n c : Nat) (l : List Pt) (p : Pt) (w : World) (hl : l.length = n) (hn : 0 < n) (hn' : n ≤ 100) (h : PtsIn w b off l) (hb : b < w.heap.size) (hbd : ∀ i, Bd (gt l i)) (hp : Bd p) :
    Calls Try.prog 70 #[.slice (some ⟨b, off, none⟩) n c, .agg #[.int .i64 p.1, .int .i64 p.2]] w fun e w' =>
      e = .returned (.int .i64 (whereD l p)) ∧ Below w.heap.size w w' := by
  have HL := Lib.hid hl
  have HP := Lib.hid h
  have HBD := Lib.hid hbd
  have HON : Hid (∀ i, on2At l p i = onB (gt l i).1 (gt l i).2 (nx l i).1 (nx l i).2 p.1 p.2) := Lib.hid fun _ => rfl
  have HLF : Hid (∀ i, left2At l p i = leftB p.1 p.2 (gt l i).1 (gt l i).2 (nx l i).1 (nx l i).2) := Lib.hid fun _ => rfl
  obtain ⟨px, py⟩ := p
  obtain ⟨hp1, hp2⟩ := hp
  clear hl h hbd
  go_enter Try.func70, Try.ntmps70
  go_wp2_with fail
  have B : PtAt (w.alloc (bx px py)) w.heap.size px py := PtAt.new
  have hb0 : Below w.heap.size w (w.alloc (bx px py)) := (Below.refl _ _).alloc (Nat.le_refl _) _
  have hz0 : w.heap.size < (w.alloc (bx px py)).heap.size := by simp
  generalize w.alloc (bx px py) = w0 at *
  generalize hgg : w.heap.size = gg at *
  go_wp2_with fail
  go_loopw [5, 11] (fun s i wr => ∃ k : Nat, k ≤ n ∧ i = .int .i64 k ∧ s = .int .i64 (sideTo l (px, py) k) ∧ (∀ j, j < k → on2At l (px, py) j = false) ∧ Below w0.heap.size w0 wr) (fun _ i _ => n - (intOf i).toNat)
  case atStart => exact ⟨0, Nat.zero_le _, rfl, rfl, by omega, Below.refl _ _⟩
  case round =>
    obtain ⟨k, hk, rfl, rfl, hz, hbr⟩ := hrel
    have HZ := Lib.hid hz
    have hb1 : b < w0.heap.size := Nat.lt_of_lt_of_le hb (hgg ▸ hb0.size)
    have hgr : gg < wr.heap.size := Nat.lt_of_lt_of_le hz0 hbr.size
    have HBW : Hid (Below gg w wr) := Lib.hid (hb0.trans (hbr.mono (hgg ▸ hb0.size)))
    have P0 := PtAt.below hbr hz0 B
    have hbb : b < gg := hgg ▸ hb
    clear hz
    by_cases hlt : k < n
    · have HPw : Hid (PtsIn wr b off l) := Lib.hid (HP.out.below HBW.out hbb)
      have hB : b < wr.heap.size := Nat.lt_of_lt_of_le hb1 hbr.size
      have N := fun W hW => Lib.hid (edge_any b off n c l k W HL.out (by omega) (by omega) (by omega) (HPw.out.below (B := wr.heap.size) hW hB))
      rw [Nat.mod_eq_of_lt hlt] at N
      have d1 := HBD.out k
      have d2 := HBD.out ((k + 1) % l.length)
      rw [← nx_gt] at d2
      have EO := Lib.hid (HON.out k)
      have EL := Lib.hid (HLF.out k)
      have ES : Hid (sideTo l (px, py) (k + 1) = if left2At l (px, py) k then - sideTo l (px, py) k else sideTo l (px, py) k) := Lib.hid rfl
      have sb := sideTo_bd l (px, py) k
      generalize gt l k = p1 at *
      generalize nx l k = p2 at *
      generalize sideTo l (px, py) k = sd at *
      obtain ⟨x, y⟩ := p1
      obtain ⟨qx, qy⟩ := p2
      obtain ⟨d3, d4⟩ := d1
      obtain ⟨d5, d6⟩ := d2
      have TO := fun W => Lib.hid (isOn_any px py x y qx qy W hp1 hp2 d3 d4 d5 d6)
      have TL := fun W => Lib.hid (isLeft_any px py x y qx qy W hp1 hp2 d3 d4 d5 d6)
      clear d3 d4 d5 d6 hp1 hp2
      go_wp2_with fail
      refine ((N _ (Below.refl _ _)).out).mono ?_
      rintro e w1 ⟨rfl, hb1⟩
      go_upto_region 6 with (fail)
      have B2 := boxed2 w1 x y qx qy
      generalize (w1.alloc (Go.Proofs.Ytnijcdphmibjaaa.bx x y)).alloc (Go.Proofs.Ytnijcdphmibjaaa.bx qx qy) = w2 at *
      obtain ⟨P1, P2, hb2, hz2⟩ := B2
      have hbr2 := hb1.trans (hb2.mono hb1.size)
      have hg0 : gg < w2.heap.size := Nat.lt_of_lt_of_le hgr hbr2.size
      replace P0 := PtAt.below hbr2 hgr P0
      generalize w1.heap.size = g at *
      have hg2 : g + 1 < w2.heap.size := by omega
      clear hb2 hz2 N hb1
      obtain ⟨p1, p2⟩ := P0
      obtain ⟨p3, p4⟩ := P1
      obtain ⟨p5, p6⟩ := P2
      go_wp2_with fail
      refine ((TO _).out).mono ?_
      rintro e w3 ⟨rfl, hb3⟩
      obtain ⟨p1, p2⟩ := PtAt.below hb3 hg0 ⟨p1, p2⟩
      obtain ⟨p3, p4⟩ := PtAt.below hb3 (by omega) ⟨p3, p4⟩
      obtain ⟨p5, p6⟩ := PtAt.below hb3 hg2 ⟨p5, p6⟩
      have hbr3 := hbr2.trans (hb3.mono hbr2.size)
      have HBR3 := Lib.hid (hbr.trans (hbr3.mono hbr.size))
      clear hb3 hbr2 TO hg0 hg2
      cases ho : onB x y qx qy px py
      · have HOF : Hid (on2At l (px, py) k = false) := Lib.hid (EO.out.trans ho)
        go_wp2_with fail
        refine ((TL _).out).mono ?_
        rintro e w4 ⟨rfl, hb4⟩
        have HBR4 := Lib.hid (HBR3.out.trans (hb4.mono HBR3.out.size))
        have HZ1 : Hid (∀ j, j < k + 1 → on2At l (px, py) j = false) := Lib.hid fun j hj => by
          rcases Nat.lt_or_eq_of_le (Nat.le_of_lt_succ hj) with h' | h'
          · exact HZ.out j h'
          · rw [h']; exact HOF.out
        clear hb4 hbr3 TL p1 p2 p3 p4 p5 p6
        cases hf : leftB px py x y qx qy
        · go_wp2_with fail
          go_roundw
          case rel => exact ⟨k + 1, by omega, by go_num, by rw [ES.out, EL.out]; show _ = Value.int .i64 (if leftB px py x y qx qy then _ else _); rw [hf]; rfl, HZ1.out, HBR4.out⟩
          case measure => simp [intOf]; omega
        · go_wp2_with fail
          go_roundw
          case rel => exact ⟨k + 1, by omega, by go_num, by rw [ES.out, EL.out]; show _ = Value.int .i64 (if leftB px py x y qx qy then _ else _); rw [hf]; rfl, HZ1.out, HBR4.out⟩
          case measure => simp [intOf]; omega
      · have HOT : Hid (whereD l (px, py) = 0) := Lib.hid (whereD_on (k := k) (by rw [HL.out]; exact hlt) (EO.out.trans ho))
        go_wp2_with fail
        go_ret
        exact ⟨ret_int HOT.out.symm, by rw [hgg]; exact HBW.out.trans (hbr3.mono (hgg ▸ HBW.out.size))⟩
    · obtain rfl : k = n := by omega
      have HF : Hid (whereD l (px, py) = sideTo l (px, py) k) := Lib.hid (by
        rw [whereD_off (fun j hj => HZ.out j (by rw [HL.out] at hj; exact hj)), HL.out])
      generalize sideTo l (px, py) k = sd at *
      go_wp2_with fail
      go_ret
      exact ⟨ret_int HF.out.symm, by rw [hgg]; exact HBW.out⟩
end Go.Proofs.Ytnijcdphmibjaaa
