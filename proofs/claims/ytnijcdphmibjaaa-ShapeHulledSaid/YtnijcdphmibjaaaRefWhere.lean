/- Where is a point? The reference's function, and that package shape's finds the same. -/
import Derived.Test.YtnijcdphmibjaaaDevWhere
import Derived.Test.YtnijcdphmibjaaaArea
namespace Go.Proofs.Ytnijcdphmibjaaa
open Go.RowKit Go.Sort
attribute [local go_sem ↓] run_min_mn run_max_mx Go.wp_at_zero Go.wp_at_succ

def upI (py ay by' c : Int) : Int := if by' < ay then -c else c
def rayB (px py ax ay bx by' : Int) : Bool := (decide (py < ay) != decide (py < by')) && decide (0 < upI py ay by' (cross ax ay bx by' px py))
def ray2At (l : List Pt) (p : Pt) (i : Nat) : Bool := rayB p.1 p.2 (gt l i).1 (gt l i).2 (nx l i).1 (nx l i).2
def insTo (l : List Pt) (p : Pt) : Nat → Bool
  | 0 => false
  | k + 1 => if ray2At l p k then !insTo l p k else insTo l p k
def whereR (l : List Pt) (p : Pt) : Int := if (List.range l.length).any (on2At l p) then 0 else if insTo l p l.length then 1 else -1

theorem left_ray {px py ax ay bx by' : Int} (h : onB ax ay bx by' px py = false) : leftB px py ax ay bx by' = rayB px py ax ay bx by' := by
  have key : cross ax ay bx by' px py = 0 → ¬ ((ay ≤ py ∧ py < by') ∨ (by' ≤ py ∧ py < ay)) := by
    intro h0 hb
    have hne : by' - ay ≠ 0 := by omega
    have hc : (by' - ay) * (px - ax) = (py - ay) * (bx - ax) := by unfold cross at h0; grind
    have hbt : btw (py - ay) (by' - ay) := by unfold btw; omega
    have := btw_dim hne hc hbt
    have ho : onB ax ay bx by' px py = true := by
      have k := (on_iff ax ay (bx - ax) (by' - ay) (px - ax) (py - ay)).2 ⟨by unfold al; unfold cross at h0; grind, this, hbt⟩
      rw [show ax + (bx - ax) = bx by omega, show ay + (by' - ay) = by' by omega, show ax + (px - ax) = px by omega, show ay + (py - ay) = py by omega] at k
      exact k
    rw [h] at ho; cases ho
  rw [Bool.eq_iff_iff]
  unfold leftB rayB upI
  generalize cross ax ay bx by' px py = c at *
  simp only [Bool.and_eq_true, bne_iff_ne, ne_eq, decide_eq_true_eq, decide_eq_decide, beq_iff_eq]
  by_cases g1 : py < ay <;> by_cases g2 : py < by'
  · simp [g1, g2]
  · have := key; split <;> (by_cases hc : c = 0) <;> omega
  · have := key; split <;> (by_cases hc : c = 0) <;> omega
  · simp [g1, g2]

theorem where_same (l : List Pt) (p : Pt) : whereD l p = whereR l p := by
  unfold whereD whereR
  by_cases h : (List.range l.length).any (on2At l p) = true
  · rw [if_pos h, if_pos h]
  · rw [if_neg h, if_neg h]
    have hoff : ∀ j, j < l.length → on2At l p j = false := fun j hj => by
      cases e : on2At l p j
      · rfl
      · exact absurd (List.any_eq_true.2 ⟨j, List.mem_range.2 hj, e⟩) h
    have : ∀ k, k ≤ l.length → sideTo l p k = if insTo l p k then 1 else -1 := by
      intro k
      induction k with
      | zero => intro _; rfl
      | succ k ih =>
        intro hk
        have e : left2At l p k = ray2At l p k := left_ray (hoff k (by omega))
        unfold sideTo insTo
        rw [e, ih (by omega)]
        cases ray2At l p k <;> cases insTo l p k <;> rfl
    exact this _ (Nat.le_refl _)

set_option maxRecDepth 100000 in
set_option maxHeartbeats 2000000 in
theorem whereR_any (b off n c : Nat) (l : List Pt) (p : Pt) (w : World) (hl : l.length = n) (hn : 0 < n) (hn' : n ≤ 100) (h : PtsIn w b off l) (hb : b < w.heap.size) (hbd : ∀ i, Bd (gt l i)) (hp : Bd p) :
    Calls Try.prog 31 #[.slice (some ⟨b, off, none⟩) n c, .agg #[.int .i64 p.1, .int .i64 p.2]] w fun e w' =>
      e = .returned (.int .i64 (whereR l p)) ∧ Below w.heap.size w w' := by
  have HL := Lib.hid hl
  have HP := Lib.hid h
  have HBD := Lib.hid hbd
  have HON : Hid (∀ i, on2At l p i = onB (gt l i).1 (gt l i).2 (nx l i).1 (nx l i).2 p.1 p.2) := Lib.hid fun _ => rfl
  have HRY : Hid (∀ i, ray2At l p i = rayB p.1 p.2 (gt l i).1 (gt l i).2 (nx l i).1 (nx l i).2) := Lib.hid fun _ => rfl
  obtain ⟨px, py⟩ := p
  obtain ⟨hp1, hp2⟩ := hp
  clear hl h hbd
  go_enter Try.func31, Try.ntmps31
  go_wp2_with fail
  have B : PtAt (w.alloc (bx px py)) w.heap.size px py := PtAt.new
  have hb0 : Below w.heap.size w (w.alloc (bx px py)) := (Below.refl _ _).alloc (Nat.le_refl _) _
  have hz0 : w.heap.size < (w.alloc (bx px py)).heap.size := by simp
  generalize w.alloc (bx px py) = w0 at *
  generalize hgg : w.heap.size = gg at *
  go_wp2_with fail
  go_loopw [5, 6] (fun s i wr => ∃ k : Nat, k ≤ n ∧ i = .int .i64 k ∧ s = .bool (insTo l (px, py) k) ∧ (∀ j, j < k → on2At l (px, py) j = false) ∧ Below w0.heap.size w0 wr) (fun _ i _ => n - (intOf i).toNat)
  case atStart => exact ⟨0, Nat.zero_le _, rfl, rfl, by omega, Below.refl _ _⟩
  case round =>
    obtain ⟨k, hk, rfl, rfl, hz, hbr⟩ := hrel
    have HZ := Lib.hid hz
    have hb1 : b < w0.heap.size := Nat.lt_of_lt_of_le hb (hgg ▸ hb0.size)
    have hgr : gg < wr.heap.size := Nat.lt_of_lt_of_le hz0 hbr.size
    have HBW : Hid (Below gg w wr) := Lib.hid (hb0.trans (hbr.mono (hgg ▸ hb0.size)))
    have P0 := PtAt.below hbr hz0 B
    have hbb : b < gg := hgg ▸ hb
    clear hz
    by_cases hlt : k < n
    · have HPw : Hid (PtsIn wr b off l) := Lib.hid (HP.out.below HBW.out hbb)
      have hB : b < wr.heap.size := Nat.lt_of_lt_of_le hb1 hbr.size
      have N := fun W hW => Lib.hid (next_any b off n c l k W HL.out (by omega) (by omega) (by omega) (HPw.out.below (B := wr.heap.size) hW hB))
      have d1 := HBD.out k
      have d2 := HBD.out ((k + 1) % l.length)
      rw [← nx_gt] at d2
      have EO := Lib.hid (HON.out k)
      have EL := Lib.hid (HRY.out k)
      have ES : Hid (insTo l (px, py) (k + 1) = if ray2At l (px, py) k then !insTo l (px, py) k else insTo l (px, py) k) := Lib.hid rfl
      obtain ⟨h1, h2⟩ := HPw.out k (gt l k) (by unfold gt; rw [List.getD_eq_getElem?_getD, List.getElem?_eq_getElem (by rw [HL.out]; exact hlt)]; rfl)
      generalize gt l k = p1 at *
      generalize nx l k = p2 at *
      generalize insTo l (px, py) k = sd at *
      obtain ⟨x, y⟩ := p1
      obtain ⟨qx, qy⟩ := p2
      obtain ⟨d3, d4⟩ := d1
      obtain ⟨d5, d6⟩ := d2
      have TO := fun W => Lib.hid (on_any x y qx qy px py W d3 d4 d5 d6 hp1 hp2)
      have TL := fun W => Lib.hid (cross_any x y qx qy px py W d3 d4 d5 d6 hp1 hp2)
      have HRB : Hid (rayB px py x y qx qy = ((decide (py < y) != decide (py < qy)) && decide (0 < upI py y qy (cross x y qx qy px py)))) := Lib.hid rfl
      have cb : -100000000000 ≤ cross x y qx qy px py ∧ cross x y qx qy px py ≤ 100000000000 := by
        have p1 := mul_le_of_abs (a := qx - x) (b := py - y) (K := 120000) (L := 120000) (by simp only at d3 d4 d5 d6 hp1 hp2; omega) (by simp only at d3 d4 d5 d6 hp1 hp2; omega)
        have p2 := mul_le_of_abs (a := px - x) (b := qy - y) (K := 120000) (L := 120000) (by simp only at d3 d4 d5 d6 hp1 hp2; omega) (by simp only at d3 d4 d5 d6 hp1 hp2; omega)
        unfold cross; omega
      clear d3 d4 d5 d6 hp1 hp2
      generalize cross x y qx qy px py = cr at *
      go_wp2_with fail
      go_cut [7, 8] (fun s t wx => TwoPts wr x y qx qy s t wx)
      case first =>
        have lt2 : wr.heap.size < wr.heap.size + 1 + 1 := by omega
        have n1 := World.new_ne wr _ h1
        have n2 := World.new_ne wr _ h2
        go_region_held3 (fun w' => Below wr.heap.size wr w' ∧ w'.cell? ⟨b, off + k * 2, none⟩ = some (.int .i64 x) ∧ w'.cell? ⟨b, off + k * 2 + 1, none⟩ = some (.int .i64 y))
          (((repeat (first | refine keep_drew ?_ | refine keep_alloc ?_ hB _ | refine keep_set ?_ hB _ (by simp) _)); (first | assumption | exact hS | exact ⟨Below.refl _ _, h1, h2⟩)))
          (first | ((go_at_call 64; refine ((N _ ?_).out).mono ?_; (exact And.left (by assumption)); rintro e w' ⟨rfl, hb'⟩; have hS := keep_call (by assumption) hB hb'; obtain ⟨hc', hf'⟩ := old_cells hb'; have hz' := hb'.size; try simp at hz'; try (have hz2 : wr.heap.size < w'.heap.size := by omega))))
        all_goals (go_wp2_with fail; go_meet)
        all_goals
          have hS1 := hS.1
          refine ⟨_, _, rfl, rfl, ?_, ?_, ?_⟩
          · constructor <;> (first | (go_simp; done))
          · constructor <;> (first | (go_simp; done))
          · go_grown
      case rest =>
        obtain ⟨g, h, rfl, rfl, P1, P2, hbc⟩ := hcut
        have hgb : g < wc.heap.size := block_lt_of_cell P1.1
        have hhb : h < wc.heap.size := block_lt_of_cell P2.1
        replace P0 := PtAt.below hbc hgr P0
        have hg0 : gg < wc.heap.size := Nat.lt_of_lt_of_le hgr hbc.size
        obtain ⟨p1, p2⟩ := P0
        obtain ⟨p3, p4⟩ := P1
        obtain ⟨p5, p6⟩ := P2
        clear h1 h2 N
        go_wp2_with fail
        refine ((TO _).out).mono ?_
        rintro e w3 ⟨rfl, hb3⟩
        obtain ⟨p1, p2⟩ := PtAt.below hb3 hg0 ⟨p1, p2⟩
        obtain ⟨p3, p4⟩ := PtAt.below hb3 hgb ⟨p3, p4⟩
        obtain ⟨p5, p6⟩ := PtAt.below hb3 hhb ⟨p5, p6⟩
        have hbr3 := hbc.trans (hb3.mono hbc.size)
        have HBR3 := Lib.hid (hbr.trans (hbr3.mono hbr.size))
        have hg3 : gg < w3.heap.size ∧ g < w3.heap.size ∧ h < w3.heap.size := by have := hb3.size; omega
        clear hb3 TO hg0 hgb hhb
        cases ho : onB x y qx qy px py
        · have HOF : Hid (on2At l (px, py) k = false) := Lib.hid (EO.out.trans ho)
          have HZ1 : Hid (∀ j, j < k + 1 → on2At l (px, py) j = false) := Lib.hid fun j hj => by
            rcases Nat.lt_or_eq_of_le (Nat.le_of_lt_succ hj) with h' | h'
            · exact HZ.out j h'
            · rw [h']; exact HOF.out
          clear hbr3
          have YES : Hid (rayB px py x y qx qy = true → insTo l (px, py) (k + 1) = !sd) := Lib.hid fun hh => by
            rw [ES.out, EL.out]; show (if rayB px py x y qx qy then _ else _) = _; rw [hh]; rfl
          have NO : Hid (rayB px py x y qx qy = false → insTo l (px, py) (k + 1) = sd) := Lib.hid fun hh => by
            rw [ES.out, EL.out]; show (if rayB px py x y qx qy then _ else _) = _; rw [hh]; rfl
          clear ES EL EO HOF
          go_wp2_with fail
          · have hg4 : (!(decide (py < y) == decide (py < qy))) = true := by assumption
            have HG : Hid ((decide (py < y) != decide (py < qy)) = true) := Lib.hid hg4
            clear hg4
            refine ((TL _).out).mono ?_
            rintro e w4 ⟨rfl, hb4⟩
            obtain ⟨p1, p2⟩ := PtAt.below hb4 hg3.1 ⟨p1, p2⟩
            obtain ⟨p3, p4⟩ := PtAt.below hb4 hg3.2.1 ⟨p3, p4⟩
            obtain ⟨p5, p6⟩ := PtAt.below hb4 hg3.2.2 ⟨p5, p6⟩
            have HBR4 := Lib.hid (HBR3.out.trans (hb4.mono HBR3.out.size))
            clear hb4 TL hg3
            obtain ⟨cb1, cb2⟩ := cb
            go_wp2_with fail
            all_goals
              go_roundw
              case rel =>
                refine ⟨k + 1, by omega, by go_num, ?_, HZ1.out, HBR4.out⟩
                first
                  | (have q : rayB px py x y qx qy = true := by
                       rw [HRB.out, HG.out, Bool.true_and, decide_eq_true_eq]; unfold upI; split <;> omega
                     rw [YES.out q])
                  | (have q : rayB px py x y qx qy = false := by
                       rw [HRB.out, HG.out, Bool.true_and, decide_eq_false_iff_not]; unfold upI; split <;> omega
                     rw [NO.out q])
              case measure => simp [intOf]; omega
          · have hg4 : (!(decide (py < y) == decide (py < qy))) = false := by assumption
            have HG : Hid ((decide (py < y) != decide (py < qy)) = false) := Lib.hid hg4
            go_roundw
            case rel => exact ⟨k + 1, by omega, by go_num, by rw [NO.out (by rw [HRB.out, HG.out]; rfl)], HZ1.out, HBR3.out⟩
            case measure => simp [intOf]; omega
        · have HOT : Hid (whereR l (px, py) = 0) := Lib.hid (by
            unfold whereR
            rw [if_pos (List.any_eq_true.2 ⟨k, List.mem_range.2 (by rw [HL.out]; exact hlt), EO.out.trans ho⟩)])
          go_wp2_with fail
          go_ret
          exact ⟨ret_int HOT.out.symm, by rw [hgg]; exact HBW.out.trans (hbr3.mono (hgg ▸ HBW.out.size))⟩
    · obtain rfl : k = n := by omega
      have HF : Hid (whereR l (px, py) = if insTo l (px, py) k then 1 else -1) := Lib.hid (by
        unfold whereR
        rw [if_neg, HL.out]
        rw [List.any_eq_true]
        rintro ⟨j, hj, e⟩
        rw [HZ.out j (by have := List.mem_range.1 hj; rwa [HL.out] at this)] at e
        cases e)
      cases hi : insTo l (px, py) k
      · have HF2 := Lib.hid HF.out
        go_wp2_with fail
        go_ret
        exact ⟨ret_int (by rw [HF.out, hi]; rfl), by rw [hgg]; exact HBW.out⟩
      · go_wp2_with fail
        go_ret
        exact ⟨ret_int (by rw [HF.out, hi]; rfl), by rw [hgg]; exact HBW.out⟩
end Go.Proofs.Ytnijcdphmibjaaa
