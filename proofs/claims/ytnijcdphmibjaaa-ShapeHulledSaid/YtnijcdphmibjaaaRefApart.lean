/- The reference's Moved, parts and Apart. -/
import Derived.Test.YtnijcdphmibjaaaApartTop
import Derived.Deep.AppendLies
namespace Go.Proofs.Ytnijcdphmibjaaa
open Go.RowKit Go.Sort
attribute [local go_sem ↓] run_min_mn run_max_mx Go.wp_at_zero Go.wp_at_succ

theorem PtsOwn.low {w : World} {base base' : Nat} {v : Value} {xs : List Pt} (h : PtsOwn w base v xs) (hb : base' ≤ base) : PtsOwn w base' v xs := by
  unfold PtsOwn World.ownsRow at *
  obtain ⟨h1, h2⟩ := h
  refine ⟨h1, ?_⟩
  rcases h2 with h2 | ⟨g, cap, cur, e, hg, r⟩
  · exact .inl h2
  · exact .inr ⟨g, cap, cur, e, Nat.le_trans hb hg, r⟩
theorem PtsOwn.alloc {w : World} {base : Nat} {v : Value} {xs : List Pt} (h : PtsOwn w base v xs) (o : Obj) : PtsOwn (w.alloc o) base v xs := World.ownsRow.alloc h o
theorem PtsOwn.drew {w : World} {base : Nat} {v : Value} {xs : List Pt} (h : PtsOwn w base v xs) : PtsOwn w.drew base v xs := h
theorem PtsOwn.base {w : World} {base : Nat} {v : Value} {xs : List Pt} (h : PtsOwn w base v xs) : ∀ k, v.ownBlock = some k → base ≤ k ∧ k < w.heap.size := World.ownsRow.lt h
theorem PtsAt.one (W : World) (x y : Int) : PtsAt (W.alloc (.cells #[.int .i64 x, .int .i64 y] 33)) (some ⟨W.heap.size, 0, none⟩) [(x, y)] := fun _ =>
  ⟨W.heap.size, 0, rfl, by simp, fun i p hp => by
    match i, hp with
    | 0, hp =>
      obtain rfl : (x, y) = p := by simpa using hp
      constructor <;> simp [World.cell?_alloc_new]⟩

/-- An append as one step of a region that draws its order. -/
theorem step_papp {w : World} {ops : Array Oper} {o : Oper} {a : Act} {K : Act → World → Prop} {Q : Exit → Act → World → Prop} {E : Prop} (hgd : o.guard = none) (s x : Operand)
    (ho : o.op = .call { callee := .builtin .append, args := #[s, x], argTypes := #[22, 22] }) (base : Nat) (v : Value) (xs ys : List Pt) (A : Option Addr) (m c : Nat)
    (hs : a.eval s = v) (hx : a.eval x = .slice A m c) (hown : PtsOwn w base v xs) (hm : ys.length = m) (hy : PtsAt w A ys) (hlen : xs.length + ys.length ≤ 100000) (hb : base ≤ w.heap.size)
    (h : ∀ v' w', PtsOwn w' base v' (xs ++ ys) → w.grownBy w' v.ownBlock → (v'.ownBlock = v.ownBlock ∨ v'.ownBlock = some w.heap.size) → K (a.put o.dst v') w') :
    if Region.wanted o (yielded ops a.tmps) = true then Oper.wp Try.prog o a w K Q else E := by
  have hw : Region.wanted o (yielded ops a.tmps) = true := by simp [Region.wanted, hgd]
  rw [if_pos hw]
  subst hm
  obtain ⟨v', w', hr, h2, h3, h4⟩ := papp_run hown c hy hlen hb o.type
  unfold Oper.wp execOp
  simp only [ho, resolve, invoke, builtin, Sem.run_bind, Sem.run_pure, Result.andThen_ok, List.map_toArray, List.map_cons, List.map_nil, hs, hx, hr]
  exact h v' w' h2 h3 h4

/-- Four cells of old blocks stay behind an append to a row of the call's own. -/
theorem cells4_grown {w W w1 : World} {b o1 o2 g B : Nat} {v1 v2 v3 v4 : Value} {row : Option Nat} (hg : W.grownBy w1 row) (hr : ∀ k, row = some k → B ≤ k) (hb : b < B) (hgg : g < B) (hs : B ≤ W.heap.size)
    (h : W.cell? ⟨b, o1, none⟩ = some v1 ∧ W.cell? ⟨b, o2, none⟩ = some v2 ∧ W.cell? ⟨g, 0, none⟩ = some v3 ∧ W.cell? ⟨g, 1, none⟩ = some v4) :
    w1.cell? ⟨b, o1, none⟩ = some v1 ∧ w1.cell? ⟨b, o2, none⟩ = some v2 ∧ w1.cell? ⟨g, 0, none⟩ = some v3 ∧ w1.cell? ⟨g, 1, none⟩ = some v4 := by
  have hB : Below B W w1 := (Below.refl _ _).grown hg hs hr
  exact ⟨(hB.cell (p := ⟨b, _, none⟩) hb).trans h.1, (hB.cell (p := ⟨b, _, none⟩) hb).trans h.2.1, (hB.cell (p := ⟨g, _, none⟩) hgg).trans h.2.2.1, (hB.cell (p := ⟨g, _, none⟩) hgg).trans h.2.2.2⟩

def RefMovedTo (l : List Pt) (w : World) (e : Ending) (w' : World) : Prop := ∃ v, e = .returned v ∧ PtsOwn w' w.heap.size v l ∧ Below w.heap.size w w'

set_option maxRecDepth 100000 in
set_option maxHeartbeats 2000000 in
theorem refMoved_any (b off n c : Nat) (l : List Pt) (v : Pt) (w : World) (hl : l.length = n) (hn' : n ≤ 100) (h : PtsIn w b off l) (hb : b < w.heap.size) (hbd : ∀ i, Bd (gt l i)) (hv : Bd v) :
    Calls Try.prog 42 #[.slice (some ⟨b, off, none⟩) n c, .agg #[.int .i64 v.1, .int .i64 v.2]] w (RefMovedTo (movedL l v) w) := by
  have HL := Lib.hid hl
  have HP := Lib.hid h
  have HBD := Lib.hid hbd
  obtain ⟨vx, vy⟩ := v
  obtain ⟨hv1, hv2⟩ := hv
  clear hl h hbd
  go_enter Try.func42, Try.ntmps42
  go_upto_region 1 with (fail)
  have B : PtAt (w.alloc (bx vx vy)) w.heap.size vx vy := PtAt.new
  have hb0 : Below w.heap.size w (w.alloc (bx vx vy)) := (Below.refl _ _).alloc (Nat.le_refl _) _
  have hz0 : (w.alloc (bx vx vy)).heap.size = w.heap.size + 1 := by simp
  generalize w.alloc (bx vx vy) = w0 at *
  generalize hgg : w.heap.size = gg at *
  go_wp2_with fail
  have O0 : PtsOwn (w0.alloc (.cells #[] 33)) (gg + 1) (.slice (some ⟨gg + 1, 0, none⟩) 0 0) [] := by
    have := PtsOwn.empty w0
    rwa [hz0] at this
  have hb1 : Below w0.heap.size w0 (w0.alloc (.cells #[] 33)) := (Below.refl _ _).alloc (Nat.le_refl _) _
  have hz1 : (w0.alloc (.cells #[] 33)).heap.size = gg + 2 := by simp; omega
  generalize w0.alloc (.cells #[] 33) = w1 at *
  have hb2 : Below gg w w1 := hb0.trans (hb1.mono (by omega))
  have B1 : PtAt w1 gg vx vy := PtAt.below hb1 (by omega) B
  clear hb0 hb1 B
  have HP1 := Lib.hid (HP.out.below hb2 hb)
  go_loopw [5, 6] (fun s i wr => ∃ k : Nat, k ≤ n ∧ i = .int .i64 k ∧ PtsOwn wr (gg + 1) s (movedL (l.take k) (vx, vy)) ∧ Below (gg + 1) w1 wr) (fun _ i _ => n - (intOf i).toNat)
  case atStart => exact ⟨0, Nat.zero_le _, rfl, by simpa [movedL] using O0, Below.refl _ _⟩
  case round =>
    clear O0
    obtain ⟨k, hk, rfl, hO, hbr⟩ := hrel
    have HO := Lib.hid hO
    clear hO
    obtain ⟨p1, p2⟩ := PtAt.below hbr (by omega) B1
    have hgr : gg + 2 ≤ wr.heap.size := by have := hbr.size; omega
    have hg1 : gg < wr.heap.size := by omega
    by_cases hlt : k < n
    · have hkl : k < l.length := by rw [HL.out]; exact hlt
      obtain ⟨h1, h2⟩ := (HP1.out.below hbr (by omega)) k (gt l k) (by unfold gt; rw [List.getD_eq_getElem?_getD, List.getElem?_eq_getElem hkl]; rfl)
      have hB : b < wr.heap.size := by omega
      obtain ⟨d1, d2⟩ := HBD.out k
      have HN : Hid (movedL (l.take (k + 1)) (vx, vy) = movedL (l.take k) (vx, vy) ++ [addP (gt l k) (vx, vy)]) := Lib.hid (by
        rw [List.take_succ_eq_append_getElem hkl]
        unfold movedL
        rw [List.map_append]
        simp [gt, List.getD, hkl])
      have HLN : Hid ((movedL (l.take k) (vx, vy)).length ≤ 100) := Lib.hid (by rw [movedL_length, List.length_take]; omega)
      generalize gt l k = p at *
      generalize movedL (l.take k) (vx, vy) = cur at *
      obtain ⟨x, y⟩ := p
      replace d1 : -60000 ≤ x ∧ x ≤ 60000 := d1
      replace d2 : -60000 ≤ y ∧ y ≤ 60000 := d2
      obtain ⟨d3, d4⟩ := d1
      obtain ⟨d5, d6⟩ := d2
      obtain ⟨v3, v4⟩ := hv1
      obtain ⟨v5, v6⟩ := hv2
      have ne1 : u5.ownBlock ≠ some b := fun e => by have := (HO.out.base b e).1; omega
      have ne2 : u5.ownBlock ≠ some gg := fun e => by have := (HO.out.base gg e).1; omega
      have l1 : b < (wr.alloc (.cells #[.int .i64 (IntKind.i64.wrap (x + vx)), .int .i64 (IntKind.i64.wrap (y + vy))] 33)).drew.heap.size := by simp; omega
      have l2 : gg < (wr.alloc (.cells #[.int .i64 (IntKind.i64.wrap (x + vx)), .int .i64 (IntKind.i64.wrap (y + vy))] 33)).drew.heap.size := by simp; omega
      have k1 : (wr.alloc (.cells #[.int .i64 (IntKind.i64.wrap (x + vx)), .int .i64 (IntKind.i64.wrap (y + vy))] 33)).drew.cell? ⟨b, off + k * 2, none⟩ = some (.int .i64 x) := (World.cell?_alloc_lt wr _ ⟨b, _, none⟩ hB).trans h1
      have k2 : (wr.alloc (.cells #[.int .i64 (IntKind.i64.wrap (x + vx)), .int .i64 (IntKind.i64.wrap (y + vy))] 33)).drew.cell? ⟨b, off + k * 2 + 1, none⟩ = some (.int .i64 y) := (World.cell?_alloc_lt wr _ ⟨b, _, none⟩ hB).trans h2
      have k3 : (wr.alloc (.cells #[.int .i64 (IntKind.i64.wrap (x + vx)), .int .i64 (IntKind.i64.wrap (y + vy))] 33)).drew.cell? ⟨gg, 0, none⟩ = some (.int .i64 vx) := (World.cell?_alloc_lt wr _ ⟨gg, _, none⟩ hg1).trans p1
      have k4 : (wr.alloc (.cells #[.int .i64 (IntKind.i64.wrap (x + vx)), .int .i64 (IntKind.i64.wrap (y + vy))] 33)).drew.cell? ⟨gg, 1, none⟩ = some (.int .i64 vy) := (World.cell?_alloc_lt wr _ ⟨gg, _, none⟩ hg1).trans p2
      go_wp2_with fail
      go_region_held3 (fun w' => w'.cell? ⟨b, off + k * 2, none⟩ = some (.int .i64 x) ∧ w'.cell? ⟨b, off + k * 2 + 1, none⟩ = some (.int .i64 y) ∧ w'.cell? ⟨gg, 0, none⟩ = some (.int .i64 vx) ∧ w'.cell? ⟨gg, 1, none⟩ = some (.int .i64 vy))
        (first
          | go_keep
          | exact ⟨(hgrow.cell_far _ l1 (Ne.symm ne1)).trans k1, (hgrow.cell_far _ l1 (Ne.symm ne1)).trans k2, (hgrow.cell_far _ l2 (Ne.symm ne2)).trans k3, (hgrow.cell_far _ l2 (Ne.symm ne2)).trans k4⟩)
        ((refine step_papp (by rfl) _ _ (by rfl) (gg + 1) _ cur [(IntKind.i64.wrap (x + vx), IntKind.i64.wrap (y + vy))] (some ⟨wr.heap.size, 0, none⟩) 1 1 (by rfl) (by rfl) ((HO.out.alloc _).drew) rfl (PtsAt.one wr _ _) (by have := HLN.out; simp; omega) (by simp; omega) ?_; intro v1 w2 hown1 hgrow hat))
      have e1 : IntKind.i64.wrap (x + vx) = x + vx := by rw [IntKind.wrap_i64]; omega
      have e2 : IntKind.i64.wrap (y + vy) = y + vy := by rw [IntKind.wrap_i64]; omega
      have HO2 : Hid (PtsOwn w2 (gg + 1) v1 (movedL (l.take (k + 1)) (vx, vy))) := Lib.hid (by
        rw [HN.out]
        rw [e1, e2] at hown1
        exact hown1)
      have HB2 : Hid (Below (gg + 1) w1 w2) := Lib.hid ((hbr.alloc (by omega) _).drew.grown hgrow (by simp; omega) (fun k hk => (HO.out.base k hk).1))
      clear hown1 hgrow hat k1 k2 k3 k4 l1 l2 e1 e2
      go_wp2_with fail
      go_roundw
      case rel => exact ⟨k + 1, by omega, by go_num, HO2.out, HB2.out⟩
      case measure => simp [intOf]; omega
    · obtain rfl : k = n := by omega
      have HF : Hid (movedL (l.take k) (vx, vy) = movedL l (vx, vy)) := Lib.hid (by rw [List.take_of_length_le (by rw [HL.out]; omega)])
      generalize movedL (l.take k) (vx, vy) = cur at *
      have HBB := Lib.hid (hb2.trans (hbr.mono (by omega)))
      go_wp2_with fail
      go_ret
      exact ⟨_, rfl, by rw [← HF.out, hgg]; exact HO.out.low (by omega), by rw [hgg]; exact HBB.out⟩

def rightQ (p q x : Pt) : Bool := decide (crossP p q x ≤ 0)
def partsAt (a b : List Pt) (i : Nat) : Bool := b.all (rightQ (gt a i) (nx a i))
def partsB (a b : List Pt) : Bool := (List.range a.length).any (partsAt a b)
theorem parts_at (a b : List Pt) (i : Nat) : partsAt a b i = beyondAt a b i := by
  unfold partsAt beyondAt anyLeft
  generalize gt a i = p
  generalize nx a i = q
  induction b with
  | nil => rfl
  | cons x b ih =>
    rw [List.all_cons, List.any_cons, ih, Bool.not_or]
    congr 1
    unfold rightQ leftQ
    by_cases h : crossP p q x ≤ 0
    · rw [decide_eq_true h, decide_eq_false (by omega)]; rfl
    · rw [decide_eq_false h, decide_eq_true (by omega)]; rfl
theorem parts_same (a b : List Pt) : partsB a b = beyondB a b := by
  unfold partsB beyondB
  rw [show partsAt a b = beyondAt a b from funext (parts_at a b)]

set_option maxRecDepth 100000 in
set_option maxHeartbeats 2000000 in
theorem parts_any (b off n c b' off' m d : Nat) (l r : List Pt) (w : World) (hl : l.length = n) (hn : 0 < n) (hn' : n ≤ 100) (h : PtsIn w b off l) (hb : b < w.heap.size) (hbd : ∀ i, Bd (gt l i))
    (hm : r.length = m) (hm' : m ≤ 100) (hr : PtsIn w b' off' r) (hb' : b' < w.heap.size) (hrd : ∀ i, Bd (gt r i)) :
    Calls Try.prog 78 #[.slice (some ⟨b, off, none⟩) n c, .slice (some ⟨b', off', none⟩) m d] w fun e w' => e = .returned (.bool (partsB l r)) ∧ Below w.heap.size w w' := by
  have HL := Lib.hid hl
  have HP := Lib.hid h
  have HBD := Lib.hid hbd
  have HM := Lib.hid hm
  have HR := Lib.hid hr
  have HRD := Lib.hid hrd
  clear hl h hbd hm hr hrd
  go_enter Try.func78, Try.ntmps78
  go_wp2
  go_loopw [5] (fun i wr => ∃ k : Nat, k ≤ n ∧ i = .int .i64 k ∧ (∀ j, j < k → partsAt l r j = false) ∧ Below w.heap.size w wr) (fun i _ => n - (intOf i).toNat)
  case atStart => exact ⟨0, Nat.zero_le _, rfl, by omega, Below.refl _ _⟩
  case round =>
    obtain ⟨k, hk, rfl, hz, hbw⟩ := hrel
    have HZ := Lib.hid hz
    clear hz
    by_cases hlt : k < n
    · have HPw : Hid (PtsIn wr b off l) := Lib.hid (HP.out.below hbw hb)
      have HRw : Hid (PtsIn wr b' off' r) := Lib.hid (HR.out.below hbw hb')
      have hB : b < wr.heap.size := Nat.lt_of_lt_of_le hb hbw.size
      have hB' : b' < wr.heap.size := Nat.lt_of_lt_of_le hb' hbw.size
      have HBW := Lib.hid hbw
      obtain ⟨wo, rfl⟩ : ∃ wo : World, wo = wr := ⟨_, rfl⟩
      clear hbw
      go_wp2_with fail
      go_loopw [6, 7] (fun s i wr => ∃ q : Nat, q ≤ m ∧ i = .int .i64 q ∧ s = .bool ((r.take q).all (rightQ (gt l k) (nx l k))) ∧ Below wo.heap.size wo wr) (fun _ i _ => m - (intOf i).toNat)
      case atStart => exact ⟨0, Nat.zero_le _, rfl, rfl, Below.refl _ _⟩
      case round =>
        obtain ⟨q, hq, rfl, rfl, hbr⟩ := hrel
        by_cases hlq : q < m
        · have hql : q < r.length := by rw [HM.out]; exact hlq
          have HB1 : b < wr.heap.size := Nat.lt_of_lt_of_le hB hbr.size
          have HB2 : b' < wr.heap.size := Nat.lt_of_lt_of_le hB' hbr.size
          obtain ⟨h1, h2⟩ := (HPw.out.below hbr hB) k (gt l k) (by unfold gt; rw [List.getD_eq_getElem?_getD, List.getElem?_eq_getElem (by rw [HL.out]; exact hlt)]; rfl)
          obtain ⟨h3, h4⟩ := (HRw.out.below hbr hB') q (gt r q) (by unfold gt; rw [List.getD_eq_getElem?_getD, List.getElem?_eq_getElem hql]; rfl)
          have N := fun W hW => Lib.hid (next_any b off n c l k W HL.out (by omega) (by omega) (by omega) ((HPw.out.below hbr hB).below (B := wr.heap.size) hW HB1))
          have d1 := HBD.out k
          have d2 := HBD.out ((k + 1) % l.length)
          rw [← nx_gt] at d2
          have d3 := HRD.out q
          have HS : Hid ((r.take (q + 1)).all (rightQ (gt l k) (nx l k)) = ((r.take q).all (rightQ (gt l k) (nx l k)) && decide (crossP (gt l k) (nx l k) (gt r q) ≤ 0))) := Lib.hid (by
            rw [List.take_succ_eq_append_getElem hql, List.all_append]
            simp [rightQ, gt, List.getD, hql])
          generalize (r.take q).all (rightQ (gt l k) (nx l k)) = t at *
          generalize gt l k = p1 at *
          generalize nx l k = p2 at *
          generalize gt r q = p3 at *
          obtain ⟨x, y⟩ := p1
          obtain ⟨qx, qy⟩ := p2
          obtain ⟨rx, ry⟩ := p3
          have C := fun W => Lib.hid (cross_any x y qx qy rx ry W d1.1 d1.2 d2.1 d2.2 d3.1 d3.2)
          replace HS : Hid ((r.take (q + 1)).all (rightQ (x, y) (qx, qy)) = (t && decide (cross x y qx qy rx ry ≤ 0))) := HS
          clear d1 d2 d3
          generalize cross x y qx qy rx ry = cr at *
          have K1 := fun d os => Lib.hid (Calls.regrown_of ((N (grow (redrawn wr d) os) (below_regrown wr d os)).out))
          have K2 := fun d os => Lib.hid (Calls.regrown_of ((C (grow (redrawn wr d) os)).out))
          have t1 := cell_regrown h1
          have t2' := cell_regrown h2
          have t3 := cell_regrown h3
          have t4 := cell_regrown h4
          clear h1 h2 h3 h4 N C
          cases t
          all_goals
            go_wp2_with fail
            refine wp_region_quiet_below (by kernel_rfl) (by kernel_rfl) ?_
            repeat (go_big_quiet_step (first | (with_reducible exact (K1 _ _).out) | (with_reducible exact (K2 _ _).out)))
            refine wpQuiet_nil ?_
            intro _ hw'
            obtain ⟨⟨dq, osq⟩, hw''⟩ := hw'
            subst hw''
            have HBE := Lib.hid (hbr.trans ((below_regrown wr dq osq).mono hbr.size))
            go_wp2_with fail
            go_roundw
            case rel => exact ⟨q + 1, by omega, by go_num, by rw [HS.out]; simp, HBE.out⟩
            case measure => simp [intOf]; omega
        · obtain rfl : q = m := by omega
          have HT : Hid ((r.take q).all (rightQ (gt l k) (nx l k)) = partsAt l r k) := Lib.hid (by rw [List.take_of_length_le (by rw [HM.out]; omega)]; rfl)
          have HBE := Lib.hid (HBW.out.trans (hbr.mono HBW.out.size))
          generalize (r.take q).all (rightQ (gt l k) (nx l k)) = t at *
          cases t
          · go_wp2_with fail
            go_roundw
            case rel =>
              refine ⟨k + 1, by omega, by go_num, fun j hj => ?_, HBE.out⟩
              rcases Nat.lt_or_eq_of_le (Nat.le_of_lt_succ hj) with h' | h'
              · exact HZ.out j h'
              · rw [h']; exact HT.out.symm
            case measure => simp [intOf]; omega
          · have HF : Hid (partsB l r = true) := Lib.hid (List.any_eq_true.2 ⟨k, List.mem_range.2 (by rw [HL.out]; exact hlt), HT.out.symm⟩)
            go_wp2_with fail
            go_ret
            exact ⟨ret_bool HF.out.symm, HBE.out⟩
    · obtain rfl : k = n := by omega
      have HF : Hid (partsB l r = false) := Lib.hid (by
        unfold partsB
        rw [List.any_eq_false]
        intro j hj
        rw [HZ.out j (by have := List.mem_range.1 hj; rwa [HL.out] at this)]
        simp)
      go_wp2_with fail
      go_ret
      exact ⟨ret_bool HF.out.symm, hbw⟩

theorem refApart_any (b off n c b' off' m d : Nat) (l r : List Pt) (w : World) (hl : l.length = n) (hn : 0 < n) (hn' : n ≤ 100) (h : PtsIn w b off l) (hb : b < w.heap.size) (hbd : ∀ x ∈ l, Bd x)
    (hm : r.length = m) (hm0 : 0 < m) (hm' : m ≤ 100) (h' : PtsIn w b' off' r) (hb' : b' < w.heap.size) (hrd : ∀ x ∈ r, Bd x) :
    Calls Try.prog 41 #[.slice (some ⟨b, off, none⟩) n c, .slice (some ⟨b', off', none⟩) m d] w fun e w' => e = .returned (.bool (apartB l r)) ∧ Below w.heap.size w w' := by
  have gt_bd : ∀ (l : List Pt), (∀ x ∈ l, Bd x) → ∀ i, Bd (gt l i) := fun l hl i => by
    unfold gt
    rw [List.getD_eq_getElem?_getD]
    cases e : l[i]? with
    | none => exact ⟨by decide, by decide⟩
    | some x => exact hl x (List.mem_of_getElem? e)
  have K1 := fun W (hW : Below w.heap.size w W) => Lib.hid (parts_any b off n c b' off' m d l r W hl hn hn' (h.below hW hb) (Nat.lt_of_lt_of_le hb hW.size) (gt_bd l hbd) hm hm' (h'.below hW hb') (Nat.lt_of_lt_of_le hb' hW.size) (gt_bd r hrd))
  have K2 := fun W (hW : Below w.heap.size w W) => Lib.hid (parts_any b' off' m d b off n c r l W hm hm0 hm' (h'.below hW hb') (Nat.lt_of_lt_of_le hb' hW.size) (gt_bd r hrd) hl hn' (h.below hW hb) (Nat.lt_of_lt_of_le hb hW.size) (gt_bd l hbd))
  rw [parts_same] at K1 K2
  have E : Hid (apartB l r = (beyondB l r || beyondB r l)) := Lib.hid rfl
  clear hl h hbd hm h' hrd gt_bd
  generalize apartB l r = t at *
  generalize beyondB l r = t1 at *
  generalize beyondB r l = t2 at *
  cases t1
  · go_enter Try.func41, Try.ntmps41
    go_wp2_with fail
    refine ((K1 _ (Below.refl _ _)).out).mono ?_
    rintro e w1 ⟨rfl, hb1⟩
    go_wp2_with fail
    refine ((K2 _ hb1).out).mono ?_
    rintro e w2 ⟨rfl, hb2⟩
    have hb3 := hb1.trans (hb2.mono hb1.size)
    go_wp2
    go_ret
    exact ⟨ret_bool (by rw [E.out]; rfl), hb3⟩
  · go_enter Try.func41, Try.ntmps41
    go_wp2_with fail
    refine ((K1 _ (Below.refl _ _)).out).mono ?_
    rintro e w1 ⟨rfl, hb1⟩
    go_wp2
    go_ret
    exact ⟨ret_bool (by rw [E.out]; rfl), hb1⟩
end Go.Proofs.Ytnijcdphmibjaaa
