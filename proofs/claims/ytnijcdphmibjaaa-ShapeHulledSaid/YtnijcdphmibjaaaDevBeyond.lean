/- Package shape's areApart: is one polygon beyond an edge of the other? And the reference's parts. -/
import Derived.Test.YtnijcdphmibjaaaPtRow
import Derived.Test.YtnijcdphmibjaaaWhereTop
namespace Go.Proofs.Ytnijcdphmibjaaa
open Go.RowKit Go.Sort
attribute [local go_sem ↓] run_min_mn run_max_mx Go.wp_at_zero Go.wp_at_succ

theorem leftOf_any (x y : Int) (ga gb : Nat) (ax ay bx by' : Int) (w : World) (pa : PtAt w ga ax ay) (pb : PtAt w gb bx by') (hga : ga < w.heap.size) (hgb : gb < w.heap.size)
    (h1 : -60000 ≤ ax ∧ ax ≤ 60000) (h2 : -60000 ≤ ay ∧ ay ≤ 60000) (h3 : -60000 ≤ bx ∧ bx ≤ 60000) (h4 : -60000 ≤ by' ∧ by' ≤ 60000) (h5 : -60000 ≤ x ∧ x ≤ 60000) (h6 : -60000 ≤ y ∧ y ≤ 60000) :
    Calls Try.prog 125 #[.agg #[.int .i64 x, .int .i64 y], .pointer (some ⟨ga, 0, none⟩), .pointer (some ⟨gb, 0, none⟩)] w fun e w' =>
      e = .returned (.bool (decide (0 < cross ax ay bx by' x y))) ∧ Below w.heap.size w w' := by
  have C := fun W => Lib.hid (turn_any ax ay bx by' x y W h1 h2 h3 h4 h5 h6)
  clear h1 h2 h3 h4 h5 h6
  generalize cross ax ay bx by' x y = r at *
  go_enter Try.func125, Try.ntmps125
  go_upto_region 1 with (fail)
  have B : PtAt (w.alloc (Go.Proofs.Ytnijcdphmibjaaa.bx x y)) w.heap.size x y := PtAt.new
  have hb0 : Below w.heap.size w (w.alloc (Go.Proofs.Ytnijcdphmibjaaa.bx x y)) := (Below.refl _ _).alloc (Nat.le_refl _) _
  obtain ⟨a1, a2⟩ := PtAt.below hb0 hga pa
  obtain ⟨b1, b2⟩ := PtAt.below hb0 hgb pb
  clear pa pb
  generalize w.alloc (Go.Proofs.Ytnijcdphmibjaaa.bx x y) = w0 at *
  obtain ⟨c1, c2⟩ := B
  go_wp2_with fail
  refine ((C _).out).mono ?_
  rintro e w1 ⟨rfl, hb1⟩
  go_wp2
  go_ret
  exact ⟨rfl, hb0.trans (hb1.mono hb0.size)⟩

def leftQ (p q x : Pt) : Bool := decide (0 < crossP p q x)
def anyLeft (p q : Pt) (l : List Pt) : Bool := l.any (leftQ p q)
def FoundLeft (p q : Pt) (l : List Pt) (w : World) (e : Ending) (w' : World) : Prop := ∃ i : Int, e = .returned (.int .i64 i) ∧ decide (0 ≤ i) = anyLeft p q l ∧ Below w.heap.size w w'

set_option maxHeartbeats 800000 in
theorem indexLeft_any (A : Option Addr) (n c : Nat) (l : List Pt) (p q : Pt) (ga gb : Nat) (w : World) (hn : l.length = n) (hbig : n ≤ 1000000) (hx : PtsAt w A l) (hbd : ∀ x ∈ l, Bd x) (hp : Bd p) (hq : Bd q)
    (pa : PtAt w ga p.1 p.2) (pb : PtAt w gb q.1 q.2) (hga : ga < w.heap.size) (hgb : gb < w.heap.size) :
    Calls Try.prog 122 #[.slice A n c, .func (.func 125) #[] #[.pointer (some ⟨ga, 0, none⟩), .pointer (some ⟨gb, 0, none⟩)]] w (FoundLeft p q l w) := by
  have HN := Lib.hid hn
  have HX := Lib.hid hx
  have HBD := Lib.hid hbd
  have HPA := Lib.hid pa
  have HPB := Lib.hid pb
  clear hn hx hbd pa pb
  go_enter Try.func122, Try.ntmps122
  go_wp2
  go_loopw [8] (fun i wr => ∃ k : Nat, k ≤ n ∧ i = .int .i64 k ∧ anyLeft p q (l.take k) = false ∧ Below w.heap.size w wr) (fun i _ => n - (intOf i).toNat)
  case atStart => exact ⟨0, Nat.zero_le _, rfl, rfl, Below.refl _ _⟩
  case round =>
    obtain ⟨k, hk, rfl, hz, hbw⟩ := hrel
    have HZ := Lib.hid hz
    clear hz
    by_cases hlt : k < n
    · have hl : k < l.length := by have := HN.out; omega
      obtain ⟨b, off, rfl, hbl, hpts⟩ := HX.out (by intro e; subst e; simp at hl)
      obtain ⟨h1, h2⟩ := (hpts.below hbw hbl) k _ (List.getElem?_eq_getElem hl)
      have hs : anyLeft p q (l.take (k + 1)) = leftQ p q l[k] := by
        rw [List.take_succ_eq_append_getElem hl]
        unfold anyLeft at *
        rw [List.any_append, HZ.out]; simp
      have hall : leftQ p q l[k] = true → anyLeft p q l = true := fun h => by
        unfold anyLeft
        exact List.any_eq_true.2 ⟨_, List.getElem_mem hl, h⟩
      have HS := Lib.hid hs
      have HA := Lib.hid hall
      have hbx := HBD.out _ (List.getElem_mem hl)
      clear hs hall hpts
      generalize l[k] = x at *
      have hr : leftQ p q x = decide (0 < cross p.1 p.2 q.1 q.2 x.1 x.2) := rfl
      have F := fun W (hW : Below w.heap.size w W) => Lib.hid (leftOf_any x.1 x.2 ga gb p.1 p.2 q.1 q.2 W (PtAt.below hW hga HPA.out) (PtAt.below hW hgb HPB.out) (Nat.lt_of_lt_of_le hga hW.size) (Nat.lt_of_lt_of_le hgb hW.size) hp.1 hp.2 hq.1 hq.2 hbx.1 hbx.2)
      rw [← hr] at F
      clear hr hbx
      generalize leftQ p q x = r at *
      go_wp2_with fail
      refine ((F _ hbw).out).mono ?_
      rintro e w1 ⟨rfl, hb1⟩
      have hbw1 := hbw.trans (hb1.mono hbw.size)
      clear hb1 h1 h2
      cases r
      · go_wp2_with fail
        go_roundw
        case rel => exact ⟨k + 1, by omega, by go_num, HS.out, hbw1⟩
        case measure => simp [intOf]; omega
      · go_wp2_with fail
        go_ret
        exact ⟨_, rfl, by rw [HA.out trivial]; simp, hbw1⟩
    · have hfull : anyLeft p q l = false := by
        have := HZ.out
        rw [List.take_of_length_le (by have := HN.out; omega)] at this
        exact this
      have HF := Lib.hid hfull
      clear hfull
      go_wp2
      go_ret
      exact ⟨_, rfl, by rw [HF.out]; rfl, hbw⟩

theorem containsLeft_any (A : Option Addr) (n c : Nat) (l : List Pt) (p q : Pt) (ga gb : Nat) (w : World) (hn : l.length = n) (hbig : n ≤ 1000000) (hx : PtsAt w A l) (hbd : ∀ x ∈ l, Bd x) (hp : Bd p) (hq : Bd q)
    (pa : PtAt w ga p.1 p.2) (pb : PtAt w gb q.1 q.2) (hga : ga < w.heap.size) (hgb : gb < w.heap.size) :
    Calls Try.prog 98 #[.slice A n c, .func (.func 125) #[] #[.pointer (some ⟨ga, 0, none⟩), .pointer (some ⟨gb, 0, none⟩)]] w fun e w' => e = .returned (.bool (anyLeft p q l)) ∧ Below w.heap.size w w' := by
  have K := Lib.hid (indexLeft_any A n c l p q ga gb w hn hbig hx hbd hp hq pa pb hga hgb)
  clear hn hx hbd pa pb
  go_enter Try.func98, Try.ntmps98
  go_wp2_with fail
  refine (K.out).mono ?_
  rintro e w' ⟨i, rfl, hi, hb⟩
  have HI := Lib.hid hi
  clear hi
  go_wp2
  go_ret
  exact ⟨ret_bool HI.out, hb⟩

def beyondAt (a b : List Pt) (i : Nat) : Bool := !anyLeft (gt a i) (nx a i) b
def beyondB (a b : List Pt) : Bool := (List.range a.length).any (beyondAt a b)
def apartB (a b : List Pt) : Bool := beyondB a b || beyondB b a

set_option maxRecDepth 100000 in
set_option maxHeartbeats 1000000 in
theorem hasBeyond_any (b off n c : Nat) (A : Option Addr) (m d : Nat) (l r : List Pt) (w : World) (hl : l.length = n) (hn : 0 < n) (hn' : n ≤ 100) (h : PtsIn w b off l) (hb : b < w.heap.size) (hbd : ∀ i, Bd (gt l i))
    (hm : r.length = m) (hbig : m ≤ 1000000) (hx : PtsAt w A r) (hrd : ∀ x ∈ r, Bd x) :
    Calls Try.prog 105 #[.slice (some ⟨b, off, none⟩) n c, .slice A m d] w fun e w' => e = .returned (.bool (beyondB l r)) ∧ Below w.heap.size w w' := by
  have HL := Lib.hid hl
  have HP := Lib.hid h
  have HBD := Lib.hid hbd
  have HM := Lib.hid hm
  have HX := Lib.hid hx
  have HRD := Lib.hid hrd
  clear hl h hbd hm hx hrd
  go_enter Try.func105, Try.ntmps105
  go_wp2
  go_loopw [11] (fun i wr => ∃ k : Nat, k ≤ n ∧ i = .int .i64 k ∧ (∀ j, j < k → beyondAt l r j = false) ∧ Below w.heap.size w wr) (fun i _ => n - (intOf i).toNat)
  case atStart => exact ⟨0, Nat.zero_le _, rfl, by omega, Below.refl _ _⟩
  case round =>
    obtain ⟨k, hk, rfl, hz, hbw⟩ := hrel
    have HZ := Lib.hid hz
    clear hz
    by_cases hlt : k < n
    · have HPw : Hid (PtsIn wr b off l) := Lib.hid (HP.out.below hbw hb)
      have hB : b < wr.heap.size := Nat.lt_of_lt_of_le hb hbw.size
      have N := fun W hW => Lib.hid (edge_any b off n c l k W HL.out (by omega) (by omega) (by omega) (HPw.out.below (B := wr.heap.size) hW hB))
      rw [Nat.mod_eq_of_lt hlt] at N
      have d1 := HBD.out k
      have d2 := HBD.out ((k + 1) % l.length)
      rw [← nx_gt] at d2
      have EB : Hid (beyondAt l r k = !anyLeft (gt l k) (nx l k) r) := Lib.hid rfl
      generalize gt l k = p1 at *
      generalize nx l k = p2 at *
      obtain ⟨x, y⟩ := p1
      obtain ⟨qx, qy⟩ := p2
      have CL := fun ga gb W (hW : Below w.heap.size w W) (pa : PtAt W ga x y) (pb : PtAt W gb qx qy) (hga : ga < W.heap.size) (hgb : gb < W.heap.size) =>
        Lib.hid (containsLeft_any A m d r (x, y) (qx, qy) ga gb W HM.out hbig (HX.out.below hW) HRD.out d1 d2 pa pb hga hgb)
      clear d1 d2
      generalize anyLeft (x, y) (qx, qy) r = t at *
      go_wp2_with fail
      refine ((N _ (Below.refl _ _)).out).mono ?_
      rintro e w1 ⟨rfl, hb1⟩
      have B2 := boxed2 w1 x y qx qy
      go_upto_region 5 with (fail)
      generalize (w1.alloc (Go.Proofs.Ytnijcdphmibjaaa.bx x y)).alloc (Go.Proofs.Ytnijcdphmibjaaa.bx qx qy) = w2 at *
      obtain ⟨P1, P2, hb2, hz2⟩ := B2
      have hbr2 := hb1.trans (hb2.mono hb1.size)
      have hbw2 := hbw.trans (hbr2.mono hbw.size)
      generalize w1.heap.size = g at *
      have hg2 : g + 1 < w2.heap.size := by omega
      clear hb2 hz2 N hb1
      have CL1 := CL g (g + 1) w2 hbw2 P1 P2 (by omega) hg2
      clear CL
      go_wp2_with fail
      refine (CL1.out).mono ?_
      rintro e w3 ⟨rfl, hb3⟩
      have hbw3 := hbw2.trans (hb3.mono hbw2.size)
      clear hb3 CL1
      cases t
      · have HF : Hid (beyondB l r = true) := Lib.hid (List.any_eq_true.2 ⟨k, List.mem_range.2 (by rw [HL.out]; exact hlt), EB.out⟩)
        go_wp2_with fail
        go_ret
        exact ⟨ret_bool HF.out.symm, hbw3⟩
      · have HZ1 : Hid (∀ j, j < k + 1 → beyondAt l r j = false) := Lib.hid fun j hj => by
          rcases Nat.lt_or_eq_of_le (Nat.le_of_lt_succ hj) with h' | h'
          · exact HZ.out j h'
          · rw [h', EB.out]; rfl
        go_wp2_with fail
        go_roundw
        case rel => exact ⟨k + 1, by omega, by go_num, HZ1.out, hbw3⟩
        case measure => simp [intOf]; omega
    · obtain rfl : k = n := by omega
      have HF : Hid (beyondB l r = false) := Lib.hid (by
        unfold beyondB
        rw [List.any_eq_false]
        intro j hj
        rw [HZ.out j (by have := List.mem_range.1 hj; rwa [HL.out] at this)]
        simp)
      go_wp2_with fail
      go_ret
      exact ⟨ret_bool HF.out.symm, hbw⟩

theorem areApart_any (b off n c b' off' m d : Nat) (l r : List Pt) (w : World) (hl : l.length = n) (hn : 0 < n) (hn' : n ≤ 100) (h : PtsIn w b off l) (hb : b < w.heap.size) (hbd : ∀ x ∈ l, Bd x)
    (hm : r.length = m) (hm0 : 0 < m) (hm' : m ≤ 100) (h' : PtsIn w b' off' r) (hb' : b' < w.heap.size) (hrd : ∀ x ∈ r, Bd x) :
    Calls Try.prog 76 #[.slice (some ⟨b, off, none⟩) n c, .slice (some ⟨b', off', none⟩) m d] w fun e w' => e = .returned (.bool (apartB l r)) ∧ Below w.heap.size w w' := by
  have gt_bd : ∀ (l : List Pt), (∀ x ∈ l, Bd x) → ∀ i, Bd (gt l i) := fun l hl i => by
    unfold gt
    rw [List.getD_eq_getElem?_getD]
    cases e : l[i]? with
    | none => exact ⟨by decide, by decide⟩
    | some x => exact hl x (List.mem_of_getElem? e)
  have K1 := fun W (hW : Below w.heap.size w W) => Lib.hid (hasBeyond_any b off n c (some ⟨b', off', none⟩) m d l r W hl hn hn' (h.below hW hb) (Nat.lt_of_lt_of_le hb hW.size) (gt_bd l hbd) hm (by omega)
    (fun _ => ⟨b', off', rfl, Nat.lt_of_lt_of_le hb' hW.size, h'.below hW hb'⟩) hrd)
  have K2 := fun W (hW : Below w.heap.size w W) => Lib.hid (hasBeyond_any b' off' m d (some ⟨b, off, none⟩) n c r l W hm hm0 hm' (h'.below hW hb') (Nat.lt_of_lt_of_le hb' hW.size) (gt_bd r hrd) hl (by omega)
    (fun _ => ⟨b, off, rfl, Nat.lt_of_lt_of_le hb hW.size, h.below hW hb⟩) hbd)
  have E : Hid (apartB l r = (beyondB l r || beyondB r l)) := Lib.hid rfl
  clear hl h hbd hm h' hrd gt_bd
  generalize apartB l r = t at *
  generalize beyondB l r = t1 at *
  generalize beyondB r l = t2 at *
  cases t1
  · go_enter Try.func76, Try.ntmps76
    go_wp2_with fail
    refine ((K1 _ (Below.refl _ _)).out).mono ?_
    rintro e w1 ⟨rfl, hb1⟩
    go_wp2_with fail
    refine ((K2 _ hb1).out).mono ?_
    rintro e w2 ⟨rfl, hb2⟩
    have hb3 := hb1.trans (hb2.mono hb1.size)
    go_wp2
    go_ret
    exact ⟨ret_bool (by rw [E.out]; rfl), hb3⟩
  · go_enter Try.func76, Try.ntmps76
    go_wp2_with fail
    refine ((K1 _ (Below.refl _ _)).out).mono ?_
    rintro e w1 ⟨rfl, hb1⟩
    go_wp2
    go_ret
    exact ⟨ret_bool (by rw [E.out]; rfl), hb1⟩
end Go.Proofs.Ytnijcdphmibjaaa
