/- Is a polygon simple? Package shape's function. -/
import Derived.Test.YtnijcdphmibjaaaDevPts
import Derived.Test.YtnijcdphmibjaaaDevBack
import Derived.Test.YtnijcdphmibjaaaDevMeet
import Derived.Test.YtnijcdphmibjaaaSimple
namespace Go.Proofs.Ytnijcdphmibjaaa
open Go.RowKit Go.Sort
attribute [local go_sem ↓] run_min_mn run_max_mx Go.wp_at_zero Go.wp_at_succ

def backP (a b c : Pt) : Bool := backB a.1 a.2 b.1 b.2 c.1 c.2
def meet2P (a b c d : Pt) : Bool := meet2B a.1 a.2 b.1 b.2 c.1 c.2 d.1 d.2
def backAt (l : List Pt) (i : Nat) : Bool := backP (gt l i) (nx l i) (nx l (i + 1))
def hit2At (l : List Pt) (i j : Nat) : Bool := !(i - j == l.length - 1) && meet2P (gt l i) (nx l i) (gt l j) (nx l j)
def simple2At (l : List Pt) (i : Nat) : Bool := !(zeroAt l i || backAt l i) && (List.range l.length).all fun j => decide (i < j + 2) || !hit2At l i j
def simple2B (l : List Pt) : Bool := (List.range l.length).all (simple2At l)

theorem simple2B_no {l : List Pt} {k : Nat} (hk : k < l.length) (h : simple2At l k = false) : simple2B l = false := by
  unfold simple2B
  rw [List.all_eq_false]; exact ⟨k, List.mem_range.2 hk, by simp [h]⟩
theorem simple2At_bad {l : List Pt} {k : Nat} (h : (zeroAt l k || backAt l k) = true) : simple2At l k = false := by simp [simple2At, h]
theorem simple2At_hit {l : List Pt} {k j : Nat} (hj : j < l.length) (h2 : j + 2 ≤ k) (h : hit2At l k j = true) : simple2At l k = false := by
  have : ((List.range l.length).all fun j => decide (k < j + 2) || !hit2At l k j) = false := by
    rw [List.all_eq_false]; refine ⟨j, List.mem_range.2 hj, ?_⟩
    rw [h, decide_eq_false (by omega)]; decide
  unfold simple2At
  rw [this, Bool.and_false]
theorem simple2At_yes {l : List Pt} {k : Nat} (h1 : (zeroAt l k || backAt l k) = false) (h2 : ∀ j, j + 2 ≤ k → hit2At l k j = false) : simple2At l k = true := by
  unfold simple2At
  rw [h1, Bool.not_false, Bool.true_and, List.all_eq_true]
  intro j _
  by_cases e : k < j + 2
  · rw [decide_eq_true e]; rfl
  · rw [h2 j (by omega)]; simp

theorem edge_any1 (b off n c : Nat) (l : List Pt) (i : Nat) (w : World) (hl : l.length = n) (hn : 0 < n) (hn' : n ≤ 1000000) (hi : i ≤ 10000) (h : PtsIn w b off l) :
    Calls Try.prog 89 #[.slice (some ⟨b, off, none⟩) n c, .int .i64 ((i : Int) + 1)] w fun e w' =>
      e = .returned (.tuple #[.agg #[.int .i64 (gt l ((i + 1) % n)).1, .int .i64 (gt l ((i + 1) % n)).2], .agg #[.int .i64 (nx l (i + 1)).1, .int .i64 (nx l (i + 1)).2]]) ∧ Below w.heap.size w w' := by
  have := edge_any b off n c l (i + 1) w hl hn hn' (by omega) h
  rwa [Int.natCast_add i 1] at this

set_option maxRecDepth 100000 in
set_option maxHeartbeats 2000000 in
theorem isSimple_any (b off n c : Nat) (l : List Pt) (w : World) (hl : l.length = n) (hn : 2 < n) (hn' : n ≤ 100) (h : PtsIn w b off l) (hb : b < w.heap.size) (hok : l.all okP = true) :
    Calls Try.prog 61 #[.slice (some ⟨b, off, none⟩) n c] w fun e w' =>
      e = .returned (.bool (simple2B l)) ∧ Below w.heap.size w w' := by
  have HL := Lib.hid hl
  have HP := Lib.hid h
  have HOK := Lib.hid hok
  clear hl h hok
  go_enter Try.func61, Try.ntmps61
  go_wp2
  go_loopw [14] (fun i wr => ∃ k : Nat, k ≤ n ∧ i = .int .i64 k ∧ (∀ j, j < k → simple2At l j = true) ∧ Below w.heap.size w wr) (fun i _ => n - (intOf i).toNat)
  case atStart => exact ⟨0, Nat.zero_le _, rfl, by omega, Below.refl _ _⟩
  case round =>
    obtain ⟨k, hk, rfl, hz, hbw⟩ := hrel
    have HZ := Lib.hid hz
    clear hz
    by_cases hlt : k < n
    · have HPw : Hid (PtsIn wr b off l) := Lib.hid (HP.out.below hbw hb)
      have hB : b < wr.heap.size := Nat.lt_of_lt_of_le hb hbw.size
      have N := fun W hW => Lib.hid (edge_any b off n c l k W HL.out (by omega) (by omega) (by omega) (HPw.out.below (B := wr.heap.size) hW hB))
      rw [Nat.mod_eq_of_lt hlt] at N
      have N1 := fun W hW => Lib.hid (edge_any1 b off n c l k W HL.out (by omega) (by omega) (by omega) (HPw.out.below (B := wr.heap.size) hW hB))
      have NJ := fun (j : Nat) (hj : j < n) W hW => Lib.hid (edge_any b off n c l j W HL.out (by omega) (by omega) (by omega) (HPw.out.below (B := wr.heap.size) hW hB))
      have okr := okP_bd (getD_ok HOK.out ((k + 1) % n))
      rw [show l.getD ((k + 1) % n) (0, 0) = gt l ((k + 1) % n) from rfl] at okr
      have okp := okP_bd (getD_ok HOK.out k)
      rw [show l.getD k (0, 0) = gt l k from rfl] at okp
      have okq := okP_bd (nx_ok HOK.out k)
      have oks := okP_bd (nx_ok HOK.out (k + 1))
      have EZ : Hid (zeroAt l k = eqP (gt l k) (nx l k)) := Lib.hid rfl
      have EB : Hid (backAt l k = backP (gt l k) (nx l k) (nx l (k + 1))) := Lib.hid rfl
      have EH : Hid (∀ j, hit2At l k j = (!(k - j == l.length - 1) && meet2P (gt l k) (nx l k) (gt l j) (nx l j))) := Lib.hid fun _ => rfl
      generalize gt l ((k + 1) % n) = r at *
      generalize gt l k = p at *
      generalize nx l k = q at *
      generalize nx l (k + 1) = s at *
      obtain ⟨x, y⟩ := p
      obtain ⟨qx, qy⟩ := q
      obtain ⟨rx, ry⟩ := r
      obtain ⟨sx, sy⟩ := s
      have gp := guard_pt
      have ep := eq_pt x y qx qy
      have TB := fun W => Lib.hid (turnsBack_any x y qx qy sx sy W (by omega) (by omega) (by omega) (by omega) (by omega) (by omega))
      go_wp2_with fail
      refine ((N _ (Below.refl _ _)).out).mono ?_
      rintro e w1 ⟨rfl, hb1⟩
      go_wp2_with fail
      have B := boxed2 w1 x y qx qy
      generalize (w1.alloc (Go.Proofs.Ytnijcdphmibjaaa.bx x y)).alloc (Go.Proofs.Ytnijcdphmibjaaa.bx qx qy) = w2 at *
      obtain ⟨P1, P2, hb2, hz2⟩ := B
      have hbr2 := hb1.trans (hb2.mono hb1.size)
      generalize w1.heap.size = g at *
      have hg2 : g + 1 < w2.heap.size := by omega
      clear hb2 hz2 N
      refine ((N1 _ hbr2).out).mono ?_
      rintro e w3 ⟨rfl, hb3⟩
      replace P1 := PtAt.below hb3 (by omega) P1
      replace P2 := PtAt.below hb3 (by omega) P2
      have hbr3 := hbr2.trans (hb3.mono hbr2.size)
      have hg3 : g + 1 < w3.heap.size := by have := hb3.size; omega
      clear hb3 hbr2 hg2 N1
      have B := boxed2 w3 rx ry sx sy
      go_upto_region 6 with (fail)
      generalize (w3.alloc (Go.Proofs.Ytnijcdphmibjaaa.bx rx ry)).alloc (Go.Proofs.Ytnijcdphmibjaaa.bx sx sy) = w4 at *
      obtain ⟨-, P3, hb4, hz4⟩ := B
      replace P1 := PtAt.below hb4 (by omega) P1
      replace P2 := PtAt.below hb4 (by omega) P2
      have hbr4 := hbr3.trans (hb4.mono hbr3.size)
      have hg4 : g + 1 < w4.heap.size ∧ w3.heap.size + 1 < w4.heap.size := by omega
      clear hb4 hz4 hbr3 hg3
      generalize w3.heap.size = g3 at *
      have hbw4 := hbw.trans (hbr4.mono hbw.size)
      obtain ⟨p1, p2⟩ := P1
      obtain ⟨p3, p4⟩ := P2
      obtain ⟨p5, p6⟩ := P3
      cases he : eqI x y qx qy
      · go_wp2_with fail
        refine ((TB _).out).mono ?_
        rintro e w5 ⟨rfl, hb5⟩
        obtain ⟨p1, p2⟩ := PtAt.below hb5 (by omega) ⟨p1, p2⟩
        obtain ⟨p3, p4⟩ := PtAt.below hb5 (by omega) ⟨p3, p4⟩
        have hbr5 := hbr4.trans (hb5.mono hbr4.size)
        have hbw5 := hbw.trans (hbr5.mono hbw.size)
        have hg5 : g + 1 < w5.heap.size := by have := hb5.size; omega
        clear hb5 hbr4 hbw4 hg4 p5 p6 TB
        cases hk2 : backB x y qx qy sx sy
        · have hbad : (zeroAt l k || backAt l k) = false := by rw [EZ.out, EB.out]; unfold eqP backP; rw [he, hk2]; rfl
          have HBAD := Lib.hid hbad
          clear hbad
          obtain ⟨wo, rfl⟩ : ∃ wo : World, wo = wr := ⟨_, rfl⟩
          go_wp2_with fail
          go_loopw [41] (fun i wr => ∃ q : Nat, i = .int .i64 q ∧ (q = 0 ∨ q + 1 ≤ k) ∧ (∀ j, j < q → hit2At l k j = false) ∧ PtAt wr g x y ∧ PtAt wr (g + 1) qx qy ∧ Below wo.heap.size wo wr ∧ g + 1 < wr.heap.size) (fun i _ => n - (intOf i).toNat)
          case atStart => exact ⟨0, rfl, .inl rfl, by omega, ⟨p1, p2⟩, ⟨p3, p4⟩, hbr5, hg5⟩
          case round =>
            clear p1 p2 p3 p4 hbr5 hg5 hbw5
            obtain ⟨q, rfl, hq, hits, P1, P2, hbr, hg5⟩ := hrel
            have HI := Lib.hid hits
            clear hits
            by_cases hlq : q + 1 < k
            · have NQ := NJ q (by omega) _ hbr
              rw [Nat.mod_eq_of_lt (by omega)] at NQ
              have okc := okP_bd (getD_ok HOK.out q)
              rw [show l.getD q (0, 0) = gt l q from rfl] at okc
              have okd := okP_bd (nx_ok HOK.out q)
              have EQ := Lib.hid (EH.out q)
              generalize gt l q = c1 at *
              generalize nx l q = c2 at *
              obtain ⟨cx, cy⟩ := c1
              obtain ⟨dx, dy⟩ := c2
              have TM := fun W => Lib.hid (meetD_any x y qx qy cx cy dx dy W (by omega) (by omega) (by omega) (by omega) (by omega) (by omega) (by omega) (by omega))
              have hnb : ((((k : Int) - (q : Int)) == ((n : Int) - 1)) = (k - q == l.length - 1)) := by
                rw [HL.out, Bool.eq_iff_iff, beq_iff_eq, beq_iff_eq]; omega
              have HNB := Lib.hid hnb
              clear hnb
              go_wp2_with fail
              refine (NQ.out).mono ?_
              rintro e w6 ⟨rfl, hb6⟩
              replace P1 := PtAt.below hb6 (by omega) P1
              replace P2 := PtAt.below hb6 (by omega) P2
              have hbr6 := hbr.trans (hb6.mono hbr.size)
              have hg6 : g + 1 < w6.heap.size := by have := hb6.size; omega
              clear hb6 hbr hg5
              have B := boxed2 w6 cx cy dx dy
              go_upto_region 13 with (fail)
              generalize (w6.alloc (Go.Proofs.Ytnijcdphmibjaaa.bx cx cy)).alloc (Go.Proofs.Ytnijcdphmibjaaa.bx dx dy) = w7 at *
              obtain ⟨P3, P4, hb7, hz7⟩ := B
              replace P1 := PtAt.below hb7 (by omega) P1
              replace P2 := PtAt.below hb7 (by omega) P2
              have hbr7 := hbr6.trans (hb7.mono hbr6.size)
              have hg7 : g + 1 < w7.heap.size := by omega
              clear hb7 hz7 hbr6 hg6
              generalize w6.heap.size = g6 at *
              have hbw7 := hbw.trans (hbr7.mono hbw.size)
              obtain ⟨p1, p2⟩ := P1
              obtain ⟨p3, p4⟩ := P2
              obtain ⟨p5, p6⟩ := P3
              obtain ⟨p7, p8⟩ := P4
              cases hg : (((k : Int) - (q : Int)) == ((n : Int) - 1))
              · go_wp2_with fail
                refine ((TM _).out).mono ?_
                rintro e w8 ⟨rfl, hb8⟩
                have P1 := PtAt.below hb8 (by omega) ⟨p1, p2⟩
                have P2 := PtAt.below hb8 (by omega) ⟨p3, p4⟩
                have hbr8 := hbr7.trans (hb8.mono hbr7.size)
                have hbw8 := hbw.trans (hbr8.mono hbw.size)
                have hg8 : g + 1 < w8.heap.size := by have := hb8.size; omega
                clear hb8 hbr7 hbw7 hg7 p1 p2 p3 p4 p5 p6 p7 p8 TM
                cases hm : meet2B x y qx qy cx cy dx dy
                · have hno : hit2At l k q = false := by rw [EQ.out, ← HNB.out]; unfold meet2P; rw [hm]; simp
                  have HNO := Lib.hid hno
                  clear hno
                  go_wp2_with fail
                  go_roundw
                  case rel =>
                    refine ⟨q + 1, by go_num, .inr (by omega), fun j hj => ?_, P1, P2, hbr8, hg8⟩
                    rcases Nat.lt_or_eq_of_le (Nat.le_of_lt_succ hj) with h' | h'
                    · exact HI.out j h'
                    · rw [h']; exact HNO.out
                  case measure => simp [intOf]; omega
                · have hno : simple2B l = false := simple2B_no (by rw [HL.out]; exact hlt) (simple2At_hit (j := q) (by rw [HL.out]; omega) (by omega) (by rw [EQ.out, ← HNB.out]; unfold meet2P; rw [hm, hg]; rfl))
                  have HNO := Lib.hid hno
                  clear hno
                  go_wp2_with fail
                  go_ret
                  exact ⟨ret_bool HNO.out.symm, hbw8⟩
              · have hno : hit2At l k q = false := by rw [EQ.out, ← HNB.out, hg]; rfl
                have HNO := Lib.hid hno
                clear hno
                go_wp2_with fail
                go_roundw
                case rel =>
                  refine ⟨q + 1, by go_num, .inr (by omega), fun j hj => ?_, ⟨p1, p2⟩, ⟨p3, p4⟩, hbr7, hg7⟩
                  rcases Nat.lt_or_eq_of_le (Nat.le_of_lt_succ hj) with h' | h'
                  · exact HI.out j h'
                  · rw [h']; exact HNO.out
                case measure => simp [intOf]; omega
            · have hbw6 := hbw.trans (hbr.mono hbw.size)
              go_wp2_with fail
              go_roundw
              case rel =>
                refine ⟨k + 1, by omega, by go_num, fun j hj => ?_, hbw6⟩
                rcases Nat.lt_or_eq_of_le (Nat.le_of_lt_succ hj) with h' | h'
                · exact HZ.out j h'
                · rw [h']; exact simple2At_yes HBAD.out (fun j hj => HI.out j (by omega))
              case measure => simp [intOf]; omega
        · have hno : simple2B l = false := simple2B_no (by rw [HL.out]; exact hlt) (simple2At_bad (by rw [EZ.out, EB.out]; unfold eqP backP; rw [hk2]; simp))
          have HNO := Lib.hid hno
          clear hno
          go_wp2_with fail
          go_ret
          exact ⟨ret_bool HNO.out.symm, hbw5⟩
      · have hno : simple2B l = false := simple2B_no (by rw [HL.out]; exact hlt) (simple2At_bad (by rw [EZ.out]; unfold eqP; rw [he]; rfl))
        have HNO := Lib.hid hno
        clear hno
        go_wp2_with fail
        go_ret
        exact ⟨ret_bool HNO.out.symm, hbw4⟩
    · obtain rfl : k = n := by omega
      have HF : Hid (simple2B l = true) := Lib.hid (by
        unfold simple2B
        rw [List.all_eq_true]
        intro i hi
        exact HZ.out i (by have := List.mem_range.1 hi; rw [HL.out] at this; exact this))
      go_wp2_with fail
      go_ret
      exact ⟨ret_bool HF.out.symm, hbw⟩
end Go.Proofs.Ytnijcdphmibjaaa
