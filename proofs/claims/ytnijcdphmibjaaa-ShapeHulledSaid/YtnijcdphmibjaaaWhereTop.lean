/- Package shape's Where, and the law's own 'simple'. -/
import Derived.Test.YtnijcdphmibjaaaRefWhere
namespace Go.Proofs.Ytnijcdphmibjaaa
open Go.RowKit Go.Sort
attribute [local go_sem ↓] run_min_mn run_max_mx

def simpE (l : List Pt) : Int := if polyB l then (if simpleB l then 0 else 2) else 1

theorem checkSimple_any (A : Option Addr) (n c : Nat) (l : List Pt) (w : World) (hn : l.length = n) (hbig : n ≤ 1000000) (hx : PtsAt w A l) :
    Calls Try.prog 68 #[.slice A n c] w fun e w' => e = .returned (.int .i64 (simpE l)) ∧ Below w.heap.size w w' := by
  have K := Lib.hid (isPolygon_any A n c l w hn hbig hx)
  cases hp : polyB l
  · have e1 : simpE l = 1 := by unfold simpE; rw [hp]; rfl
    rw [e1]
    rw [hp] at K
    clear hn hx
    go_enter Try.func68, Try.ntmps68
    go_wp2_with fail
    refine (K.out).mono ?_
    rintro e w' ⟨rfl, hb⟩
    go_wp2
    go_ret
    exact ⟨rfl, hb⟩
  · have e1 : simpE l = if simpleB l then 0 else 2 := by unfold simpE; rw [hp]; rfl
    have E1 := Lib.hid e1
    rw [hp] at K
    obtain ⟨b, off, rfl, h1, h2, h3, h4, h5⟩ := hx.poly hn hp
    have S := fun W hW => Lib.hid (isSimple_any b off n c l W hn (by omega) (by omega) (h4.below (B := w.heap.size) hW h3) (Nat.lt_of_lt_of_le h3 hW.size) h5)
    rw [simple_same] at S
    clear hn hx h4 h5 e1
    generalize simpE l = r at *
    cases hs : simpleB l
    all_goals
      have E2 := Lib.hid (E1.out.trans (by rw [hs]))
      rw [hs] at S
      go_enter Try.func68, Try.ntmps68
      go_wp2_with fail
      refine (K.out).mono ?_
      rintro e w1 ⟨rfl, hb⟩
      go_wp2_with fail
      refine ((S _ hb).out).mono ?_
      rintro e w2 ⟨rfl, hb2⟩
      go_wp2
      go_ret
      exact ⟨ret_int E2.out.symm, hb.trans (hb2.mono hb.size)⟩

theorem lawSimple_any (A : Option Addr) (n c : Nat) (l : List Pt) (w : World) (hn : l.length = n) (hbig : n ≤ 1000000) (hx : PtsAt w A l) :
    Calls Try.prog 29 #[.slice A n c] w fun e w' => e = .returned (.int .i64 (simpE l)) ∧ Below w.heap.size w w' := by
  have K := Lib.hid (polygonX_any A n c l w hn hbig hx)
  cases hp : polyB l
  · have e1 : simpE l = 1 := by unfold simpE; rw [hp]; rfl
    rw [e1]
    rw [hp] at K
    clear hn hx
    go_enter Try.func29, Try.ntmps29
    go_wp2_with fail
    refine (K.out).mono ?_
    rintro e w' ⟨rfl, hb⟩
    go_wp2
    go_ret
    exact ⟨rfl, hb⟩
  · have e1 : simpE l = if simpleB l then 0 else 2 := by unfold simpE; rw [hp]; rfl
    have E1 := Lib.hid e1
    rw [hp] at K
    obtain ⟨b, off, rfl, h1, h2, h3, h4, h5⟩ := hx.poly hn hp
    have S := fun W hW => Lib.hid (simple_any b off n c l W hn (by omega) (by omega) (h4.below (B := w.heap.size) hW h3) (Nat.lt_of_lt_of_le h3 hW.size) h5)
    clear hn hx h4 h5 e1
    generalize simpE l = r at *
    cases hs : simpleB l
    all_goals
      have E2 := Lib.hid (E1.out.trans (by rw [hs]))
      rw [hs] at S
      go_enter Try.func29, Try.ntmps29
      go_wp2_with fail
      refine (K.out).mono ?_
      rintro e w1 ⟨rfl, hb⟩
      go_wp2_with fail
      refine ((S _ hb).out).mono ?_
      rintro e w2 ⟨rfl, hb2⟩
      go_wp2
      go_ret
      exact ⟨ret_int E2.out.symm, hb.trans (hb2.mono hb.size)⟩

theorem simpE_cases (l : List Pt) : (simpE l = 1 ∧ polyB l = false) ∨ (simpE l = 2 ∧ polyB l = true ∧ simpleB l = false) ∨ (simpE l = 0 ∧ polyB l = true ∧ simpleB l = true) := by
  unfold simpE
  cases polyB l <;> cases simpleB l <;> simp

theorem simpE_zero {l : List Pt} (h0 : simpE l = 0) : polyB l = true ∧ simpleB l = true := by
  rcases simpE_cases l with h | h | h
  · rw [h.1] at h0; cases h0
  · rw [h.1] at h0; cases h0
  · exact h.2

def whereX (l : List Pt) (p : Pt) : Int := if simpE l = 0 ∧ validB p.1 p.2 10000 = true then whereR l p else 0
def whereE (l : List Pt) (p : Pt) : Int := if simpE l = 0 then (if validB p.1 p.2 10000 then 0 else 1) else simpE l

theorem valid_Bd {p : Pt} (h : validB p.1 p.2 10000 = true) : Bd p := Bd.of_ok (p := p) h

set_option maxHeartbeats 1000000 in
theorem whereX_any (A : Option Addr) (n c : Nat) (l : List Pt) (p : Pt) (w : World) (hn : l.length = n) (hbig : n ≤ 1000000) (hx : PtsAt w A l) :
    Calls Try.prog 28 #[.slice A n c, .agg #[.int .i64 p.1, .int .i64 p.2]] w fun e w' => e = .returned (.tuple #[.int .i64 (whereX l p), .int .i64 (whereE l p)]) ∧ Below w.heap.size w w' := by
  have hb0 : Below w.heap.size w (w.alloc (bx p.1 p.2)) := (Below.refl _ _).alloc (Nat.le_refl _) _
  have K := fun W hW => Lib.hid (checkSimple_any A n c l W hn hbig (hx.below (w' := W) hW))
  have V := fun W => Lib.hid (isNear_any p.1 p.2 10000 (by omega) W)
  have hW0 : w.heap.size < (w.alloc (bx p.1 p.2)).heap.size := by simp
  have P0 : PtAt (w.alloc (bx p.1 p.2)) w.heap.size p.1 p.2 := PtAt.new
  by_cases h0 : simpE l = 0
  · obtain ⟨hp, hs⟩ : polyB l = true ∧ simpleB l = true := simpE_zero h0
    obtain ⟨b, off, rfl, h1, h2, h3, h4, h5⟩ := hx.poly hn hp
    cases hv : validB p.1 p.2 10000
    · have e1 : whereX l p = 0 := by unfold whereX; rw [if_neg (by rw [hv]; simp)]
      have e2 : whereE l p = 1 := by unfold whereE; rw [if_pos h0, hv]; rfl
      rw [e1, e2]
      rw [h0] at K
      rw [hv] at V
      clear hn hx h4 h5 e1 e2 h0 hp hs hv
      go_enter Try.func28, Try.ntmps28
      go_upto_region 1 with (fail)
      generalize w.alloc (bx p.1 p.2) = w0 at *
      obtain ⟨p1, p2⟩ := P0
      go_wp2_with fail
      refine ((K _ hb0).out).mono ?_
      rintro e w1 ⟨rfl, hb1⟩
      obtain ⟨p1, p2⟩ := PtAt.below hb1 hW0 ⟨p1, p2⟩
      have hbw1 := hb0.trans (hb1.mono hb0.size)
      clear hb1
      go_wp2_with fail
      refine ((V _).out).mono ?_
      rintro e w2 ⟨rfl, hb2⟩
      have hbw2 := hbw1.trans (hb2.mono hbw1.size)
      go_wp2
      go_ret2
      exact ⟨rfl, hbw2⟩
    · have e1 : whereX l p = whereD l p := by unfold whereX; rw [if_pos ⟨h0, hv⟩, where_same]
      have e2 : whereE l p = 0 := by unfold whereE; rw [if_pos h0, hv]; rfl
      rw [e1, e2]
      rw [h0] at K
      rw [hv] at V
      have S := fun W hW => Lib.hid (where_any b off n c l p W hn (by omega) (by omega) (h4.below (B := w.heap.size) hW h3) (Nat.lt_of_lt_of_le h3 hW.size) (Bd.all h5) (valid_Bd hv))
      clear hn hx h4 h5 e1 e2 h0 hp hs hv
      generalize whereD l p = r at *
      go_enter Try.func28, Try.ntmps28
      go_upto_region 1 with (fail)
      generalize w.alloc (bx p.1 p.2) = w0 at *
      obtain ⟨p1, p2⟩ := P0
      go_wp2_with fail
      refine ((K _ hb0).out).mono ?_
      rintro e w1 ⟨rfl, hb1⟩
      obtain ⟨p1, p2⟩ := PtAt.below hb1 hW0 ⟨p1, p2⟩
      have hbw1 := hb0.trans (hb1.mono hb0.size)
      have hW1 : w.heap.size < w1.heap.size := Nat.lt_of_lt_of_le hW0 hb1.size
      clear hb1
      go_wp2_with fail
      refine ((V _).out).mono ?_
      rintro e w2 ⟨rfl, hb2⟩
      obtain ⟨p1, p2⟩ := PtAt.below hb2 hW1 ⟨p1, p2⟩
      have hbw2 := hbw1.trans (hb2.mono hbw1.size)
      clear hb2
      go_wp2_with fail
      refine ((S _ hbw2).out).mono ?_
      rintro e w3 ⟨rfl, hb3⟩
      have hbw3 := hbw2.trans (hb3.mono hbw2.size)
      go_wp2
      go_ret2
      exact ⟨rfl, hbw3⟩
  · have e1 : whereX l p = 0 := by unfold whereX; rw [if_neg (by rintro ⟨h, _⟩; exact h0 h)]
    have e2 : whereE l p = simpE l := by unfold whereE; rw [if_neg h0]
    rw [e1, e2]
    clear hn hx e1 e2 V
    generalize simpE l = r at *
    go_enter Try.func28, Try.ntmps28
    go_upto_region 1 with (fail)
    generalize w.alloc (bx p.1 p.2) = w0 at *
    go_wp2_with fail
    refine ((K _ hb0).out).mono ?_
    rintro e w1 ⟨rfl, hb1⟩
    have hbw1 := hb0.trans (hb1.mono hb0.size)
    clear hb1
    go_wp2
    go_ret2
    exact ⟨rfl, hbw1⟩
end Go.Proofs.Ytnijcdphmibjaaa
