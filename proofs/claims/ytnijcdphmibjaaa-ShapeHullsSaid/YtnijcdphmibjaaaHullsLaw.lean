/- ShapeHulls: the law's walk. -/
import Derived.Test.YtnijcdphmibjaaaHullTop
import Derived.Test.YtnijcdphmibjaaaAreasLaw
namespace Go.Proofs.Ytnijcdphmibjaaa
open Go.RowKit Go.Sort

set_option maxHeartbeats 8000000 in
set_option maxRecDepth 100000 in
theorem hulls_law (hS : SortsPts) (hR : ReversesPts) (A : Option Addr) (n c : Nat) (xs : List Pt) (w : World) (hn : xs.length = n) (hc : n ≤ c) (hbig : n ≤ 9223372036854775807) (hx : PtsAt w A xs) :
    Calls Try.prog 5 #[.slice A n c] w fun e w' => e = .returned (.bool true) ∧ Below w.heap.size w w' := by
  have K := Lib.hid (pcut_any A n c 20 xs w hn hc hbig (by omega) hx)
  have hlen := take_len (k := 20) hn
  generalize xs.take (cutN n 20) = l at *
  clear hn hc hbig hx
  go_enter Try.func5, Try.ntmps5
  go_wp2_with fail
  refine (K.out).mono ?_
  rintro e w1 ⟨v, rfl, hown, hb1⟩
  generalize hm : l.length = m at *
  obtain ⟨A1, c1, rfl, hc1, hat⟩ := hown.slice_n hm
  have HM := Lib.hid hm
  have HAT := Lib.hid hat
  have HW1 := Lib.hid hb1
  have KH := Lib.hid (hullX_any hS hR A1 m c1 l w1 hm (by omega) hat)
  have L := fun W => Lib.hid (lives4_any W)
  have hm33 : m ≤ 33 := by omega
  clear K hown hc1 hat hb1 hlen hm
  go_wp2_with fail
  refine (KH.out).mono ?_
  rintro e w2 ⟨hb2, hcase⟩
  have HW2 := Lib.hid (HW1.out.trans (hb2.mono HW1.out.size))
  have HAT2 : Hid (PtsAt w2 A1 l) := Lib.hid (HAT.out.below hb2)
  clear KH hb2
  rcases hcase with ⟨hp, rfl⟩ | ⟨hp, s, hperm, hsort, ⟨hh, rfl⟩ | ⟨hh, v, rfl, ho⟩⟩
  · have HP := Lib.hid hp
    clear hp
    go_wp2_with fail
    go_loopw [6] (fun i wr => ∃ k : Nat, k ≤ m ∧ i = .int .i64 k ∧ (l.take k).all okP = true ∧ Below w2.heap.size w2 wr) (fun i _ => m - (intOf i).toNat)
    case atStart => exact ⟨0, Nat.zero_le _, rfl, by simp, Below.refl _ _⟩
    case round =>
      obtain ⟨k, hk, rfl, hall, hbr⟩ := hrel
      have HALL := Lib.hid hall
      have HBR := Lib.hid hbr
      have HBW : Hid (Below w.heap.size w wr) := Lib.hid (HW2.out.trans (hbr.mono HW2.out.size))
      clear hall
      by_cases hlt : k < m
      · have hkl : k < l.length := by rw [HM.out]; exact hlt
        obtain ⟨b, off, rfl, hb, hin⟩ := HAT2.out (by intro e; subst e; simp at hkl)
        obtain ⟨h1, h2⟩ := (hin.below hbr hb) k _ (List.getElem?_eq_getElem hkl)
        have HN : Hid ((l.take (k + 1)).all okP = okP l[k]) := Lib.hid (by
          rw [List.take_succ_eq_append_getElem hkl, List.all_append, HALL.out]; simp)
        clear hin hbr
        generalize l[k] = p at *
        obtain ⟨x, y⟩ := p
        have V := fun W => Lib.hid (valid_any x y 10000 (by omega) W)
        replace HN : Hid ((l.take (k + 1)).all okP = validB x y 10000) := HN
        cases hv : validB x y 10000
        · rw [hv] at V
          go_wp2_with fail
          refine ((V _).out).mono ?_
          rintro e w3 ⟨rfl, hb3⟩
          have hbw3 := HBW.out.trans (hb3.mono HBW.out.size)
          go_wp2_with fail
          refine ((L _).out).mono ?_
          rintro e w4 ⟨rfl, hb4⟩
          have hbw4 := hbw3.trans (hb4.mono hbw3.size)
          go_wp2
          go_ret
          exact ⟨rfl, hbw4⟩
        · rw [hv] at V
          have HN2 := Lib.hid (HN.out.trans hv)
          go_wp2_with fail
          refine ((V _).out).mono ?_
          rintro e w3 ⟨rfl, hb3⟩
          have hbr3 := HBR.out.trans (hb3.mono HBR.out.size)
          go_wp2_with fail
          go_roundw
          case rel => exact ⟨k + 1, by omega, by go_num, HN2.out, hbr3⟩
          case measure => simp [intOf]; omega
      · obtain rfl : k = m := by omega
        have hmm : k < 1 ∨ 32 < k := by
          have h1 := HP.out
          have h2 := HALL.out
          rw [List.take_of_length_le (by rw [HM.out]; omega)] at h2
          rcases Nat.lt_or_ge k 1 with q | q
          · exact .inl q
          · rcases Nat.lt_or_ge 32 k with q2 | q2
            · exact .inr q2
            · rw [ptsB_1.2 ⟨by rw [HM.out]; omega, by rw [HM.out]; omega, h2⟩] at h1; cases h1
        clear hbr
        rcases hmm with hmm | hmm
        all_goals
          go_wp2_with fail
          refine ((L _).out).mono ?_
          rintro e w4 ⟨rfl, hb4⟩
          have hbw4 := HBW.out.trans (hb4.mono HBW.out.size)
          go_wp2
          go_ret
          exact ⟨rfl, hbw4⟩
  · obtain ⟨q1, q2, q3⟩ := ptsB_1.1 hp
    obtain ⟨hfl, hHull⟩ := hull_both (l := l) (s := s) (by omega) hperm hsort
    have hHlen := hullL_len s
    have HOK := Lib.hid q3
    have HFL := Lib.hid hfl
    have HHU := Lib.hid hHull
    have HHL : Hid ((hullL s).length ≤ 1000) := Lib.hid (by have := hperm.length_eq; omega)
    have hm1 : 1 ≤ m := by have := HM.out; omega
    have hm2 : m ≤ 32 := by have := HM.out; omega
    clear hp q1 q2 q3 hfl hHull hHlen hperm hsort
    have HH3 := Lib.hid hh
    clear hh
    go_wp2_with fail
    go_loopw [6] (fun i wr => ∃ k : Nat, k ≤ m ∧ i = .int .i64 k ∧ Below w2.heap.size w2 wr) (fun i _ => m - (intOf i).toNat)
    case atStart => exact ⟨0, Nat.zero_le _, rfl, Below.refl _ _⟩
    case round =>
      obtain ⟨k, hk, rfl, hbr⟩ := hrel
      have HBR := Lib.hid hbr
      have HBW : Hid (Below w.heap.size w wr) := Lib.hid (HW2.out.trans (hbr.mono HW2.out.size))
      by_cases hlt : k < m
      · have hkl : k < l.length := by rw [HM.out]; exact hlt
        obtain ⟨b, off, rfl, hb, hin⟩ := HAT2.out (by intro e; subst e; simp at hkl)
        obtain ⟨h1, h2⟩ := (hin.below hbr hb) k _ (List.getElem?_eq_getElem hkl)
        have hv : okP l[k] = true := List.all_eq_true.1 HOK.out _ (List.getElem_mem hkl)
        clear hin hbr
        generalize l[k] = p at *
        obtain ⟨x, y⟩ := p
        have V := fun W => Lib.hid (valid_any x y 10000 (by omega) W)
        replace hv : validB x y 10000 = true := hv
        rw [hv] at V
        go_wp2_with fail
        refine ((V _).out).mono ?_
        rintro e w3 ⟨rfl, hb3⟩
        have hbr3 := HBR.out.trans (hb3.mono HBR.out.size)
        go_wp2_with fail
        go_roundw
        case rel => exact ⟨k + 1, by omega, by go_num, hbr3⟩
        case measure => simp [intOf]; omega
      · obtain rfl : k = m := by omega
        obtain ⟨b, off, rfl, hb, hin⟩ := HAT2.out (by intro e; have := HM.out; rw [e] at this; simp at this; omega)
        have KR := Lib.hid (refHull_any b off k c1 l (hullL s) wr HM.out hm1 (by omega) (hin.below hbr hb) (Nat.lt_of_lt_of_le hb hbr.size) (ok_Bd HOK.out) (by rw [← HM.out]; exact HHU.out) HHL.out)
        clear hin hbr
        go_wp2_with fail
        refine (KR.out).mono ?_
        rintro e w3 ⟨hb3, hc3⟩
        have hbw3 := HBW.out.trans (hb3.mono HBW.out.size)
        have HBR3 := Lib.hid (HBR.out.trans (hb3.mono HBR.out.size))
        rcases hc3 with ⟨hf3, rfl⟩ | ⟨hf3, v3, rfl, ho3⟩
        · clear HFL HHU
          go_wp2_with fail
          refine ((L _).out).mono ?_
          rintro e w4 ⟨rfl, hb4⟩
          have hbw4 := hbw3.trans (hb4.mono hbw3.size)
          go_wp2
          go_ret
          exact ⟨rfl, hbw4⟩
        · exfalso
          have := HFL.out.2 HH3.out
          rw [hf3] at this; cases this
  · obtain ⟨q1, q2, q3⟩ := ptsB_1.1 hp
    obtain ⟨hfl, hHull⟩ := hull_both (l := l) (s := s) (by omega) hperm hsort
    have hHlen := hullL_len s
    have HOK := Lib.hid q3
    have HFL := Lib.hid hfl
    have HHU := Lib.hid hHull
    have HHL : Hid ((hullL s).length ≤ 1000) := Lib.hid (by have := hperm.length_eq; omega)
    have hm1 : 1 ≤ m := by have := HM.out; omega
    have hm2 : m ≤ 32 := by have := HM.out; omega
    clear hp q1 q2 q3 hfl hHull hHlen hperm hsort
    have HH3 := Lib.hid hh
    have HOV := Lib.hid ho
    clear hh ho
    generalize hhl : (hullL s).length = hq at *
    obtain ⟨AH, cH, rfl, hcH, _⟩ := HOV.out.slice_n hhl
    have HQL := Lib.hid hhl
    clear hhl
    go_wp2_with fail
    go_loopw [6] (fun i wr => ∃ k : Nat, k ≤ m ∧ i = .int .i64 k ∧ Below w2.heap.size w2 wr) (fun i _ => m - (intOf i).toNat)
    case atStart => exact ⟨0, Nat.zero_le _, rfl, Below.refl _ _⟩
    case round =>
      obtain ⟨k, hk, rfl, hbr⟩ := hrel
      have HBR := Lib.hid hbr
      have HBW : Hid (Below w.heap.size w wr) := Lib.hid (HW2.out.trans (hbr.mono HW2.out.size))
      by_cases hlt : k < m
      · have hkl : k < l.length := by rw [HM.out]; exact hlt
        obtain ⟨b, off, rfl, hb, hin⟩ := HAT2.out (by intro e; subst e; simp at hkl)
        obtain ⟨h1, h2⟩ := (hin.below hbr hb) k _ (List.getElem?_eq_getElem hkl)
        have hv : okP l[k] = true := List.all_eq_true.1 HOK.out _ (List.getElem_mem hkl)
        clear hin hbr
        generalize l[k] = p at *
        obtain ⟨x, y⟩ := p
        have V := fun W => Lib.hid (valid_any x y 10000 (by omega) W)
        replace hv : validB x y 10000 = true := hv
        rw [hv] at V
        go_wp2_with fail
        refine ((V _).out).mono ?_
        rintro e w3 ⟨rfl, hb3⟩
        have hbr3 := HBR.out.trans (hb3.mono HBR.out.size)
        go_wp2_with fail
        go_roundw
        case rel => exact ⟨k + 1, by omega, by go_num, hbr3⟩
        case measure => simp [intOf]; omega
      · obtain rfl : k = m := by omega
        obtain ⟨b, off, rfl, hb, hin⟩ := HAT2.out (by intro e; have := HM.out; rw [e] at this; simp at this; omega)
        have KR := Lib.hid (refHull_any b off k c1 l (hullL s) wr HM.out hm1 (by omega) (hin.below hbr hb) (Nat.lt_of_lt_of_le hb hbr.size) (ok_Bd HOK.out) (by rw [← HM.out]; exact HHU.out) (by rw [HQL.out]; exact HHL.out))
        clear hin hbr
        go_wp2_with fail
        refine (KR.out).mono ?_
        rintro e w3 ⟨hb3, hc3⟩
        have hbw3 := HBW.out.trans (hb3.mono HBW.out.size)
        have HBR3 := Lib.hid (HBR.out.trans (hb3.mono HBR.out.size))
        rcases hc3 with ⟨hf3, rfl⟩ | ⟨hf3, v3, rfl, ho3⟩
        · exfalso
          have h1 := HFL.out.1 hf3
          have h2 := HH3.out
          omega
        · obtain ⟨A3, c3, rfl, hc3, hat3⟩ := ho3.slice_n HQL.out
          obtain ⟨AH', cH', eH, _, hatH⟩ := HOV.out.slice_n HQL.out
          simp only [Value.slice.injEq] at eH
          obtain ⟨rfl, -, rfl⟩ := eH
          have KS := Lib.hid (same_any AH A3 hq hq cH c3 (hullL s) (hullL s) w3 HQL.out (by have := HHL.out; omega) (hatH.belows (B := w2.heap.size) HBR3.out (Nat.le_refl _)) HQL.out (by have := HHL.out; omega) hat3)
          have hsame : decide (hullL s = hullL s) = true := decide_eq_true rfl
          rw [hsame] at KS
          have hq3 : ¬ hq = 0 := by have := HH3.out; omega
          clear hat3 hatH ho3 HFL HHU hsame HOV
          go_wp2_with fail
          refine (KS.out).mono ?_
          rintro e w5 ⟨rfl, hb5⟩
          have hbw5 := hbw3.trans (hb5.mono hbw3.size)
          go_wp2_with fail
          refine ((L _).out).mono ?_
          rintro e w4 ⟨rfl, hb4⟩
          have hbw4 := hbw5.trans (hb4.mono hbw5.size)
          go_wp2
          go_ret
          exact ⟨rfl, hbw4⟩
end Go.Proofs.Ytnijcdphmibjaaa
