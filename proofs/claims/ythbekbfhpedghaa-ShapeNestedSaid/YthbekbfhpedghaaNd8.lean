/- Parts of the proof, one after the other: NestedLaw, HullsSort. -/
import Derived.Test.YthbekbfhpedghaaNd7
import Derived.Test.YthbekbfhpedghaaNd1
import Derived.Deep.CutBlock
import Derived.BigQuiet
import Derived.Lib.QuietBelow
import Derived.Test.YthbekbfhpedghaaShelf
import Derived.Test.YthbekbfhpedghaaNd4
/- ShapeNested: the law's walk. -/
namespace Go.Proofs.Ythbekbfhpedghaa
open Go.RowKit Go.Sort
attribute [local go_sem ↓] run_min_mn run_max_mx Go.wp_at_zero Go.wp_at_succ

def Hulls (L : List (List Pt)) : Prop := ∀ l ∈ L, HullOk l
theorem Hulls.snoc {L : List (List Pt)} (h : Hulls L) {l : List Pt} (hl : HullOk l) : Hulls (L ++ [l]) := fun p hp => by
  rcases List.mem_append.1 hp with hp | hp
  · exact h p hp
  · obtain rfl := List.mem_singleton.1 hp; exact hl
theorem Hulls.len {L : List (List Pt)} (h : Hulls L) : ∀ l ∈ L, l.length ≤ 1000000 := fun l hl => by
  obtain ⟨l0, q⟩ := h l hl
  have := q.len; omega

/-- The first k shapes of the law. -/
def Made (k base : Nat) (v : Value) (wx : World) : Prop := ∃ L, L.length = k ∧ Hulls L ∧ PolysOwn wx base v L

set_option maxRecDepth 100000 in
set_option maxHeartbeats 16000000 in
theorem nested_law (hS : SortsPts) (hR : ReversesPts) (s0 s1 : Int) (A : Option Addr) (n c : Nat) (xs : List (List Pt)) (tx ty : Int) (w : World) (hn : xs.length = n) (hbig : n ≤ 9223372036854775807) (hx : PolysW w A xs)
    (hs0 : 0 ≤ s0 ∧ s0 ≤ 255) (hs1 : 0 ≤ s1 ∧ s1 ≤ 255) (htx : -9223372036854775808 ≤ tx ∧ tx ≤ 9223372036854775807) (hty : -9223372036854775808 ≤ ty ∧ ty ≤ 9223372036854775807) :
    Calls Try.prog 4 #[.agg #[.int .u8 s0, .int .u8 s1], .slice A n c, .agg #[.int .i64 tx, .int .i64 ty]] w fun e w' => e = .returned (.bool true) ∧ Below w.heap.size w w' := by
  have HN := Lib.hid hn
  have HX := Lib.hid hx
  clear hn hx
  have hN8 : ∃ N, N = min n 8 ∧ N ≤ n ∧ N ≤ 8 := ⟨_, rfl, by omega, by omega⟩
  obtain ⟨N, hNe, hNn, hN8⟩ := hN8
  have HNE := Lib.hid hNe
  clear hNe
  go_enter Try.func4, Try.ntmps4
  go_upto_region 1 with (fail)
  have hb0 : Below w.heap.size w ((w.alloc (.cells #[.int .u8 s0, .int .u8 s1] 35)).alloc (bx tx ty)) := (Below.refl _ _).alloc (Nat.le_refl _) _ |>.alloc (by simp) _
  have z0 : ((w.alloc (.cells #[.int .u8 s0, .int .u8 s1] 35)).alloc (bx tx ty)).cell? ⟨w.heap.size, 0, none⟩ = some (.int .u8 s0) := (World.cell?_alloc_lt _ _ ⟨w.heap.size, 0, none⟩ (by simp)).trans (by simp [World.cell?_alloc_new])
  have z1 : ((w.alloc (.cells #[.int .u8 s0, .int .u8 s1] 35)).alloc (bx tx ty)).cell? ⟨w.heap.size, 1, none⟩ = some (.int .u8 s1) := (World.cell?_alloc_lt _ _ ⟨w.heap.size, 1, none⟩ (by simp)).trans (by simp [World.cell?_alloc_new])
  have P0 : PtBlk ((w.alloc (.cells #[.int .u8 s0, .int .u8 s1] 35)).alloc (bx tx ty)) (w.heap.size + 1) [(tx, ty)] := by
    have := ptBlk_box (w.alloc (.cells #[.int .u8 s0, .int .u8 s1] 35)) tx ty
    rwa [World.size_alloc] at this
  have hz0 : ((w.alloc (.cells #[.int .u8 s0, .int .u8 s1] 35)).alloc (bx tx ty)).heap.size = w.heap.size + 2 := by simp
  generalize (w.alloc (.cells #[.int .u8 s0, .int .u8 s1] 35)).alloc (bx tx ty) = w0 at *
  have HP0 := Lib.hid P0
  have HB0 := Lib.hid hb0
  have HZ0 := Lib.hid hz0
  clear P0 hb0 hz0
  go_cut [7, 8] (fun a b wx => a = .int .i64 (s0 % 40 + 1) ∧ b = .int .i64 (s1 % 40 + 1) ∧ Below w.heap.size w wx ∧ PtBlk wx (w.heap.size + 1) [(tx, ty)] ∧ w.heap.size + 2 ≤ wx.heap.size)
  case first => as_aux_lemma =>
    have t1 := cell_regrown z0
    have t2 := cell_regrown z1
    have e0 : s0.tmod 40 = s0 % 40 := Int.tmod_eq_emod_of_nonneg (by omega)
    have e1 : s1.tmod 40 = s1 % 40 := Int.tmod_eq_emod_of_nonneg (by omega)
    have r1 : IntKind.i64.wrap s0 = s0 := by rw [IntKind.wrap_i64]; omega
    have r2 : IntKind.i64.wrap s1 = s1 := by rw [IntKind.wrap_i64]; omega
    have r3 : IntKind.i64.wrap (s0 % 40) = s0 % 40 := by rw [IntKind.wrap_i64]; omega
    have r4 : IntKind.i64.wrap (s1 % 40) = s1 % 40 := by rw [IntKind.wrap_i64]; omega
    have r5 : IntKind.i64.wrap (s0 % 40 + 1) = s0 % 40 + 1 := by rw [IntKind.wrap_i64]; omega
    have r6 : IntKind.i64.wrap (s1 % 40 + 1) = s1 % 40 + 1 := by rw [IntKind.wrap_i64]; omega
    clear z0 z1
    refine wp_region_quiet_below (by kernel_rfl) (by kernel_rfl) ?_
    repeat (go_big_quiet_step (fail))
    refine wpQuiet_nil ?_
    intro w7 hw'
    have hbq : Below w0.heap.size w0 w7 := by
      obtain ⟨⟨dq, osq⟩, hw''⟩ := hw'
      subst hw''
      exact below_regrown w0 dq osq
    have HBQ := Lib.hid hbq
    clear hw' hbq t1 t2
    go_wp2_with fail
    go_meet
    exact ⟨rfl, rfl, HB0.out.trans (HBQ.out.mono HB0.out.size), HP0.out.below HBQ.out (by rw [HZ0.out]; omega), by have := HBQ.out.size; have := HZ0.out; omega⟩
  case rest =>
  obtain ⟨rfl, rfl, hb1, P1, hz1⟩ := hcut
  have hW : 1 ≤ s0 % 40 + 1 ∧ s0 % 40 + 1 ≤ 40 := by omega
  have hH : 1 ≤ s1 % 40 + 1 ∧ s1 % 40 + 1 ≤ 40 := by omega
  clear z0 z1 HP0 HB0 HZ0
  generalize s0 % 40 + 1 = W at *
  generalize s1 % 40 + 1 = H at *
  clear hs0 hs1
  have HP1 := Lib.hid P1
  have HB1 := Lib.hid hb1
  have HZ1 := Lib.hid hz1
  clear P1 hb1 hz1
  obtain ⟨wb, rfl⟩ : ∃ wb : World, wb = wc := ⟨_, rfl⟩
  go_upto_block 0 with (fail)
  have O0 := PolysOwn.empty wb
  have hbe : Below wb.heap.size wb (wb.alloc (.cells #[] 24)) := (Below.refl _ _).alloc (Nat.le_refl _) _
  generalize wb.alloc (.cells #[] 24) = w2 at *
  have HO0 := Lib.hid O0
  have HBE := Lib.hid hbe
  clear O0 hbe
  go_cut [9] (fun v wx => Made N wb.heap.size v wx ∧ Below wb.heap.size wb wx)
  case first => as_aux_lemma =>
    go_wp2_with fail
    go_loopw [9, 10] (fun v9 i wr => ∃ k : Nat, k ≤ N ∧ i = .int .i64 k ∧ Made k wb.heap.size v9 wr ∧ Below wb.heap.size wb wr) (fun _ i _ => N - (intOf i).toNat)
    case atStart => exact ⟨0, Nat.zero_le _, rfl, ⟨[], rfl, (fun l h => by cases h), HO0.out⟩, HBE.out⟩
    case round =>
      clear HO0 HBE
      obtain ⟨k, hk, rfl, ⟨L, hLk, hLh, ho⟩, hbw⟩ := hrel
      have HO := Lib.hid ho
      have HLK := Lib.hid hLk
      have HLH := Lib.hid hLh
      clear ho hLk hLh
      by_cases hlt : k < N
      · have hkn : k < n := by omega
        have hkl : k < xs.length := by rw [HN.out]; exact hkn
        have hbx := HB1.out.trans (hbw.mono HB1.out.size)
        obtain ⟨b1, off1, rfl, hbl, hps⟩ := HX.out (by intro e; rw [e] at hkl; simp at hkl)
        obtain ⟨A2, n2, c2, h1, h2, h3, h4, h5, h6⟩ := hps k _ (List.getElem?_eq_getElem hkl)
        have h1' : wr.cell? ⟨b1, off1 + k, none⟩ = some (.slice A2 n2 c2) := (hbx.cell (p := ⟨b1, _, none⟩) hbl).trans h1
        have PC := Lib.hid (lawHull_any 12 ⟨by omega, by omega⟩ A2 n2 c2 _ wr h2 h4 (h6.below hbx) h5)
        have hls : L.length + 1 ≤ 100000 := by have := HLK.out; omega
        have hk8 : k < 8 := by omega
        have hbs0 : wb.heap.size ≤ wr.heap.size := hbw.size
        clear h1 h2 h3 h4 h5 h6 hps hbx
        go_wp2_with fail
        refine (PC.out).mono ?_
        rintro e w1 ⟨v, l, l0, rfl, hoc, hpoly, hb1⟩
        obtain ⟨A3, c3, rfl, -, hat3, -⟩ := hoc.slice
        have hl3 := hpoly.conv.three
        have HTY : Hid (l ≠ [] → PtsTy w1 A3 l) := Lib.hid fun he => by
          obtain ⟨A', c', e', ht, -⟩ := hoc.ty he
          simp only [Value.slice.injEq, true_and] at e'
          rw [e'.1]; exact ht
        have HHK : Hid (HullOk l) := Lib.hid ⟨l0, hpoly⟩
        have hbA : Below wr.heap.size wr (w1.alloc (.cells #[.slice A3 l.length c3] 24)) := hb1.alloc hb1.size _
        have HOA := Lib.hid (HO.out.belows hbA)
        have hcell : (w1.alloc (.cells #[.slice A3 l.length c3] 24)).cell? ⟨w1.heap.size, 0, none⟩ = some (.slice A3 l.length c3) := by simp [World.cell?_alloc_new]
        have hbs : wb.heap.size ≤ (w1.alloc (.cells #[.slice A3 l.length c3] 24)).heap.size := by rw [World.size_alloc]; have := hb1.size; omega
        have HBA := Lib.hid (hbw.trans (hbA.mono (by have := hbw.size; omega)))
        have HTA := Lib.hid (fun he => (HTY.out he).below ((Below.refl w1.heap.size w1).alloc (Nat.le_refl _) (.cells #[.slice A3 l.length c3] 24)))
        clear hoc hb1 hbA hat3 hpoly hl3 PC
        go_wp2_with (at_builtin; refine wpList_plapp rfl (.tmp 46) (.tmp 52) rfl wb.heap.size _ L w1.heap.size A3 l.length c3 l rfl rfl HOA.out hcell rfl HTA.out hls hbs ?_; intro v1 w2 ho hg hat; have HO2 := Lib.hid ho; have HG2 := Lib.hid hg; clear ho hg hat)
        have HB2 := Lib.hid (HBA.out.grown HG2.out hbs (fun q hq => (HOA.out.base q hq).1))
        go_roundw
        case rel => exact ⟨k + 1, by omega, by go_num, ⟨L ++ [l], by rw [List.length_append, HLK.out]; rfl, HLH.out.snoc HHK.out, HO2.out⟩, HB2.out⟩
        case measure => simp [intOf]; omega
      · obtain rfl : k = N := by omega
        have hend : Hid (Made k wb.heap.size u9 wr ∧ Below wb.heap.size wb wr) := Lib.hid ⟨⟨L, HLK.out, HLH.out, HO.out⟩, hbw⟩
        have h3 : (k = n) ∨ (k < n ∧ k = 8) := by have := HNE.out; omega
        clear HO HLK HLH HX HN HNE
        rcases h3 with h3 | ⟨h3, h4⟩
        all_goals
          go_wp2_with fail
          go_meet
          exact hend.out
  case rest =>
  obtain ⟨⟨L, hLN, hLH, ho⟩, hb2⟩ := hcut
  obtain ⟨A9, c9, e9, hat⟩ := ho.slice hLH.len
  rw [hLN] at e9
  subst e9
  have hcE := hulls_conE hLH
  have hout : (nestTo W H L N).out.length ≤ N := by
    obtain ⟨-, q1, q2, -⟩ := nestTo_laid (w := W) (h := H) (m := 32) (L := L) (fun l hl => ⟨(hLH l hl).shape.1, (hLH l hl).shape.2.1⟩) N (by omega)
    omega
  have hnE : nestE W H L = 0 := by
    unfold nestE
    rw [if_pos ⟨⟨by omega, by omega⟩, ⟨by omega, by omega⟩, by omega⟩]
    exact hcE
  have HLN := Lib.hid hLN
  have HLH := Lib.hid hLH
  have HAT := Lib.hid hat
  have HB2 := Lib.hid hb2
  have NX := fun V (hV : PolysAt V A9 L) => Lib.hid (nestX_any hS hR A9 N c9 L W H V HLN.out (by omega) hV)
  have LV := fun V => Lib.hid (lives4_any V)
  have HP2 := Lib.hid (HP1.out.below hb2 (by have := HZ1.out; omega))
  have HBW := Lib.hid (HB1.out.trans (hb2.mono HB1.out.size))
  have HNE2 := Lib.hid hnE
  clear hLN hLH hat hb2 ho hcE hnE HO0 HBE HX HN HNE HB1 HP1
  go_wp2_with fail
  refine ((NX _ HAT.out).out).mono ?_
  rintro e w3 ⟨hb3, hnx⟩
  have hnx' : ∃ v, e = .returned (.tuple #[v, .int .i64 0]) ∧ PlOwn w3 wc.heap.size v (nestTo W H L L.length).out := by
    rcases hnx with ⟨hz, rfl⟩ | ⟨hz, v, rfl, ho⟩
    · exact absurd HNE2.out hz
    · exact ⟨v, rfl, ho⟩
  obtain ⟨v11, rfl, ho11⟩ := hnx'
  rw [HLN.out] at ho11
  obtain ⟨A11, c11, rfl, hat11⟩ := ho11.slice
  have HPL := Lib.hid hat11
  have HAT3 := Lib.hid (HAT.out.below hb3)
  have HP3 := Lib.hid (HP2.out.below hb3 (by have := HB2.out.size; have := HZ1.out; omega))
  have HBW3 := Lib.hid (HBW.out.trans (hb3.mono HBW.out.size))
  have hz3 : w.heap.size + 2 ≤ w3.heap.size := by have := HB2.out.size; have := HZ1.out; have := hb3.size; omega
  clear hnx ho11 hat11 hb3 HAT HP2 HBW NX HB2 HZ1 HNE2
  have hO : ∃ O, (nestTo W H L N).out = O ∧ O.length ≤ N := ⟨_, rfl, hout⟩
  obtain ⟨O, hO, hOl⟩ := hO
  rw [hO] at HPL
  rw [hO]
  have HOE := Lib.hid hO
  clear hO hout
  have hol2 : decide (N < O.length) = false := decide_eq_false (by omega)
  go_wp2_with fail
  refine ((LV _).out).mono ?_
  rintro e w4 ⟨rfl, hb4⟩
  have HAT4 := Lib.hid (HAT3.out.below hb4)
  have HP4 := Lib.hid (HP3.out.below hb4 (by omega))
  have HPL4 := Lib.hid (HPL.out.below hb4)
  have HBW4 := Lib.hid (HBW3.out.trans (hb4.mono HBW3.out.size))
  have hz4 : w.heap.size + 2 ≤ w4.heap.size := by have := hb4.size; omega
  clear hb4 HAT3 HP3 HPL HBW3 hz3 LV
  go_upto_region 10 with (fail)
  go_upto_block 2 with (fail)
  have OL := PolysOwn.empty w4
  have hbL : Below w4.heap.size w4 (w4.alloc (.cells #[] 24)) := (Below.refl _ _).alloc (Nat.le_refl _) _
  generalize w4.alloc (.cells #[] 24) = w5 at *
  have HOL := Lib.hid OL
  have HBL := Lib.hid hbL
  have HRND := fun k (hk : k < N) => Lib.hid (nround (W := W) (H := H) hW.2 hH.2 hk HLN.out HLH.out HOE.out)
  have hP4 := HP4.out
  obtain ⟨tc1, tc2⟩ := hP4.one
  have FDX := fun V => Lib.hid (fold_any tx (W + 1) V ⟨by omega, by omega⟩)
  have FDY := fun V => Lib.hid (fold_any ty (H + 1) V ⟨by omega, by omega⟩)
  have hox := foldI_bd (x := tx) (n := W + 1) (by omega)
  have hoy := foldI_bd (x := ty) (n := H + 1) (by omega)
  generalize foldI tx (W + 1) = ox at *
  generalize foldI ty (H + 1) = oy at *
  have rW : IntKind.i64.wrap (W + 1) = W + 1 := by rw [IntKind.wrap_i64]; omega
  have rH : IntKind.i64.wrap (H + 1) = H + 1 := by rw [IntKind.wrap_i64]; omega
  have HTC := Lib.hid (And.intro tc1 tc2)
  have HRWH := Lib.hid (And.intro rW rH)
  clear OL hbL hP4 tc1 tc2 rW rH HP4 htx hty
  go_wp2_with fail
  go_loopw [13, 14, 15] (fun v13 n14 i wr => ∃ k : Nat, k ≤ N ∧ i = .int .i64 k ∧ n14 = .int .i64 ((nestTo W H L k).out.length : Nat) ∧ PolysOwn wr w4.heap.size v13 (nestTo W H L k).laid ∧ Below w4.heap.size w4 wr) (fun _ _ i _ => N - (intOf i).toNat)
  case atStart => exact ⟨0, Nat.zero_le _, rfl, rfl, HOL.out, HBL.out⟩
  case round => as_aux_lemma =>
    clear HOL HBL
    obtain ⟨k, hk, rfl, rfl, ho, hbw⟩ := hrel
    have HO := Lib.hid ho
    clear ho
    by_cases hlt : k < N
    · obtain ⟨l, vv, hlk, hNR⟩ := (HRND k hlt).out
      have hkl : k < L.length := by rw [HLN.out]; exact hlt
      obtain ⟨b1, off1, rfl, hbl, hps⟩ := HAT4.out (by intro e; rw [e] at hkl; simp at hkl)
      have hbl' := Nat.lt_of_lt_of_le hbl hbw.size
      have HPSI := Lib.hid (hps.below hbw hbl)
      obtain ⟨A2, n2, c2, h1, h2, h3', h4⟩ := HPSI.out k _ hlk
      generalize hst1 : nestTo W H L (k + 1) = st1 at *
      generalize nestTo W H L k = st at *
      have HST1 := Lib.hid hst1
      clear hst1
      have hNR' := hNR
      obtain ⟨hok, hfirst, hlaid, hlaidn, houtle, hnone, hsome⟩ := hNR
      have hsh := hok.shape
      obtain ⟨⟨l0, cl⟩, ll, lok⟩ := hsh
      have hl3 := cl.three
      obtain ⟨b3, off3, rfl, hb3, hpp⟩ := h4 (by intro e; rw [e] at hl3; simp at hl3)
      have HBX : ((-12 ≤ (lowL l).1 ∧ (lowL l).1 ≤ 12) ∧ (-12 ≤ (lowL l).2 ∧ (lowL l).2 ≤ 12)) ∧ ((-12 ≤ (highL l).1 ∧ (highL l).1 ≤ 12) ∧ (-12 ≤ (highL l).2 ∧ (highL l).2 ≤ 12)) := hok.box
      have HBLe := box_le (l := l) (by omega)
      have HPP := Lib.hid hpp
      have HSM := Lib.hid (atZero_small lok)
      have HBD : Hid (∀ i, Bd (gt l i)) := Lib.hid fun i => Bd.of_ok (getD_ok lok i)
      have BX := Lib.hid (refBoxX_any b3 off3 n2 c2 l wr h2 (by omega) (by omega) hpp hb3)
      have HAZ : Hid (atZero l = movedL l (negP (lowL l))) := Lib.hid rfl
      have HLZ : Hid ((atZero l).length = n2) := Lib.hid (by rw [← h2]; exact movedL_length _ _)
      have H1 := Lib.hid h1
      have HLAID := Lib.hid hlaid
      have HLDN := Lib.hid hlaidn
      have HOUTLE := Lib.hid houtle
      have HNONE := Lib.hid hnone
      have HSOME := Lib.hid hsome
      have HFIRST := Lib.hid hfirst
      have hn2 : n2 ≤ 32 := by omega
      have hn3 : 3 ≤ n2 := by omega
      clear cl lok hpp h4 hps h3' hNR' hok hfirst hlaid hlaidn houtle hnone hsome hlk ll hkl HRND
      generalize lowL l = lo at *
      generalize highL l = hi at *
      obtain ⟨lx, ly⟩ := lo
      obtain ⟨hx, hy⟩ := hi
      simp only at HBX HBLe HFIRST
      have q0 : negP (lx, ly) = (-lx, -ly) := rfl
      rw [q0] at HAZ
      have MV := fun V hV => Lib.hid (refMoved_any b3 off3 n2 c2 l (-lx, -ly) V h2 (by omega) (HPP.out.below (B := wr.heap.size) hV hb3) (Nat.lt_of_lt_of_le hb3 hV.size) HBD.out ⟨by simp only; omega, by simp only; omega⟩)
      rw [← HAZ.out] at MV
      clear q0 HAZ
      generalize atZero l = s at *
      have H2 := Lib.hid h2
      clear h2 hl3
      go_wp2_with fail
      refine (BX.out).mono ?_
      rintro e w1 ⟨rfl, hb1⟩
      clear h1
      have B2 := boxed2 w1 lx ly hx hy
      have K1 : PtBlk ((w1.alloc (Go.Proofs.Ythbekbfhpedghaa.bx lx ly)).alloc (Go.Proofs.Ythbekbfhpedghaa.bx hx hy)) w1.heap.size [(lx, ly)] := (ptBlk_box w1 lx ly).alloc _
      have K2 : PtBlk ((w1.alloc (Go.Proofs.Ythbekbfhpedghaa.bx lx ly)).alloc (Go.Proofs.Ythbekbfhpedghaa.bx hx hy)) (w1.heap.size + 1) [(hx, hy)] := by
        have := ptBlk_box (w1.alloc (Go.Proofs.Ythbekbfhpedghaa.bx lx ly)) hx hy
        rwa [World.size_alloc] at this
      go_upto_region 15 with (fail)
      generalize (w1.alloc (Go.Proofs.Ythbekbfhpedghaa.bx lx ly)).alloc (Go.Proofs.Ythbekbfhpedghaa.bx hx hy) = w2 at *
      obtain ⟨P1, P2, hb2, hz2⟩ := B2
      have hbr2 := hb1.trans (hb2.mono hb1.size)
      have hgw : wr.heap.size ≤ w1.heap.size := hb1.size
      generalize w1.heap.size = g at *
      have hg2 : g + 1 < w2.heap.size := by omega
      have HPT := Lib.hid (And.intro K1 K2)
      clear K1 K2
      have h1' : w2.cell? ⟨b1, off1 + k, none⟩ = some (.slice (some ⟨b3, off3, none⟩) n2 c2) := (hbr2.cell (p := ⟨b1, _, none⟩) hbl').trans H1.out
      obtain ⟨p1, p2⟩ := P1
      have n1 : IntKind.i64.wrap (-lx) = -lx := by rw [IntKind.wrap_i64]; omega
      have n2' : IntKind.i64.wrap (-ly) = -ly := by rw [IntKind.wrap_i64]; omega
      have hbz1 : b1 < w2.heap.size := by omega
      clear hb2 hz2 hb1 BX
      go_still_tail 11, (by kernel_rfl)
      change wpList _ _ _ _ _ w2.drew
      go_wp2_with fail
      refine ((MV _ hbr2.drew).out).mono ?_
      rintro e w3' ⟨v, rfl, hs, hb3'⟩
      have hbr3 := hbr2.drew.trans (hb3'.mono hbr2.drew.size)
      obtain ⟨A3, c3, rfl, TS, -⟩ := hs.ty (by intro e; have := HLZ.out; rw [e] at this; simp at this; omega)
      obtain ⟨gs, rfl, hgs, hsp⟩ := TS.lt
      have HSP := Lib.hid hsp
      have Q1 := (show PtBlk w2.drew g [(lx, ly)] from HPT.out.1).below hb3' (by show g < w2.heap.size; omega)
      have Q2 := (show PtBlk w2.drew (g + 1) [(hx, hy)] from HPT.out.2).below hb3' (by show g + 1 < w2.heap.size; omega)
      have hg3 : g + 1 < w3'.heap.size := by have := hb3'.size; have e : w2.drew.heap.size = w2.heap.size := rfl; omega
      have HBW3 := Lib.hid (hbw.trans (hbr3.mono hbw.size))
      have HO3 := Lib.hid (HO.out.belows hbr3)
      have HQ := Lib.hid (And.intro Q1 Q2)
      have hgt3 : w.heap.size + 1 < w3'.heap.size := by have := HBW3.out.size; omega
      have u1 := (HBW3.out.cell (p := ⟨w.heap.size + 1, 0, none⟩) (by simp only; omega)).trans HTC.out.1
      have u2 := (HBW3.out.cell (p := ⟨w.heap.size + 1, 1, none⟩) (by simp only; omega)).trans HTC.out.2
      clear hbr2 hbr3 hb3' MV hs TS p1 p2 n1 n2' hbz1 h1' HPT hg2 hgw hsp HO HPSI H1 HPP Q1 Q2 hb3 hbl'
      go_upto_region 16 with (fail)
      go_cut [19] (fun t wx => OwnOne w3' ox oy t wx)
      case first => as_aux_lemma =>
        have rW := HRWH.out.1
        have rH := HRWH.out.2
        have n1 := World.new_ne w3' _ u1
        have n2 := World.new_ne w3' _ u2
        go_region_held3 (fun w' => Below w3'.heap.size w3' w' ∧ w'.cell? ⟨w.heap.size + 1, 0, none⟩ = some (.int .i64 tx) ∧ w'.cell? ⟨w.heap.size + 1, 1, none⟩ = some (.int .i64 ty))
          (((repeat (first | refine keep_drew ?_ | refine keep_alloc ?_ hgt3 _ | refine keep_set ?_ hgt3 _ (by simp) _)); (first | assumption | exact hS | exact ⟨Below.refl _ _, u1, u2⟩)))
          (first | ((go_at_call 14; ((with_reducible refine ((FDX _).out).mono ?_); rintro e w' ⟨rfl, rfl⟩))) | ((go_at_call 14; ((with_reducible refine ((FDY _).out).mono ?_); rintro e w' ⟨rfl, rfl⟩))))
        all_goals (go_wp2_with fail; go_meet)
        all_goals exact ownOne w3' ox oy
      case rest =>
      obtain ⟨g9, rfl, hg9, PG9, hb9⟩ := hcut
      obtain ⟨w6, rfl⟩ : ∃ w6 : World, w6 = wc := ⟨_, rfl⟩
      have HP9 := Lib.hid PG9
      have hg96 : g9 < w6.heap.size := PG9.lt
      have HQ6 := Lib.hid (And.intro (HQ.out.1.below hb9 (by omega)) (HQ.out.2.below hb9 hg3))
      have HSP6 := Lib.hid (HSP.out.below hb9 hgs)
      have hgs6 : gs < w6.heap.size := Nat.lt_of_lt_of_le hgs hb9.size
      have hg6 : g + 1 < w6.heap.size := Nat.lt_of_lt_of_le hg3 hb9.size
      have HO6 := Lib.hid (HO3.out.belows hb9)
      have HBW6 := Lib.hid (HBW3.out.trans (hb9.mono HBW3.out.size))
      clear u1 u2 HSP HO3 HQ HBW3 hb9 PG9 hgs hg3 hgt3 hg9 FDX FDY HRWH HTC hbw
      obtain ⟨f0, hf0⟩ : ∃ f0 : Bool, f0 = decide (ox + hx - lx ≤ W ∧ oy + hy - ly ≤ H) := ⟨_, rfl⟩
      have HF0 : Hid (f0 = true → ox ≤ W - (hx - lx) ∧ oy ≤ H - (hy - ly)) := Lib.hid fun e => by
        rw [e] at hf0
        have := of_decide_eq_true hf0.symm
        omega
      go_upto_region 17 with (fail)
      go_cut [20] (fun t wx => t = .bool f0 ∧ w6 = wx)
      case first => as_aux_lemma =>
        obtain ⟨p1, p2⟩ := HQ6.out.1.one
        obtain ⟨p3, p4⟩ := HQ6.out.2.one
        obtain ⟨p5, p6⟩ := HP9.out.one
        have hs3 : (ox + hx - lx ≤ W ∧ oy + hy - ly ≤ H) ∨ (ox + hx - lx ≤ W ∧ H < oy + hy - ly) ∨ W < ox + hx - lx := by omega
        rcases hs3 with ⟨d1, d2⟩ | ⟨d1, d2⟩ | d1
        · have HE : Hid (f0 = true) := Lib.hid (by rw [hf0]; exact decide_eq_true ⟨d1, d2⟩)
          clear hf0 HF0
          go_wp2_with fail
          go_meet
          exact ⟨by first | (rw [HE.out]; done) | (rw [HE.out]; exact congrArg Value.bool (decide_eq_false (by omega))) | (exfalso; omega), rfl⟩
        · have HE : Hid (f0 = false) := Lib.hid (by rw [hf0]; exact decide_eq_false (by omega))
          clear hf0 HF0
          go_wp2_with fail
          go_meet
          exact ⟨by first | (rw [HE.out]; done) | (rw [HE.out]; exact congrArg Value.bool (decide_eq_false (by omega))) | (exfalso; omega), rfl⟩
        · have HE : Hid (f0 = false) := Lib.hid (by rw [hf0]; exact decide_eq_false (by omega))
          clear hf0 HF0
          go_wp2_with fail
          go_meet
          exact ⟨by first | (rw [HE.out]; done) | (rw [HE.out]; exact congrArg Value.bool (decide_eq_false (by omega))) | (exfalso; omega), rfl⟩
      case rest =>
      obtain ⟨rfl, rfl⟩ := hcut
      clear hf0
      obtain ⟨A13, c13, rfl, hat13⟩ := HO6.out.slice (fun p hp => by have := (HLAID.out p hp).2.1; omega)
      have HAT13 := Lib.hid hat13
      clear hat13
      have hmv : ∀ x y : Int, (0 ≤ x ∧ x ≤ 100) → (0 ≤ y ∧ y ≤ 100) → ∃ M, movedL s (x, y) = M ∧ M.length = n2 ∧ (∀ q ∈ M, Bd q) ∧ M ≠ [] ∧ ∀ V, Below w6.heap.size w6 V → Calls Try.prog 13 #[.slice (some ⟨gs, 0, none⟩) s.length c3, .agg #[.int .i64 x, .int .i64 y]] V (RefMovedTo M V) := fun x y hx' hy' =>
        ⟨_, rfl, by rw [movedL_length]; exact HLZ.out, fun q hq => by
          obtain ⟨z, hz, rfl⟩ := List.mem_map.1 hq
          have := HSM.out z hz
          unfold addP Bd
          simp only
          omega, fun e => by have e2 := movedL_length s (x, y); rw [e] at e2; have := HLZ.out; simp at e2; omega,
          fun V hV => refMoved_any gs 0 s.length c3 s (x, y) V rfl (by have := HLZ.out; omega) (HSP6.out.below hV hgs6) (Nat.lt_of_lt_of_le hgs6 hV.size) (small_bd (by omega) HSM.out) ⟨by simp only; omega, by simp only; omega⟩⟩
      obtain ⟨M, hM, hMl, hMb, hMne, hMV⟩ := hmv ox oy (by omega) (by omega)
      have HMV := Lib.hid hmv
      have HMLn := Lib.hid hMl
      have HME := Lib.hid hMb
      have HFR : Hid (freeB st.laid s (ox, oy) = st.laid.all fun p => apartB p M) := Lib.hid (by rw [← hM]; rfl)
      have MV2 := fun V hV => Lib.hid (hMV V hV)
      clear hM hMl hMb hMV hmv
      go_upto_block 4 with (fail)
      go_cut [20] (fun t wx => t = .bool (f0 && freeB st.laid s (ox, oy)) ∧ Below w6.heap.size w6 wx)
      case first => as_aux_lemma =>
        go_wp2_with fail
        go_loopw [20, 21] (fun f i wr => ∃ j : Nat, j ≤ st.laid.length ∧ i = .int .i64 j ∧ f = .bool (f0 && (st.laid.take j).all fun p => apartB p M) ∧ Below w6.heap.size w6 wr) (fun _ i _ => st.laid.length - (intOf i).toNat)
        case atStart => exact ⟨0, Nat.zero_le _, rfl, by simp, Below.refl _ _⟩
        case round =>
          obtain ⟨j, hj, rfl, rfl, hbj⟩ := hrel
          have hj16 : j ≤ 16 := by have := HLDN.out; omega
          generalize hT : (f0 && (st.laid.take j).all (fun p => apartB p M)) = t at *
          have HT := Lib.hid hT
          clear hT
          cases t
          · have HEND : Hid (Value.bool false = Value.bool (f0 && freeB st.laid s (ox, oy))) := Lib.hid (by
              rw [HFR.out]
              refine congrArg Value.bool ?_
              have e0 := HT.out
              rcases Bool.and_eq_false_iff.1 e0 with e | e
              · rw [e]; rfl
              · have e2 : (st.laid.all fun p => apartB p M) = false := by
                  obtain ⟨p, hp, hq⟩ := List.all_eq_false.1 e
                  exact List.all_eq_false.2 ⟨p, List.mem_of_mem_take hp, hq⟩
                rw [e2, Bool.and_false])
            clear HT
            by_cases hjl : j < st.laid.length
            all_goals
              go_wp2_with fail
              go_meet
              exact ⟨HEND.out, hbj⟩
          · by_cases hjl : j < st.laid.length
            · have HJL := Lib.hid hjl
              obtain ⟨b8, off8, rfl, hl8, hps8⟩ := HAT13.out (by intro e; rw [e] at hjl; simp at hjl)
              obtain ⟨A7, n7, c7, g1, g2, g3, g4⟩ := (hps8.below hbj hl8) j _ (List.getElem?_eq_getElem hjl)
              have HLD5 := HLAID.out _ (List.getElem_mem hjl)
              have HTN : Hid ((f0 && (st.laid.take (j + 1)).all (fun p => apartB p M)) = apartB st.laid[j] M) := Lib.hid (by
                have e0 := HT.out
                rw [Bool.and_eq_true] at e0
                rw [List.take_succ_eq_append_getElem hjl, List.all_append, e0.1, e0.2, Bool.true_and, Bool.true_and, List.all_cons, List.all_nil, Bool.and_true]; rfl)
              generalize st.laid[j] = p at *
              obtain ⟨⟨p0, cp⟩, lp, sp⟩ := HLD5
              have hp3 := cp.three
              obtain ⟨b7, off7, rfl, k1, k2⟩ := g4 (by intro e; rw [e] at hp3; simp at hp3)
              have hl8' : b8 < wr.heap.size := Nat.lt_of_lt_of_le hl8 hbj.size
              have hg9' : g9 < wr.heap.size := Nat.lt_of_lt_of_le hg96 hbj.size
              obtain ⟨v5, v6⟩ := (HP9.out.below hbj hg96).one
              have RA := fun V (hV : Below wr.heap.size wr V) gm c4 (hgm : gm < V.heap.size) (hmp : PtsIn V gm 0 M) => Lib.hid (refApart_any b7 off7 n7 c7 gm 0 M.length c4 p M V g2 (by omega) (by omega) (k2.below hV k1) (Nat.lt_of_lt_of_le k1 hV.size) (fun q hq => by have := sp q hq; exact ⟨by omega, by omega⟩) rfl (by have := HMLn.out; omega) (by have := HMLn.out; omega) hmp hgm HME.out)
              have MVj := fun V (hV : Below wr.heap.size wr V) => MV2 V (hbj.trans (hV.mono hbj.size))
              have HMne := Lib.hid hMne
              clear cp sp g3 g4 hps8 HT hjl hp3 hMne
              generalize apartB p M = ta at *
              go_upto_region 21 with (fail)
              go_region_held3 (fun w' => Below wr.heap.size wr w' ∧ w'.cell? ⟨b8, off8 + j, none⟩ = some (.slice (some ⟨b7, off7, none⟩) n7 c7) ∧ w'.cell? ⟨g9, 0, none⟩ = some (.int .i64 ox) ∧ w'.cell? ⟨g9, 1, none⟩ = some (.int .i64 oy))
                ((first | assumption | exact hS | exact ⟨Below.refl _ _, g1, v5, v6⟩ | (refine keep2_drew ?_; first | assumption | exact hS | exact ⟨Below.refl _ _, g1, v5, v6⟩)))
                (first | ((go_at_call 13; refine ((MVj _ ?_).out).mono ?_; (exact And.left (by assumption)); rintro e w' ⟨v, rfl, hs2, hb'⟩; have hS := keep2_call (by assumption) hl8' hg9' hb'; obtain ⟨A4, c4, rfl, TM, -⟩ := hs2.ty HMne.out; obtain ⟨gm, rfl, hgm, hmp⟩ := TM.lt; have HMP := Lib.hid (And.intro hgm hmp); clear hs2 TM hmp hgm)) | ((go_at_call 15; refine ((RA _ ?_ _ _ HMP.out.1 HMP.out.2).out).mono ?_; (exact And.left (by assumption)); rintro e w' ⟨rfl, hb''⟩; have hS := keep2_call (by assumption) hl8' hg9' hb'')))
              all_goals
                have HBE : Hid (Below wr.heap.size wr _) := Lib.hid hS.1
                clear hS
                go_wp2_with fail
                go_roundw
                case rel => exact ⟨j + 1, HJL.out, by go_num, by rw [HTN.out], by first | exact hbj.trans (HBE.out.mono hbj.size) | exact hbj.trans (HBE.out.drew.mono hbj.size)⟩
                case measure => have := HJL.out; simp [intOf]; omega
            · obtain rfl : j = st.laid.length := by omega
              have HEND : Hid (Value.bool true = Value.bool (f0 && freeB st.laid s (ox, oy))) := Lib.hid (by
                rw [HFR.out]
                have e0 := HT.out
                rw [List.take_length] at e0
                rw [e0])
              clear HT
              go_wp2_with fail
              go_meet
              exact ⟨HEND.out, hbj⟩
      case rest =>
      obtain ⟨rfl, hb7⟩ := hcut
      obtain ⟨w7, rfl⟩ : ∃ w7 : World, w7 = wc := ⟨_, rfl⟩
      have HAT7 := Lib.hid (HAT13.out.below hb7)
      have HO7 := Lib.hid (HO6.out.belows hb7)
      have HQ7 := Lib.hid (And.intro (HQ6.out.1.below hb7 (by omega)) (HQ6.out.2.below hb7 hg6))
      have HP97 := Lib.hid (HP9.out.below hb7 hg96)
      have HBW7 := Lib.hid (HBW6.out.trans (hb7.mono HBW6.out.size))
      have HB67 := Lib.hid hb7
      have HFF : Hid ((f0 && freeB st.laid s (ox, oy)) = true → (ox ≤ W - (hx - lx) ∧ oy ≤ H - (hy - ly)) ∧ freeB st.laid s (ox, oy) = true) := Lib.hid fun e => by
        rw [Bool.and_eq_true] at e
        exact ⟨HF0.out e.1, e.2⟩
      have hpl := HPL4.out.below HBW7.out
      clear HAT13 HO6 HQ6 HP9 HBW6 hb7 HF0 HFR MV2 hMne HMLn HME
      generalize (f0 && freeB st.laid s (ox, oy)) = ff at *
      obtain ⟨nn, hnn⟩ : ∃ nn : Bool, vv.isNone = nn := ⟨_, rfl⟩
      have hle := HOUTLE.out
      generalize hq : st.out.length = q at *
      have HQE := Lib.hid hq
      clear hq
      go_upto_region 22 with (fail)
      go_cut [163] (fun t wx => t = .bool nn ∧ w7 = wx)
      case first => as_aux_lemma =>
        by_cases hql : q < O.length
        · obtain ⟨b11, rfl, hb11, hpi⟩ := hpl (by intro e; rw [e] at hql; simp at hql)
          obtain ⟨h1, -, -⟩ := hpi q _ (List.getElem?_eq_getElem hql)
          have e1 : ((q : Int) == (O.length : Int)) = false := by simp; omega
          have HXX : Hid ((vv = none → O[q].1 ≠ k) ∧ ∀ v, vv = some v → O[q] = (k, v)) := Lib.hid ⟨fun e => (HNONE.out e).2 _ (List.getElem?_eq_getElem hql), fun v e => by
            have := (HSOME.out v e).2
            rw [List.getElem?_eq_getElem hql] at this
            exact Option.some.inj this⟩
          generalize O[q] = x at *
          obtain ⟨i, xp⟩ := x
          simp only at h1 HXX
          cases vv with
          | none =>
            have hne := HXX.out.1 rfl
            have e2 : ((i : Int) == (k : Int)) = false := by simp; omega
            have e3 : ((i : Int) != (k : Int)) = true := by simp; omega
            have HE : Hid (nn = true) := Lib.hid (by rw [← hnn]; rfl)
            clear hnn hne
            go_wp2_with fail
            go_meet
            exact ⟨by rw [HE.out], rfl⟩
          | some v =>
            have hie := HXX.out.2 v rfl
            simp only [Prod.mk.injEq] at hie
            obtain ⟨rfl, rfl⟩ := hie
            have HE : Hid (nn = false) := Lib.hid (by rw [← hnn]; rfl)
            have e2 : ((i : Int) == (i : Int)) = true := by simp
            have e3 : ((i : Int) != (i : Int)) = false := by simp
            clear hnn
            go_wp2_with fail
            go_meet
            exact ⟨by rw [HE.out], rfl⟩
        · have e1 : ((q : Int) == (O.length : Int)) = true := by simp; omega
          cases vv with
          | none =>
            have HE : Hid (nn = true) := Lib.hid (by rw [← hnn]; rfl)
            clear hnn
            go_wp2_with fail
            go_meet
            exact ⟨by rw [HE.out], rfl⟩
          | some v =>
            have := (HSOME.out v rfl).2
            rw [List.getElem?_eq_none (by omega)] at this
            cases this
      case rest =>
      obtain ⟨rfl, rfl⟩ := hcut
      cases vv with
      | none => as_aux_lemma =>
        obtain rfl : nn = true := hnn.symm
        obtain rfl : ff = false := by
          cases ff
          · rfl
          · have hfn : ∀ u : Pt, 0 ≤ u.1 → u.1 ≤ W - (hx - lx) → 0 ≤ u.2 → u.2 ≤ H - (hy - ly) → freeB st.laid s u = false := HFIRST.out
            have h2 := HFF.out rfl
            have h3 := hfn (ox, oy) hox.1 h2.1.1 hoy.1 h2.1.2
            rw [h2.2] at h3
            cases h3
        have HS1 := Lib.hid (HNONE.out rfl).1
        clear hnn hpl HNONE HSOME
        go_wp2_with fail
        go_roundw
        case rel => exact ⟨k + 1, by omega, by go_num, by rw [HST1.out, HS1.out, HQE.out], by rw [HST1.out, HS1.out]; exact HO7.out, HBW7.out⟩
        case measure => simp [intOf]; omega
      | some v => as_aux_lemma =>
        obtain rfl : nn = false := hnn.symm
        obtain ⟨hs1, hsO⟩ := HSOME.out v rfl
        have HS1 := Lib.hid hs1
        obtain ⟨b11, rfl, hb11, hpi⟩ := hpl (by intro e; rw [e] at hsO; simp at hsO)
        obtain ⟨-, h2, h3⟩ := hpi q _ hsO
        have hql : q < O.length := (List.getElem?_eq_some_iff.1 hsO).1
        have HFI : Hid (((0 ≤ v.1 ∧ v.1 ≤ W - (hx - lx)) ∧ (0 ≤ v.2 ∧ v.2 ≤ H - (hy - ly))) ∧ freeB st.laid s v = true ∧ ∀ u : Pt, 0 ≤ u.1 → u.1 ≤ W - (hx - lx) → 0 ≤ u.2 → u.2 ≤ H - (hy - ly) → (u.2 < v.2 ∨ (u.2 = v.2 ∧ u.1 < v.1)) → freeB st.laid s u = false) := Lib.hid ⟨⟨HFIRST.out.1, HFIRST.out.2.1⟩, HFIRST.out.2.2.1, HFIRST.out.2.2.2⟩
        obtain ⟨vx, vy⟩ := v
        simp only at h2 h3
        have hv := HFI.out.1
        simp only at hv
        obtain ⟨⟨hv1, hv2⟩, hv3, hv4⟩ := hv
        have hnb : ff = true → ¬ (oy < vy ∨ (oy = vy ∧ ox < vx)) := fun e h => by
          have h2 := HFF.out e
          have h3 := HFI.out.2.2 (ox, oy) hox.1 h2.1.1 hoy.1 h2.1.2 h
          rw [h2.2] at h3
          cases h3
        obtain ⟨M2, hM, hMl, hMb, hMne, hMV⟩ := HMV.out vx vy (by omega) (by omega)
        have HFR2 : Hid (∀ p ∈ st.laid, apartB p M2 = true) := Lib.hid (by
          have e := HFI.out.2.1
          unfold freeB at e
          rw [hM] at e
          exact List.all_eq_true.1 e)
        have HM2 := Lib.hid hM
        have HML2 := Lib.hid hMl
        have HMB2 := Lib.hid hMb
        have HMne2 := Lib.hid hMne
        have MV3 := fun V hV => Lib.hid (hMV V hV)
        clear hnn hpi hs1 hsO HFI HFF HFIRST hM hMl hMb hMne hMV HMV HNONE HSOME hle
        go_upto_region 26 with (fail)
        have P8 := ptBlk_box w7 vx vy
        have hb8 : Below w7.heap.size w7 (w7.alloc (bx vx vy)) := (Below.refl _ _).alloc (Nat.le_refl _) _
        generalize w7.alloc (bx vx vy) = w8 at *
        have HP8 := Lib.hid P8
        have hg78 : w7.heap.size < w8.heap.size := P8.lt
        have HAT8 := Lib.hid (HAT7.out.below hb8)
        have HO8 := Lib.hid (HO7.out.belows hb8)
        have HBW8 := Lib.hid (HBW7.out.trans (hb8.mono HBW7.out.size))
        have HB68 := Lib.hid (HB67.out.trans (hb8.mono HB67.out.size))
        have hg97 : g9 < w7.heap.size := HP97.out.lt
        have hg7 : g + 1 < w7.heap.size := HQ7.out.2.lt
        have HQ8 := Lib.hid (And.intro (HQ7.out.1.below hb8 (by omega)) (HQ7.out.2.below hb8 hg7))
        have HP98 := Lib.hid (HP97.out.below hb8 hg97)
        clear h2 h3 hb8 P8 HAT7 HO7 HBW7 HB67 HQ7 HP97
        go_cut [225] (fun t wx => t = .bool false ∧ w8 = wx)
        case first => as_aux_lemma =>
          obtain ⟨p1, p2⟩ := HQ8.out.1.one
          obtain ⟨p3, p4⟩ := HQ8.out.2.one
          obtain ⟨p5, p6⟩ := HP98.out.one
          obtain ⟨p7, p8⟩ := HP8.out.one
          have d1 : ¬ vx < 0 := by omega
          have d2 : ¬ vy < 0 := by omega
          have d3 : ¬ W < vx + hx - lx := by omega
          have d4 : ¬ H < vy + hy - ly := by omega
          cases ff
          · clear hnb
            go_wp2_with fail
            go_meet
            exact ⟨rfl, rfl⟩
          · have hnb' := hnb rfl
            clear hnb
            have d5 : ¬ oy < vy := by omega
            by_cases d6 : oy = vy
            · have d7 : ¬ ox < vx := by omega
              have d8 : (oy == vy) = true := by simp [d6]
              clear hnb' d6
              go_wp2_with fail
              go_meet
              exact ⟨rfl, rfl⟩
            · have d8 : (oy == vy) = false := by simp [d6]
              clear hnb' d6
              go_wp2_with fail
              go_meet
              exact ⟨rfl, rfl⟩
        case rest =>
        obtain ⟨rfl, rfl⟩ := hcut
        obtain ⟨p7, p8⟩ := HP8.out.one
        clear hnb HP98 HQ8
        go_wp2_with fail
        refine ((MV3 _ HB68.out).out).mono ?_
        rintro e w9 ⟨v, rfl, hs2, hb9⟩
        obtain ⟨A23, c23, rfl, TM, -⟩ := hs2.ty HMne2.out
        have HTM := Lib.hid TM
        obtain ⟨gm, rfl, hgm, hmp⟩ := TM.lt
        have HMP := Lib.hid hmp
        have HAT9 := Lib.hid (HAT8.out.below hb9)
        have HO9 := Lib.hid (HO8.out.belows hb9)
        have HBW9 := Lib.hid (HBW8.out.trans (hb9.mono HBW8.out.size))
        have hkb : st.laid.length ≤ 8 := by have := HLDN.out; omega
        clear p7 p8 MV3 HB68 hs2 TM hmp hb9 HAT8 HO8 HBW8 HP8
        go_wp2_with fail
        go_loopw [24] (fun i wr => ∃ j : Nat, j ≤ st.laid.length ∧ i = .int .i64 j ∧ Below w9.heap.size w9 wr) (fun i _ => st.laid.length - (intOf i).toNat)
        case atStart => exact ⟨0, Nat.zero_le _, rfl, Below.refl _ _⟩
        case round =>
          obtain ⟨j, hj, rfl, hbj⟩ := hrel
          by_cases hjl : j < st.laid.length
          · have HJL := Lib.hid hjl
            obtain ⟨b8, off8, rfl, hl8, hps8⟩ := HAT9.out (by intro e; rw [e] at hjl; simp at hjl)
            obtain ⟨A7, n7, c7, g1, g2, g3, g4⟩ := (hps8.below hbj hl8) j _ (List.getElem?_eq_getElem hjl)
            have HLD5 := HLAID.out _ (List.getElem_mem hjl)
            have hap := HFR2.out _ (List.getElem_mem hjl)
            generalize st.laid[j] = p at *
            obtain ⟨⟨p0, cp⟩, lp, sp⟩ := HLD5
            have hp3 := cp.three
            obtain ⟨b7, off7, rfl, k1, k2⟩ := g4 (by intro e; rw [e] at hp3; simp at hp3)
            have RA := Lib.hid (refApart_any b7 off7 n7 c7 gm 0 M2.length c23 p M2 wr g2 (by omega) (by omega) k2 k1 (fun q hq => by have := sp q hq; exact ⟨by omega, by omega⟩) rfl (by have := HML2.out; omega) (by have := HML2.out; omega) (HMP.out.below hbj hgm) (Nat.lt_of_lt_of_le hgm hbj.size) HMB2.out)
            rw [hap] at RA
            clear cp sp g2 g3 g4 k2 hps8 hap hp3
            go_wp2_with fail
            refine (RA.out).mono ?_
            rintro e w10 ⟨rfl, hb10⟩
            have HBJ10 := Lib.hid (hbj.trans (hb10.mono hbj.size))
            clear RA hb10 g1
            go_wp2_with fail
            go_roundw
            case rel => exact ⟨j + 1, HJL.out, by go_num, HBJ10.out⟩
            case measure => have := HJL.out; simp [intOf]; omega
          · obtain rfl : j = st.laid.length := by omega
            have HTMj := Lib.hid (HTM.out.below hbj)
            have HOj := Lib.hid (HO9.out.belows hbj)
            have HBWj := Lib.hid (HBW9.out.trans (hbj.mono HBW9.out.size))
            go_upto_region 34 with (fail)
            have hbA : Below wr.heap.size wr (wr.alloc (.cells #[.slice (some ⟨gm, 0, none⟩) M2.length c23] 24)) := (Below.refl _ _).alloc (Nat.le_refl _) _
            have HOA := Lib.hid (HOj.out.belows hbA)
            have hcell : (wr.alloc (.cells #[.slice (some ⟨gm, 0, none⟩) M2.length c23] 24)).cell? ⟨wr.heap.size, 0, none⟩ = some (.slice (some ⟨gm, 0, none⟩) M2.length c23) := by simp [World.cell?_alloc_new]
            have HTA := Lib.hid (HTMj.out.below hbA)
            have HBA := Lib.hid (HBWj.out.trans (hbA.mono HBWj.out.size))
            have hls : st.laid.length + 1 ≤ 100000 := by omega
            have hbs : w4.heap.size ≤ (wr.alloc (.cells #[.slice (some ⟨gm, 0, none⟩) M2.length c23] 24)).heap.size := HBA.out.size
            have hq8 : q ≤ 16 := by omega
            clear hbA hbj
            go_wp2_with (at_builtin; refine wpList_plapp rfl (.tmp 242) (.tmp 244) rfl w4.heap.size _ st.laid wr.heap.size (some ⟨gm, 0, none⟩) M2.length c23 M2 rfl rfl HOA.out hcell rfl (fun _ => HTA.out) hls hbs ?_; intro v1 w11 ho hg hat; have HO11 := Lib.hid ho; have HG11 := Lib.hid hg; clear ho hg hat)
            have HB11 := Lib.hid (HBA.out.grown HG11.out hbs (fun q hq => (HOA.out.base q hq).1))
            go_roundw
            case rel => exact ⟨k + 1, by omega, by go_num, by rw [HST1.out, HS1.out, List.length_append, HQE.out]; go_num, by rw [HST1.out, HS1.out, HM2.out]; exact HO11.out, HB11.out⟩
            case measure => simp [intOf]; omega
    · obtain rfl : k = N := by omega
      have HEQ : Hid ((nestTo W H L k).out.length = O.length) := Lib.hid (by rw [HOE.out])
      generalize (nestTo W H L k).out.length = z at *
      obtain rfl := HEQ.out
      have HBWE := Lib.hid (HBW4.out.trans (hbw.mono HBW4.out.size))
      have e1 : ((O.length : Int) == (O.length : Int)) = true := by simp
      clear HEQ HRND
      go_wp2_with fail
      go_ret
      exact ⟨rfl, HBWE.out⟩
end Go.Proofs.Ythbekbfhpedghaa

/- The library's sort and reverse at points. -/
namespace Go.Proofs.Ythbekbfhpedghaa
open Go.RowKit Go.Sort

theorem ltOf_cmpQ (x y : Pt) : ltOf cmpQ x y = firstP x y := cmpQ_first x y
theorem ltP_iff {a b : Pt} : firstP a b = true ↔ ltP a b := by
  unfold firstP firstB ltP
  simp only [Bool.or_eq_true, Bool.and_eq_true, decide_eq_true_eq, beq_iff_eq]
theorem swoPts : SWO (ltOf cmpQ) where
  irrefl x := by
    rw [ltOf_cmpQ]
    cases h : firstP x x
    · rfl
    · exact absurd (ltP_iff.1 h) (ltP_irrefl x)
  trans x y z h1 h2 := by
    rw [ltOf_cmpQ] at *
    exact ltP_iff.2 (ltP_trans (ltP_iff.1 h1) (ltP_iff.1 h2))
  ntrans x y z h1 h2 := by
    rw [ltOf_cmpQ] at *
    have k1 : leP y x := by
      rcases leP_total y x with g | g
      · exact g
      · rw [ltP_iff.2 g] at h1; cases h1
    have k2 : leP z y := by
      rcases leP_total z y with g | g
      · exact g
      · rw [ltP_iff.2 g] at h2; cases h2
    cases h : firstP x z
    · rfl
    · exact absurd (leP_ltP (leP_trans k2 k1) (ltP_iff.1 h)) (ltP_irrefl z)

theorem encP_one (x : Pt) : ∀ v ∈ encP x, v.oneCell' = true := fun v hv => by
  simp [encP] at hv; rcases hv with rfl | rfl <;> rfl

theorem sortsPts : SortsPts := fun blk off cap d w hH hblk hsz => by
  have eg : ∀ args w, (callFunc 49 args).run Try.prog w = .ok (.enter 49 args) w := enters_of Try.func49 (by kernel_rfl) rfl
  have h := AnyQ.slices_SortFunc Try.sortPt 2 Try.isAgg37 Try.sizeOf37 encP (fun _ => rfl) encP_one cmpQ swoPts 49 #[] blk off cap d w eg (fun _ _ _ _ x y => compare_lays x.1 x.2 y.1 y.2 _) hH hblk hsz
  exact h

theorem reversesPts : ReversesPts := fun blk off cap d w hH hsz h0 => by
  have h := AnyQ.slices_Reverse Try.reversePt 2 Try.isAgg37 Try.sizeOf37 encP (fun _ => rfl) encP_one blk off cap d w hH (by omega)
  exact h
end Go.Proofs.Ythbekbfhpedghaa
