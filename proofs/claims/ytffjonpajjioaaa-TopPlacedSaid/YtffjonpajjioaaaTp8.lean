/- Parts of the proof, one after the other: PlacedLaw. -/
import Derived.Test.YtffjonpajjioaaaTp6
import Derived.Test.YtffjonpajjioaaaTp7
import Derived.Test.YtffjonpajjioaaaTp1
import Derived.Test.YtffjonpajjioaaaTp5
import Derived.RegionTactic
import Derived.Test.YtffjonpajjioaaaTp2
import Derived.Deep.CutBlock
import Derived.BigQuiet
import Derived.Lib.QuietBelow
import Derived.StillTailTactics
/- TopPlaced: the law's walk. -/
namespace Go.Proofs.Ytffjonpajjioaaa
open Go.RowKit Go.Sort
attribute [local go_sem ↓] run_min_mn run_max_mx Go.wp_at_zero Go.wp_at_succ

def CornOk (l : List Pt) : Prop := ∃ l0, PolyC l l0
def Corns (L : List (List Pt)) : Prop := ∀ l ∈ L, CornOk l
theorem Corns.snoc {L : List (List Pt)} (h : Corns L) {l : List Pt} (hl : CornOk l) : Corns (L ++ [l]) := fun p hp => by
  rcases List.mem_append.1 hp with hp | hp
  · exact h p hp
  · obtain rfl := List.mem_singleton.1 hp; exact hl
theorem Corns.len {L : List (List Pt)} (h : Corns L) : ∀ l ∈ L, l.length ≤ 1000000 := fun l hl => by
  obtain ⟨l0, q⟩ := h l hl
  have := q.len; omega
theorem CornOk.shape {l : List Pt} (h : CornOk l) : ShapeOk l := by
  obtain ⟨l0, h⟩ := h
  refine ⟨⟨l0, h.conv⟩, by have := h.len; omega, List.all_eq_true.2 fun p hp => ?_⟩
  have := h.bd p hp
  unfold okP validB
  rw [Bool.and_eq_true, inB_true, inB_true]
  omega
theorem CornOk.conE {l : List Pt} (h : CornOk l) : conE l = 0 := by
  have k := h.shape
  obtain ⟨l0, h⟩ := h
  exact conv_conE h.conv k.2.2 k.2.1
theorem corns_conE : ∀ {L : List (List Pt)}, (∀ l ∈ L, CornOk l) → convsE L = 0
  | [], _ => rfl
  | a :: L, h => by
    show (if Go.Proofs.Ytffjonpajjioaaa.conE a = 0 then convsE L else Go.Proofs.Ytffjonpajjioaaa.conE a) = 0
    rw [if_pos (h a (List.mem_cons_self ..)).conE]
    exact corns_conE fun l hl => h l (List.mem_cons_of_mem _ hl)
/-- The unit square. -/
def sqL : List Pt := [(0, 0), (1, 0), (1, 1), (0, 1)]
theorem sq_ok : CornOk sqL := ⟨_, conv_of_convexB (by decide) (by decide), fun p hp => by
  simp only [sqL, List.mem_cons, List.not_mem_nil, or_false] at hp
  rcases hp with rfl | rfl | rfl | rfl <;> simp only <;> omega, by decide⟩
theorem sq_blk (w : World) : PtBlk (w.alloc (.cells #[.int .i64 0, .int .i64 0, .int .i64 1, .int .i64 0, .int .i64 1, .int .i64 1, .int .i64 0, .int .i64 1] 27)) w.heap.size sqL := heap_alloc_new _ _
/-- The first k shapes of the law. -/
def MadeC (k base : Nat) (v : Value) (wx : World) : Prop := ∃ L, L.length = k ∧ Corns L ∧ PolysOwn wx base v L

set_option maxRecDepth 100000 in
set_option maxHeartbeats 16000000 in
theorem placed_law (hS : SortsPts) (hR : ReversesPts) (s0 s1 : Int) (A : Option Addr) (n c : Nat) (xs : List (List Pt)) (w : World) (hn : xs.length = n) (hbig : n ≤ 9223372036854775807) (hx : PolysW w A xs)
    (hs0 : 0 ≤ s0 ∧ s0 ≤ 255) (hs1 : 0 ≤ s1 ∧ s1 ≤ 255) :
    Calls Try.prog 3 #[.agg #[.int .u8 s0, .int .u8 s1], .slice A n c] w fun e w' => e = .returned (.bool true) ∧ Below w.heap.size w w' := by
  have HN := Lib.hid hn
  have HX := Lib.hid hx
  clear hn hx
  have hN10 : ∃ N, N = min n 10 ∧ N ≤ n ∧ N ≤ 10 := ⟨_, rfl, by omega, by omega⟩
  obtain ⟨N, hNe, hNn, hN10⟩ := hN10
  have HNE := Lib.hid hNe
  clear hNe
  go_enter Try.func3, Try.ntmps3
  go_upto_region 1 with (fail)
  have hb0 : Below w.heap.size w (w.alloc (.cells #[.int .u8 s0, .int .u8 s1] 22)) := (Below.refl _ _).alloc (Nat.le_refl _) _
  have z0 : (w.alloc (.cells #[.int .u8 s0, .int .u8 s1] 22)).cell? ⟨w.heap.size, 0, none⟩ = some (.int .u8 s0) := by simp [World.cell?_alloc_new]
  have z1 : (w.alloc (.cells #[.int .u8 s0, .int .u8 s1] 22)).cell? ⟨w.heap.size, 1, none⟩ = some (.int .u8 s1) := by simp [World.cell?_alloc_new]
  have hz0 : (w.alloc (.cells #[.int .u8 s0, .int .u8 s1] 22)).heap.size = w.heap.size + 1 := by simp
  generalize w.alloc (.cells #[.int .u8 s0, .int .u8 s1] 22) = w0 at *
  have HB0 := Lib.hid hb0
  have HZ0 := Lib.hid hz0
  clear hb0 hz0
  go_cut [5, 6] (fun a b wx => a = .int .i64 (s0 % 30 + 1) ∧ b = .int .i64 (s1 % 30 + 1) ∧ Below w.heap.size w wx)
  case first => as_aux_lemma =>
    have t1 := cell_regrown z0
    have t2 := cell_regrown z1
    have e0 : s0.tmod 30 = s0 % 30 := Int.tmod_eq_emod_of_nonneg (by omega)
    have e1 : s1.tmod 30 = s1 % 30 := Int.tmod_eq_emod_of_nonneg (by omega)
    have r1 : IntKind.i64.wrap s0 = s0 := by rw [IntKind.wrap_i64]; omega
    have r2 : IntKind.i64.wrap s1 = s1 := by rw [IntKind.wrap_i64]; omega
    have r3 : IntKind.i64.wrap (s0 % 30) = s0 % 30 := by rw [IntKind.wrap_i64]; omega
    have r4 : IntKind.i64.wrap (s1 % 30) = s1 % 30 := by rw [IntKind.wrap_i64]; omega
    have r5 : IntKind.i64.wrap (s0 % 30 + 1) = s0 % 30 + 1 := by rw [IntKind.wrap_i64]; omega
    have r6 : IntKind.i64.wrap (s1 % 30 + 1) = s1 % 30 + 1 := by rw [IntKind.wrap_i64]; omega
    clear z0 z1
    refine wp_region_quiet_below (by kernel_rfl) (by kernel_rfl) ?_
    repeat (go_big_quiet_step (fail))
    refine wpQuiet_nil ?_
    intro w7 hw'
    have hbq : Below w0.heap.size w0 w7 := by
      obtain ⟨⟨dq, osq⟩, hw''⟩ := hw'
      subst hw''
      exact below_regrown w0 dq osq
    have HBQ := Lib.hid hbq
    clear hw' hbq t1 t2
    go_wp2_with fail
    go_meet
    exact ⟨rfl, rfl, HB0.out.trans (HBQ.out.mono HB0.out.size)⟩
  case rest =>
  obtain ⟨rfl, rfl, hb1⟩ := hcut
  have hW : 1 ≤ s0 % 30 + 1 ∧ s0 % 30 + 1 ≤ 30 := by omega
  have hH : 1 ≤ s1 % 30 + 1 ∧ s1 % 30 + 1 ≤ 30 := by omega
  clear z0 z1 HB0 HZ0
  generalize s0 % 30 + 1 = W at *
  generalize s1 % 30 + 1 = H at *
  clear hs0 hs1
  have HB1 := Lib.hid hb1
  clear hb1
  obtain ⟨wb, rfl⟩ : ∃ wb : World, wb = wc := ⟨_, rfl⟩
  go_upto_block 0 with (fail)
  have O0 := PolysOwn.empty wb
  have hbe : Below wb.heap.size wb (wb.alloc (.cells #[] 24)) := (Below.refl _ _).alloc (Nat.le_refl _) _
  generalize wb.alloc (.cells #[] 24) = w2 at *
  have HO0 := Lib.hid O0
  have HBE := Lib.hid hbe
  clear O0 hbe
  go_cut [7] (fun v wx => MadeC N wb.heap.size v wx ∧ Below wb.heap.size wb wx)
  case first => as_aux_lemma =>
    go_wp2_with fail
    go_loopw [7, 8] (fun v9 i wr => ∃ k : Nat, k ≤ N ∧ i = .int .i64 k ∧ MadeC k wb.heap.size v9 wr ∧ Below wb.heap.size wb wr) (fun _ i _ => N - (intOf i).toNat)
    case atStart => exact ⟨0, Nat.zero_le _, rfl, ⟨[], rfl, (fun l h => by cases h), HO0.out⟩, HBE.out⟩
    case round =>
      clear HO0 HBE
      obtain ⟨k, hk, rfl, ⟨L, hLk, hLh, ho⟩, hbw⟩ := hrel
      have HO := Lib.hid ho
      have HLK := Lib.hid hLk
      have HLH := Lib.hid hLh
      clear ho hLk hLh
      by_cases hlt : k < N
      · have hkn : k < n := by omega
        have hkl : k < xs.length := by rw [HN.out]; exact hkn
        have hbx := HB1.out.trans (hbw.mono HB1.out.size)
        obtain ⟨b1, off1, rfl, hbl, hps⟩ := HX.out (by intro e; rw [e] at hkl; simp at hkl)
        obtain ⟨A2, n2, c2, h1, h2, h3, h4, h5, h6⟩ := hps k _ (List.getElem?_eq_getElem hkl)
        have h1' : wr.cell? ⟨b1, off1 + k, none⟩ = some (.slice A2 n2 c2) := (hbx.cell (p := ⟨b1, _, none⟩) hbl).trans h1
        have PC := Lib.hid (corners_any hS hR A2 n2 c2 _ wr h2 h4 (h6.below hbx) h5)
        have hls : L.length + 1 ≤ 100000 := by have := HLK.out; omega
        have hk10 : k < 10 := by omega
        have hbs0 : wb.heap.size ≤ wr.heap.size := hbw.size
        clear h1 h2 h3 h4 h5 h6 hps hbx
        go_wp2_with fail
        refine (PC.out).mono ?_
        rintro e w1 ⟨v, l, l0, rfl, hoc, hpoly, hb1⟩
        obtain ⟨A3, c3, rfl, -, hat3, -⟩ := hoc.slice
        have hl3 := hpoly.conv.three
        have HTY : Hid (l ≠ [] → PtsTy w1 A3 l) := Lib.hid fun he => by
          obtain ⟨A', c', e', ht, -⟩ := hoc.ty he
          simp only [Value.slice.injEq, true_and] at e'
          rw [e'.1]; exact ht
        have HHK : Hid (CornOk l) := Lib.hid ⟨l0, hpoly⟩
        have hbA : Below wr.heap.size wr (w1.alloc (.cells #[.slice A3 l.length c3] 24)) := hb1.alloc hb1.size _
        have HOA := Lib.hid (HO.out.belows hbA)
        have hcell : (w1.alloc (.cells #[.slice A3 l.length c3] 24)).cell? ⟨w1.heap.size, 0, none⟩ = some (.slice A3 l.length c3) := by simp [World.cell?_alloc_new]
        have hbs : wb.heap.size ≤ (w1.alloc (.cells #[.slice A3 l.length c3] 24)).heap.size := by rw [World.size_alloc]; have := hb1.size; omega
        have HBA := Lib.hid (hbw.trans (hbA.mono (by have := hbw.size; omega)))
        have HTA := Lib.hid (fun he => (HTY.out he).below ((Below.refl w1.heap.size w1).alloc (Nat.le_refl _) (.cells #[.slice A3 l.length c3] 24)))
        clear hoc hb1 hbA hat3 hpoly hl3 PC
        go_wp2_with (at_builtin; refine wpList_plapp rfl (.tmp 59) (.tmp 65) rfl wb.heap.size _ L w1.heap.size A3 l.length c3 l rfl rfl HOA.out hcell rfl HTA.out hls hbs ?_; intro v1 w2 ho hg hat; have HO2 := Lib.hid ho; have HG2 := Lib.hid hg; clear ho hg hat)
        have HB2 := Lib.hid (HBA.out.grown HG2.out hbs (fun q hq => (HOA.out.base q hq).1))
        go_roundw
        case rel => exact ⟨k + 1, by omega, by go_num, ⟨L ++ [l], by rw [List.length_append, HLK.out]; rfl, HLH.out.snoc HHK.out, HO2.out⟩, HB2.out⟩
        case measure => simp [intOf]; omega
      · obtain rfl : k = N := by omega
        have hend : Hid (MadeC k wb.heap.size u7 wr ∧ Below wb.heap.size wb wr) := Lib.hid ⟨⟨L, HLK.out, HLH.out, HO.out⟩, hbw⟩
        have h3 : (k = n) ∨ (k < n ∧ k = 10) := by have := HNE.out; omega
        clear HO HLK HLH HX HN HNE
        rcases h3 with h3 | ⟨h3, h4⟩
        all_goals
          go_wp2_with fail
          go_meet
          exact hend.out
  case rest =>
  obtain ⟨⟨L0, hLN0, hLH0, ho0⟩, hb2⟩ := hcut
  have HO2 := Lib.hid ho0
  have HB2 := Lib.hid hb2
  have HLN0 := Lib.hid hLN0
  have HLH0 := Lib.hid hLH0
  clear ho0 hb2 hLN0 hLH0 HO0 HBE HX HN HNE
  go_upto_region 7 with (fail)
  have hsq := sq_blk wc
  have hbq : Below wc.heap.size wc (wc.alloc (.cells #[.int .i64 0, .int .i64 0, .int .i64 1, .int .i64 0, .int .i64 1, .int .i64 1, .int .i64 0, .int .i64 1] 27)) := (Below.refl _ _).alloc (Nat.le_refl _) _
  have hbA : Below wc.heap.size wc ((wc.alloc (.cells #[.int .i64 0, .int .i64 0, .int .i64 1, .int .i64 0, .int .i64 1, .int .i64 1, .int .i64 0, .int .i64 1] 27)).alloc (.cells #[.slice (some ⟨wc.heap.size, 0, none⟩) 4 4] 24)) := hbq.alloc (by simp) _
  have HOA := Lib.hid (HO2.out.belows hbA)
  have hcell : ((wc.alloc (.cells #[.int .i64 0, .int .i64 0, .int .i64 1, .int .i64 0, .int .i64 1, .int .i64 1, .int .i64 0, .int .i64 1] 27)).alloc (.cells #[.slice (some ⟨wc.heap.size, 0, none⟩) 4 4] 24)).cell? ⟨wc.heap.size + 1, 0, none⟩ = some (.slice (some ⟨wc.heap.size, 0, none⟩) 4 4) := by
    have := World.cell?_alloc_new (wc.alloc (.cells #[.int .i64 0, .int .i64 0, .int .i64 1, .int .i64 0, .int .i64 1, .int .i64 1, .int .i64 0, .int .i64 1] 27)) #[.slice (some ⟨wc.heap.size, 0, none⟩) 4 4] 24 0
    rw [World.size_alloc] at this
    rw [this]; rfl
  have HTA := Lib.hid (hsq.ty.below ((Below.refl _ _).alloc (Nat.le_refl _) (.cells #[.slice (some ⟨wc.heap.size, 0, none⟩) 4 4] 24)))
  have hls : L0.length + 1 ≤ 100000 := by rw [HLN0.out]; omega
  have hbs : wb.heap.size ≤ ((wc.alloc (.cells #[.int .i64 0, .int .i64 0, .int .i64 1, .int .i64 0, .int .i64 1, .int .i64 1, .int .i64 0, .int .i64 1] 27)).alloc (.cells #[.slice (some ⟨wc.heap.size, 0, none⟩) 4 4] 24)).heap.size := by simp; have := HB2.out.size; omega
  have HBA := Lib.hid (HB1.out.trans ((HB2.out.trans (hbA.mono HB2.out.size)).mono HB1.out.size))
  obtain ⟨L, hL⟩ : ∃ L, L = L0 ++ [sqL] := ⟨_, rfl⟩
  obtain ⟨M, hM⟩ : ∃ M, M = N + 1 := ⟨_, rfl⟩
  have HLE := Lib.hid hL
  have HLN : Hid (L.length = M) := Lib.hid (by rw [hL, hM, List.length_append, HLN0.out]; rfl)
  have HLH : Hid (Corns L) := Lib.hid (by rw [hL]; exact HLH0.out.snoc sq_ok)
  have hM11 : M ≤ 11 := by omega
  have hM1 : 1 ≤ M := by omega
  have hcE := corns_conE HLH.out
  have hout : (nestTo W H L M).out.length ≤ M := by
    obtain ⟨-, q1, q2, -⟩ := nestTo_laid (w := W) (h := H) (m := 32) (L := L) (fun l hl => ⟨(HLH.out l hl).shape.1, (HLH.out l hl).shape.2.1⟩) M (by rw [HLN.out]; omega)
    omega
  have hnE : nestE W H L = 0 := by
    unfold nestE
    rw [if_pos ⟨⟨by omega, by omega⟩, ⟨by omega, by omega⟩, by rw [HLN.out]; omega⟩]
    exact hcE
  have HNE2 := Lib.hid hnE
  have NX := fun A7 c7 V (hV : PolysAt V A7 L) => Lib.hid (nestX_any hS hR A7 M c7 L W H V HLN.out (by omega) hV)
  have HOUT := Lib.hid hout
  have hwb : w.heap.size ≤ wb.heap.size := HB1.out.size
  clear hsq hbq hbA hL hM hcE hnE hout HO2 HB2 HLN0 HLH0 HB1 hN10 hNn hbig
  go_wp2_with (at_builtin; refine wpList_plapp rfl (.tmp 67) (.tmp 73) rfl wb.heap.size _ L0 (wc.heap.size + 1) (some ⟨wc.heap.size, 0, none⟩) 4 4 sqL rfl rfl HOA.out hcell rfl (fun _ => HTA.out) hls hbs ?_; intro v1 w2 ho hg hat; rw [← HLE.out] at ho; obtain ⟨A7, c7, e7, hat7⟩ := ho.slice HLH.out.len; rw [HLN.out] at e7; subst e7; have HAT7 := Lib.hid hat7; have HB7 := Lib.hid (HBA.out.grown hg HBA.out.size (fun q hq => Nat.le_trans hwb (HOA.out.base q hq).1)); clear ho hg hat hat7)
  refine ((NX _ _ _ HAT7.out).out).mono ?_
  rintro e w3 ⟨hb3, hnx⟩
  have hnx' : ∃ v, e = .returned (.tuple #[v, .int .i64 0]) ∧ PlOwn w3 w2.heap.size v (nestTo W H L L.length).out := by
    rcases hnx with ⟨hz, rfl⟩ | ⟨hz, v, rfl, ho⟩
    · exact absurd HNE2.out hz
    · exact ⟨v, rfl, ho⟩
  obtain ⟨v11, rfl, ho11⟩ := hnx'
  rw [HLN.out] at ho11
  obtain ⟨A11, c11, rfl, hat11⟩ := ho11.slice
  have HPL := Lib.hid hat11
  have HAT3 := Lib.hid (HAT7.out.below hb3)
  have HBW3 := Lib.hid (HB7.out.trans (hb3.mono HB7.out.size))
  clear hnx ho11 hat11 hb3 HAT7 NX HNE2 HOA hcell HTA hls hbs HBA HB7
  obtain ⟨O, hO, hOl⟩ : ∃ O, (nestTo W H L M).out = O ∧ O.length ≤ M := ⟨_, rfl, HOUT.out⟩
  rw [hO] at HPL
  rw [hO]
  have HOE := Lib.hid hO
  clear hO
  have hol2 : decide (M < O.length) = false := decide_eq_false (by omega)
  have MK := fun V => Lib.hid (make_row V)
  have hmk := fun V => (MK V).out
  clear MK
  go_upto_region 11 with (fail)
  go_cut [11, 12] (fun a b wx => a = .int .i64 0 ∧ b = .slice (some ⟨w3.heap.size, 0, none⟩) 1024 1024 ∧ IntRow wx w3.heap.size (fun _ => 0) ∧ Below w3.heap.size w3 wx)
  case first => as_aux_lemma =>
    go_region
    all_goals
      go_wp2_with fail
      go_meet
      first
      | exact ⟨rfl, rfl, zeroRow_new w3, (Below.refl _ _).alloc (Nat.le_refl _) _⟩
      | exact ⟨rfl, rfl, zeroRow_new w3, ((Below.refl _ _).alloc (Nat.le_refl _) _).drew⟩
  case rest =>
  obtain ⟨rfl, rfl, hir, hb5⟩ := hcut
  obtain ⟨w5, rfl⟩ : ∃ w5 : World, w5 = wc := ⟨_, rfl⟩
  have hg5 : w3.heap.size < w5.heap.size := hir.lt
  have HIR := Lib.hid hir
  have HB5 := Lib.hid hb5
  clear hir hb5 hmk
  go_upto_block 2 with (fail)
  have OL := (PolysOwn.empty w5).low (base' := w3.heap.size + 1) hg5
  have hb6 : Below w5.heap.size w5 (w5.alloc (.cells #[] 24)) := (Below.refl _ _).alloc (Nat.le_refl _) _
  have HIR6 := Lib.hid (HIR.out.below hb6 hg5)
  have HB6 := Lib.hid (HB5.out.trans (hb6.mono HB5.out.size))
  have hg6 : w3.heap.size + 1 ≤ (w5.alloc (.cells #[] 24)).heap.size := by simp; omega
  generalize w5.alloc (.cells #[] 24) = w6 at *
  have HOL := Lib.hid OL
  have HRND := fun j (hj : j < O.length) => Lib.hid (pround (W := W) (H := H) (L := L) (M := M) (j := j) (by rw [HLN.out]; omega) (fun l hl => ⟨(HLH.out l hl).shape.1, (HLH.out l hl).shape.2.1⟩) (by rw [HOE.out]; exact hj))
  have HALL := Lib.hid (pall (W := W) (H := H) (L := L) (M := M) (by rw [HLN.out]; omega) (fun l hl => ⟨(HLH.out l hl).shape.1, by obtain ⟨l0, q⟩ := HLH.out l hl; exact q.len⟩))
  have HDL : Hid ((nestTo W H L M).laid.length ≤ M) := Lib.hid (nestTo_laid (w := W) (h := H) (m := 32) (L := L) (fun l hl => ⟨(HLH.out l hl).shape.1, (HLH.out l hl).shape.2.1⟩) M (by rw [HLN.out]; omega)).2.1
  obtain ⟨D, hD⟩ : ∃ D, (nestTo W H L M).laid = D := ⟨_, rfl⟩
  rw [hD, HOE.out] at HRND
  rw [hD] at HALL HDL
  have HDE := Lib.hid hD
  have HF0 : Hid (∀ c, c < 1024 → (fun _ => (0 : Int)) c = cntC W H (D.take 0) c) := Lib.hid fun c _ => by
    show (0 : Int) = cntC W H [] c
    unfold cntC
    split <;> rfl
  clear OL hb6 hD HIR HB5 hol2
  go_cut [11] (fun s wx => s = .int .i64 (sumA (D.take O.length)) ∧ Below w3.heap.size w3 wx)
  case first => as_aux_lemma =>
    go_wp2_with fail
    go_loopw [11, 13, 14] (fun s11 v13 i wr => ∃ j : Nat, j ≤ O.length ∧ i = .int .i64 j ∧ s11 = .int .i64 (sumA (D.take j)) ∧ PolysOwn wr (w3.heap.size + 1) v13 (D.take j) ∧ IntRow wr w3.heap.size (cntC W H (D.take j)) ∧ Below w3.heap.size w3 wr ∧ w3.heap.size + 1 ≤ wr.heap.size) (fun _ _ i _ => O.length - (intOf i).toNat)
    case atStart => exact ⟨0, Nat.zero_le _, rfl, rfl, HOL.out, HIR6.out.congr HF0.out, HB6.out, hg6⟩
    case round =>
      clear HOL HIR6 HB6 HF0 hg6
      obtain ⟨j, hj, rfl, rfl, ho, hir, hbw, hgr⟩ := hrel
      have HO := Lib.hid ho
      have HIR := Lib.hid hir
      clear ho hir
      by_cases hlt : j < O.length
      · as_aux_lemma =>
        obtain ⟨i, v, l, m, hR⟩ := (HRND j hlt).out
        have hxo := hR.xo
        have hll := hR.ll
        obtain ⟨b11, rfl, hb11, hpi⟩ := HPL.out (by intro e; rw [e] at hlt; simp at hlt)
        obtain ⟨x1, x2, x3⟩ := (hpi.below hbw hb11) j _ hxo
        obtain ⟨b7, o7, rfl, hb7, hps⟩ := HAT3.out (by intro e; rw [e] at hll; simp at hll)
        obtain ⟨A2, n2, c2, y1, y2, y3, y4⟩ := (hps.below hbw hb7) i _ hll
        have hiM : i < M := by have := (List.getElem?_eq_some_iff.1 hll).1; rw [HLN.out] at this; exact this
        have hcorn := HLH.out l (List.mem_of_getElem? hll)
        have HCR := Lib.hid hcorn
        have hl11 : l.length ≤ 11 := by obtain ⟨l0, q⟩ := hcorn; exact q.len
        have hl3 : 3 ≤ l.length := by obtain ⟨l0, q⟩ := hcorn; exact q.conv.three
        have HR := Lib.hid hR
        obtain ⟨b2, o2, rfl, hb2, hpp⟩ := y4 (by intro e; rw [e] at hl3; simp at hl3)
        have HPP := Lib.hid hpp
        have HY2 := Lib.hid y2
        have HX := Lib.hid (And.intro x2 x3)
        have hOb : O.length ≤ 11 := by omega
        have hg7 : decide ((M : Int) ≤ (i : Int)) = false := decide_eq_false (by omega)
        have HPT0 := Lib.hid (hpp 0 (gt l 0) (by unfold gt; rw [List.getD_eq_getElem?_getD, List.getElem?_eq_getElem (by omega)]; rfl))
        have hpt0 := HPT0.out
        have HB0E : Hid ((boxTo l 0).1 = gt l 0) := Lib.hid rfl
        clear hR hxo hll hpi hps hcorn hpp y4 y2 x2 x3 HRND hl3
        have hn2 : 0 < n2 ∧ n2 ≤ 11 := by have := HY2.out; obtain ⟨l0, q⟩ := HCR.out; have := q.conv.three; omega
        obtain ⟨hpa, hpb⟩ := hpt0
        generalize gt l 0 = p0 at *
        obtain ⟨px, py⟩ := p0
        simp only [Nat.zero_mul, Nat.add_zero] at hpa hpb
        go_upto_region 20 with (fail)
        obtain ⟨wo, rfl⟩ : ∃ wo : World, wo = wr := ⟨_, rfl⟩
        have P16 := ptBlk_box wo px py
        have hbr1 : Below wo.heap.size wo (wo.alloc (bx px py)) := (Below.refl _ _).alloc (Nat.le_refl _) _
        have hz1 : (wo.alloc (bx px py)).heap.size = wo.heap.size + 1 := by simp
        generalize wo.alloc (bx px py) = wa at *
        have HP16 := Lib.hid P16
        have HBR1 := Lib.hid hbr1
        have HBT : Hid (∀ k, (boxTo l (k + 1)).1 = (mn (boxTo l k).1.1 (gt l k).1, mn (boxTo l k).1.2 (gt l k).2)) := Lib.hid fun k => rfl
        have HLOW : Hid ((boxTo l n2).1 = lowL l) := Lib.hid (by rw [← HY2.out]; rfl)
        clear P16 hbr1 hpa hpb x1 y1
        go_wp2_with fail
        go_loopw [17] (fun kk wx => ∃ k : Nat, k ≤ n2 ∧ kk = .int .i64 k ∧ PtBlk wx wo.heap.size [(boxTo l k).1] ∧ Below wo.heap.size wo wx ∧ wx.heap.size = wo.heap.size + 1) (fun kk _ => n2 - (intOf kk).toNat)
        case atStart => exact ⟨0, Nat.zero_le _, rfl, by rw [HB0E.out]; exact HP16.out, HBR1.out, hz1⟩
        case round =>
          obtain ⟨k, hk, rfl, PG, hbx, hszx⟩ := hrel
          have HPG := Lib.hid PG
          have HBX := Lib.hid hbx
          by_cases hk2 : k < n2
          · obtain ⟨h1, h2⟩ := (HPP.out.below hbx hb2) k (gt l k) (by unfold gt; rw [List.getD_eq_getElem?_getD, List.getElem?_eq_getElem (by rw [HY2.out]; exact hk2)]; rfl)
            have HS : Hid ((boxTo l (k + 1)).1 = (mn (boxTo l k).1.1 (gt l k).1, mn (boxTo l k).1.2 (gt l k).2)) := Lib.hid (HBT.out k)
            obtain ⟨g1, g2⟩ := PG.one
            have f1 := PG.frozen 0
            have f2 := PG.frozen 1
            have hgz := PG.lt
            have hbz : b2 < wr.heap.size := by have := hb2; omega
            have hne : ¬ b2 = wo.heap.size := by omega
            clear PG HBT
            generalize gt l k = p at *
            generalize hbo : boxTo l k = bo at *
            clear hbo
            obtain ⟨x, y⟩ := p
            obtain ⟨⟨lx, ly⟩, bhx, bhy⟩ := bo
            simp only at g1 g2 h1 h2
            go_wp2_with fail
            go_still_tail 17, (by kernel_rfl)
            change wpList _ _ _ _ _ wr.drew
            go_wp2_with fail
            have hbe : Below wo.heap.size wo ((wr.setCell ⟨wo.heap.size, 0, none⟩ (.int .i64 (mn lx x))).setCell ⟨wo.heap.size, 1, none⟩ (.int .i64 (mn ly y))).drew := ((hbx.setCell (by simp) _).setCell (by simp) _).drew
            have Q1 : PtBlk ((wr.setCell ⟨wo.heap.size, 0, none⟩ (.int .i64 (mn lx x))).setCell ⟨wo.heap.size, 1, none⟩ (.int .i64 (mn ly y))).drew wo.heap.size [(mn lx x, mn ly y)] := HPG.out.put _ _
            go_roundw
            case rel => exact ⟨k + 1, by omega, by go_num, by rw [HS.out]; exact Q1, hbe, by simp [World.drew]; omega⟩
            case measure => simp [intOf]; omega
          · obtain rfl : n2 = k := by omega
            rw [HLOW.out] at HPG
            obtain ⟨wm, rfl⟩ : ∃ wm : World, wm = wr := ⟨_, rfl⟩
            have HMQ : Hid (m = l.map fun p => addP (addP p (negP (lowL l))) v) := Lib.hid (by
              rw [HR.out.meq]
              unfold atZero movedL
              rw [List.map_map]; rfl)
            have hlo := HCR.out
            have hlow : (-6 ≤ (lowL l).1 ∧ (lowL l).1 ≤ 6) ∧ (-6 ≤ (lowL l).2 ∧ (lowL l).2 ≤ 6) := by
              obtain ⟨l0, q⟩ := hlo
              exact (boxTo_bd (L := 6) (fun i => by
                unfold gt
                rw [List.getD_eq_getElem?_getD]
                cases e : l[i]? with
                | none => simp
                | some x => simpa using q.bd x (List.mem_of_getElem? e)) l.length).1
            have HBD6 : Hid (∀ k, k < l.length → (-6 ≤ (gt l k).1 ∧ (gt l k).1 ≤ 6) ∧ (-6 ≤ (gt l k).2 ∧ (gt l k).2 ≤ 6)) := Lib.hid fun k hk => by
              obtain ⟨l0, q⟩ := hlo
              exact q.bd _ (gtS_mem hk)
            generalize lowL l = low at *
            obtain ⟨lx, ly⟩ := low
            simp only at hlow
            clear hlo HLOW HBT
            have hvb : (-20 ≤ v.1 ∧ v.1 ≤ 50) ∧ (-20 ≤ v.2 ∧ v.2 ≤ 50) := by
              have h0 : 0 < l.length := by have := HY2.out; omega
              have q := HBD6.out 0 h0
              have e := HR.out.bd (addP (addP (gt l 0) (negP (lx, ly))) v) (by rw [HMQ.out]; exact List.mem_map.2 ⟨_, gtS_mem h0, rfl⟩)
              unfold addP negP at e
              simp only at e
              omega
            have hzw : wm.heap.size = wo.heap.size + 1 := hszx
            have hb11' : b11 < wo.heap.size := by omega
            have OM := PtsOwn.empty wm
            have hbm : Below wm.heap.size wm (wm.alloc (.cells #[] 27)) := (Below.refl _ _).alloc (Nat.le_refl _) _
            have HG16 := Lib.hid (HPG.out.below hbm HPG.out.lt)
            have HB24 := Lib.hid (HBX.out.trans (hbm.mono (by omega)))
            have hz24 : wo.heap.size + 2 ≤ (wm.alloc (.cells #[] 27)).heap.size := by simp; omega
            go_upto_block 6 with (fail)
            generalize wm.alloc (.cells #[] 27) = w24 at *
            rw [hzw] at OM
            have HOM := Lib.hid OM
            have HML0 : Hid (((l.take 0).map fun p => addP (addP p (negP (lx, ly))) v) = []) := Lib.hid rfl
            clear OM hbm PG hbx HPG HBX
            go_wp2_with fail
            go_loopw [18, 19] (fun v18 kk wx => ∃ k : Nat, k ≤ n2 ∧ kk = .int .i64 k ∧ PtsOwn wx (wo.heap.size + 1) v18 ((l.take k).map fun p => addP (addP p (negP (lx, ly))) v) ∧ PtBlk wx wo.heap.size [(lx, ly)] ∧ Below wo.heap.size wo wx ∧ wo.heap.size + 2 ≤ wx.heap.size) (fun _ kk _ => n2 - (intOf kk).toNat)
            case atStart => exact ⟨0, Nat.zero_le _, rfl, by rw [HML0.out]; exact HOM.out, HG16.out, HB24.out, hz24⟩
            case round => as_aux_lemma =>
              clear HOM HG16 HB24 hz24
              obtain ⟨k, hk, rfl, hown, PG, hbx, hszx⟩ := hrel
              have HO4 := Lib.hid hown
              have HPG := Lib.hid PG
              have HBX := Lib.hid hbx
              by_cases hk2 : k < n2
              · have hkl : k < l.length := by rw [HY2.out]; exact hk2
                obtain ⟨h1, h2⟩ := (HPP.out.below hbx hb2) k (gt l k) (by unfold gt; rw [List.getD_eq_getElem?_getD, List.getElem?_eq_getElem hkl]; rfl)
                have x2 := (hbx.cell (p := ⟨b11, _, none⟩) hb11').trans HX.out.1
                have x3 := (hbx.cell (p := ⟨b11, _, none⟩) hb11').trans HX.out.2
                obtain ⟨g1, g2⟩ := PG.one
                have HNX : Hid (((l.take (k + 1)).map fun p => addP (addP p (negP (lx, ly))) v) = ((l.take k).map fun p => addP (addP p (negP (lx, ly))) v) ++ [((gt l k).1 - lx + v.1, (gt l k).2 - ly + v.2)]) := Lib.hid (by
                  rw [List.take_succ_eq_append_getElem hkl, List.map_append, gt_of (List.getElem?_eq_getElem hkl)]
                  rfl)
                have HLN : Hid (((l.take k).map fun p => addP (addP p (negP (lx, ly))) v).length ≤ 100) := Lib.hid (by rw [List.length_map, List.length_take]; omega)
                have hp6 := HBD6.out k hkl
                clear hown PG
                generalize gt l k = p at *
                generalize ((l.take k).map fun p => addP (addP p (negP (lx, ly))) v) = cur at *
                obtain ⟨x, y⟩ := p
                obtain ⟨vx, vy⟩ := v
                simp only at h1 h2 x2 x3 hp6 hvb HNX
                have nb2 : u18.ownBlock ≠ some b2 := fun e => by have := (HO4.out.base b2 e).1; omega
                have nb11 : u18.ownBlock ≠ some b11 := fun e => by have := (HO4.out.base b11 e).1; omega
                have ngl : u18.ownBlock ≠ some wo.heap.size := fun e => by have := (HO4.out.base _ e).1; omega
                have lb2 : b2 < wr.heap.size := by omega
                have lb11 : b11 < wr.heap.size := by omega
                have lgl : wo.heap.size < wr.heap.size := by omega
                obtain ⟨PO, hPO⟩ : ∃ PO : Obj, PO = .cells #[.int .i64 (x - lx + vx), .int .i64 (y - ly + vy)] 27 := ⟨_, rfl⟩
                have ka := (World.cell?_alloc_lt wr PO ⟨b2, _, none⟩ lb2).trans h1
                have kb := (World.cell?_alloc_lt wr PO ⟨b2, _, none⟩ lb2).trans h2
                have kc := (World.cell?_alloc_lt wr PO ⟨wo.heap.size, _, none⟩ lgl).trans g1
                have kd := (World.cell?_alloc_lt wr PO ⟨wo.heap.size, _, none⟩ lgl).trans g2
                have ke := (World.cell?_alloc_lt wr PO ⟨b11, _, none⟩ lb11).trans x2
                have kf := (World.cell?_alloc_lt wr PO ⟨b11, _, none⟩ lb11).trans x3
                have la : b2 < (wr.alloc PO).drew.heap.size := by simp [World.drew]; omega
                have lc : wo.heap.size < (wr.alloc PO).drew.heap.size := by simp [World.drew]; omega
                have le : b11 < (wr.alloc PO).drew.heap.size := by simp [World.drew]; omega
                subst hPO
                have r1 : IntKind.i64.wrap (x - lx) = x - lx := by rw [IntKind.wrap_i64]; omega
                have r2 : IntKind.i64.wrap (x - lx + vx) = x - lx + vx := by rw [IntKind.wrap_i64]; omega
                have r3 : IntKind.i64.wrap (y - ly) = y - ly := by rw [IntKind.wrap_i64]; omega
                have r4 : IntKind.i64.wrap (y - ly + vy) = y - ly + vy := by rw [IntKind.wrap_i64]; omega
                go_wp2_with fail
                go_region_held3 (fun w' => w'.cell? ⟨b2, o2 + k * 2, none⟩ = some (.int .i64 x) ∧ w'.cell? ⟨b2, o2 + k * 2 + 1, none⟩ = some (.int .i64 y) ∧ w'.cell? ⟨wo.heap.size, 0, none⟩ = some (.int .i64 lx) ∧ w'.cell? ⟨wo.heap.size, 1, none⟩ = some (.int .i64 ly) ∧ w'.cell? ⟨b11, j * 3 + 1, none⟩ = some (.int .i64 vx) ∧ w'.cell? ⟨b11, j * 3 + 2, none⟩ = some (.int .i64 vy))
                  (first
                    | go_keep
                    | exact ⟨(hgrow.cell_far _ la (Ne.symm nb2)).trans ka, (hgrow.cell_far _ la (Ne.symm nb2)).trans kb, (hgrow.cell_far _ lc (Ne.symm ngl)).trans kc, (hgrow.cell_far _ lc (Ne.symm ngl)).trans kd, (hgrow.cell_far _ le (Ne.symm nb11)).trans ke, (hgrow.cell_far _ le (Ne.symm nb11)).trans kf⟩)
                  ((refine step_papp (by rfl) _ _ (by rfl) (wo.heap.size + 1) _ cur [(x - lx + vx, y - ly + vy)] (some ⟨wr.heap.size, 0, none⟩) 1 1 (by rfl) (by rfl) ((HO4.out.alloc _).drew) rfl (PtsAt.one wr _ _) (by have := HLN.out; simp; omega) (by simp; omega) ?_; intro v1 w2 hown1 hgrow hat))
                have HO5 := Lib.hid hown1
                have HB5 := Lib.hid ((hbx.alloc (by omega) _).drew.grown hgrow (by simp; omega) (fun k hk => by have := (HO4.out.base k hk).1; omega))
                have HG5 := Lib.hid (((HPG.out.alloc (.cells #[.int .i64 (x - lx + vx), .int .i64 (y - ly + vy)] 27)).same (w' := (wr.alloc (.cells #[.int .i64 (x - lx + vx), .int .i64 (y - ly + vy)] 27)).drew) rfl).same (hgrow.block _ lc (Ne.symm ngl)))
                have hz5 : wo.heap.size + 2 ≤ w2.heap.size := by have := hgrow.size; simp [World.drew] at this; omega
                clear hown1 hgrow hat ka kb kc kd ke kf la lc le r1 r2 r3 r4
                go_wp2_with fail
                go_roundw
                case rel => exact ⟨k + 1, by omega, by go_num, by rw [HNX.out]; exact HO5.out, HG5.out, HB5.out, hz5⟩
                case measure => simp [intOf]; omega
              · obtain rfl : n2 = k := by omega
                have hmo : PtsOwn wr (wo.heap.size + 1) u18 m := by
                  have e := hown
                  rw [← HY2.out, List.take_length] at e
                  rw [HMQ.out]; exact e
                obtain ⟨m0, cm⟩ := HR.out.conv
                have hm3 := cm.three
                have hml := HR.out.len
                obtain ⟨Am, cmm, rfl, TM, -⟩ := hmo.ty (by intro e; rw [e] at hm3; simp at hm3)
                have hok : m.all okP = true := okP_of_bd hW.2 hH.2 HR.out.bd
                have hpoly : polyB m = true := conv_polyB cm hok (by omega)
                have LP0 : Lp w3 wr (cntC W H (D.take j)) u13 (D.take j) Am m := ⟨HIR.out.below hbx (by omega), HO.out.belows hbx, TM, hbw.trans (hbx.mono hbw.size), by omega⟩
                have hsb := (HALL.out.take j).sum ⟨by omega, hW.2⟩ ⟨by omega, hH.2⟩
                have hsb1 := (HALL.out.take (j + 1)).sum ⟨by omega, hW.2⟩ ⟨by omega, hH.2⟩
                have hshe := sheet_bd (W := W) (H := H) ⟨by omega, hW.2⟩ ⟨by omega, hH.2⟩
                have hnx : D.take (j + 1) = D.take j ++ [m] := HR.out.next
                have hsn : sumA (D.take (j + 1)) = sumA (D.take j) + area2 m := by
                  rw [hnx, sumA_append]
                  show sumA (D.take j) + (area2 m + 0) = _
                  omega
                have HAP := Lib.hid HR.out.apart
                have HPJ := Lib.hid (HALL.out.take j)
                have HPN := Lib.hid (HALL.out.take (j + 1)).all
                have HDJ : Hid ((D.take j).length ≤ 11) := Lib.hid (by rw [List.length_take]; have := HDL.out; omega)
                have HMB := Lib.hid HR.out.bd
                have KA := fun V h => Lib.hid (area2X_any Am m.length cmm m V rfl (by omega) h)
                rw [(area2X_ok hpoly).1, (area2X_ok hpoly).2] at KA
                have HLP := Lib.hid LP0
                rw [hnx] at HPN
                have HSN : Hid (sumA (D.take (j + 1)) = sumA (D.take j) + area2 m) := Lib.hid hsn
                have HNXT := Lib.hid hnx
                have HCM := Lib.hid cm
                have HOKM := Lib.hid hok
                rw [hsn] at hsb1
                have hm11 : m.length ≤ 11 := by omega
                have hjO : j < O.length := hlt
                clear hmo hm3 hml TM cm hok hpoly LP0 hnx hsn hown PG hbx hbw hgr hszx HO HIR HR HCR HY2 HX HPP HPT0 HB0E HP16 HBR1 HMQ HBD6 HO4 HPG HBX hvb hlow hb11' hzw hg7 hn2 hb7 hb2 hb11 hl11
                generalize D.take j = Dj at *
                generalize hDn : D.take (j + 1) = Dn at *
                have HDN := Lib.hid hDn
                clear hDn
                generalize sumA Dj = S at *
                generalize area2 m = ar at *
                have rS : IntKind.i64.wrap (S + ar) = S + ar := by rw [IntKind.wrap_i64]; omega
                obtain ⟨A13, c13, rfl, -⟩ := HLP.out.own.slice (fun l hl => by have := HPJ.out.len l hl; omega)
                go_wp2_with fail
                refine ((KA _ HLP.out.ty.at).out).mono ?_
                rintro e w6 ⟨rfl, hb⟩
                replace HLP := Lib.hid (HLP.out.below hb)
                have HAT : Hid (PolysAt w6 A13 Dj) := Lib.hid (by
                  obtain ⟨A', c', e', h'⟩ := HLP.out.own.slice (fun l hl => by have := HPJ.out.len l hl; omega)
                  simp only [Value.slice.injEq, true_and] at e'
                  rw [e'.1]; exact h')
                have hdj : Dj.length ≤ 11 := HDJ.out
                clear hb KA
                go_wp2_with fail
                go_loopw [22] (fun kk wx => ∃ k : Nat, k ≤ Dj.length ∧ kk = .int .i64 k ∧ Below w6.heap.size w6 wx) (fun kk _ => Dj.length - (intOf kk).toNat)
                case atStart => exact ⟨0, Nat.zero_le _, rfl, Below.refl _ _⟩
                case round => as_aux_lemma =>
                  clear rS
                  obtain ⟨k, hk, rfl, hbk⟩ := hrel
                  by_cases hkl : k < Dj.length
                  · obtain ⟨b8, off8, rfl, hl8, hps8⟩ := HAT.out (by intro e; rw [e] at hkl; simp at hkl)
                    obtain ⟨A7, n7, c7, g1, g2, g3, g4⟩ := hps8 k _ (List.getElem?_eq_getElem hkl)
                    have hpm := List.getElem_mem hkl
                    obtain ⟨p0, cp⟩ := HPJ.out.conv _ hpm
                    have hplen := HPJ.out.len _ hpm
                    have hpbd := HPJ.out.bd _ hpm
                    have happ := HAP.out _ hpm
                    have HKL := Lib.hid hkl
                    generalize Dj[k] = p at *
                    subst g2
                    have okp := okP_of_bd hW.2 hH.2 hpbd
                    obtain ⟨eap1, eap2⟩ := apE_ok (v := (0, 0)) cp HCM.out okp HOKM.out (by omega) (by omega) (by simp)
                    rw [movedL_zero, happ] at eap2
                    have KN := fun V h => Lib.hid (negX_any hS hR Am m.length cmm m m0 V rfl (by omega) h HOKM.out HCM.out)
                    have KP := fun V h h' => Lib.hid (apartX_any A7 p.length c7 Am m.length cmm p m (0, 0) V rfl (by omega) h rfl (by omega) h')
                    rw [eap1, eap2] at KP
                    have G1 := fun V (hV : Below w6.heap.size w6 V) => (hV.cell (p := ⟨b8, off8 + k, none⟩) hl8).trans g1
                    have G4 := fun V (hV : Below w6.heap.size w6 V) => Lib.hid (g4.below hV)
                    have HHG1 := Lib.hid G1
                    have HBK := Lib.hid hbk
                    have HMT : Hid (PtsTy w6 Am m) := Lib.hid HLP.out.ty
                    clear g1 g3 g4 hps8 hpm eap1 eap2 G1 HAT
                    go_wp2_with fail
                    refine ((KN _ (HMT.out.below HBK.out).at).out).mono ?_
                    rintro e w7 ⟨s, vn, hp, hs, rfl, ho, hb⟩
                    have HB7 := Lib.hid (hbk.trans (hb.mono hbk.size))
                    obtain ⟨z0, hN, cN, lN⟩ := neg_conv HCM.out hp hs
                    have bN : ∀ q ∈ hullL s, (-30 ≤ q.1 ∧ q.1 ≤ 30) ∧ (-30 ≤ q.2 ∧ q.2 ≤ 30) := fun q hq => by
                      obtain ⟨r, hr, rfl⟩ := List.mem_map.1 (hull_sub hN hq)
                      have := HMB.out r hr
                      unfold negP
                      simp only
                      omega
                    have bP : ∀ q ∈ p, (-30 ≤ q.1 ∧ q.1 ≤ 30) ∧ (-30 ≤ q.2 ∧ q.2 ≤ 30) := fun q hq => by
                      have := hpbd q hq
                      omega
                    clear hb hp hs KN
                    generalize hullL s = Nn at *
                    obtain ⟨K, hK, cK⟩ := conv_sums cp cN
                    have oN := ok_of_bd (by omega) bN
                    have oK := ok_of_bd (by omega) (bd_sums bP bN hK)
                    have lK : K.length ≤ 22 := by have := sum_len cp cN hK cK; omega
                    obtain ⟨A9, k9, rfl, -, at9⟩ := ho.slice_n (n := Nn.length) rfl
                    have KS := fun V h h' => Lib.hid (sumX_any A7 p.length c7 A9 Nn.length k9 p Nn K p0 z0 V rfl rfl (by omega) (by omega) h h' okp oN cp cN hK cK)
                    have KW := fun g kk V h => Lib.hid (whereX_any g K.length kk K (0, 0) V rfl (by omega) h)
                    have CASES := Lib.hid (apart_facts cp HCM.out hN cN hK cK happ)
                    have HOK := Lib.hid oK
                    have HCK := Lib.hid cK
                    have HAT9 := Lib.hid at9
                    have g1 := HHG1.out _ HB7.out
                    clear ho at9 hN cN hK cK bN bP lN oN oK hpbd okp happ cp
                    go_wp2_with fail
                    refine ((KS _ (G4 _ HB7.out).out HAT9.out).out).mono ?_
                    rintro e w8 ⟨v8, rfl, ho, hb⟩
                    have HB8 := Lib.hid (HB7.out.trans (hb.mono HB7.out.size))
                    obtain ⟨A10, k10, rfl, -, at10⟩ := ho.slice_n (n := K.length) rfl
                    have HAT10 := Lib.hid at10
                    clear ho at10 hb KS g1 HAT9 HB7
                    obtain ⟨ew1, ew2⟩ := whereX_ok (v := (0, 0)) HCK.out HOK.out (by omega) (by simp)
                    rw [ew1, ew2] at KW
                    clear ew1 ew2
                    generalize whereD K (0, 0) = z at *
                    go_wp2_with fail
                    refine ((KW _ _ _ HAT10.out).out).mono ?_
                    rintro e w9 ⟨rfl, hb⟩
                    have HB9 := Lib.hid (HB8.out.trans (hb.mono HB8.out.size))
                    have g1 := HHG1.out _ HB9.out
                    clear hb KW HAT10 HB8
                    go_wp2_with fail
                    refine ((KP _ (G4 _ HB9.out).out (HMT.out.below HB9.out).at).out).mono ?_
                    rintro e w10 ⟨rfl, hb⟩
                    have HB10 := Lib.hid (HB9.out.trans (hb.mono HB9.out.size))
                    clear hb KP g1 HB9 G4 HMT
                    rcases CASES.out with rfl | rfl
                    all_goals
                      go_wp2_with fail
                      go_roundw
                      case rel => exact ⟨k + 1, HKL.out, by go_num, HB10.out⟩
                      case measure => have := HKL.out; simp [intOf]; omega
                  · obtain rfl : k = Dj.length := by omega
                    have HL5 := Lib.hid (HLP.out.below hbk)
                    have HL6 : Hid (Lp w3 wr (cntM W H Dj m (32 * 0)) (.slice A13 Dj.length c13) Dj Am m) := Lib.hid (by
                      have e : cntM W H Dj m (32 * 0) = cntC W H Dj := cntM_zero W H Dj m
                      rw [e]; exact HL5.out)
                    clear HLP HL5 HAT HAP hbk hsb hsb1
                    go_wp2_with fail
                    go_loopw [31] (fun yy wx => ∃ y : Nat, (y : Int) ≤ H + 1 ∧ yy = .int .i64 y ∧ Lp w3 wx (cntM W H Dj m (32 * y)) (.slice A13 Dj.length c13) Dj Am m) (fun yy _ => 40 - (intOf yy).toNat)
                    case atStart => exact ⟨0, by omega, rfl, HL6.out⟩
                    case round => as_aux_lemma =>
                      clear HL6
                      obtain ⟨y, hy, rfl, hlp⟩ := hrel
                      have HLY := Lib.hid hlp
                      clear hlp
                      by_cases hyl : (y : Int) ≤ H
                      · have hy32 : (y : Int) < 32 := by omega
                        go_wp2_with fail
                        go_loopw [32] (fun vv wx => ∃ c : Nat, (c : Int) ≤ W + 1 ∧ vv = .int .i64 c ∧ Lp w3 wx (cntM W H Dj m (32 * y + c)) (.slice A13 Dj.length c13) Dj Am m) (fun vv _ => 40 - (intOf vv).toNat)
                        case atStart => exact ⟨0, by omega, rfl, HLY.out⟩
                        case round => as_aux_lemma =>
                          clear HLY
                          obtain ⟨c, hc, rfl, hlp⟩ := hrel
                          by_cases hcl : (c : Int) ≤ W
                          · have hc32 : (c : Int) < 32 := by omega
                            obtain ⟨f1, f2⟩ := cntM_succ (L := Dj) (m := m) (y := y) (v := c) (by omega) hcl hyl
                            have hT10 : 32 * y + c < 1024 := by omega
                            have hone := HPN.out (32 * y + c)
                            rw [inAll_append, inAll_one] at hone
                            have hone0 := HPJ.out.all (32 * y + c)
                            have hip := inP_pos (m := m) (y := y) (v := c) (by omega)
                            obtain ⟨ew1, ew2⟩ := whereX_ok (v := ((c : Int), (y : Int))) HCM.out HOKM.out (by omega) (by simp only; omega)
                            have KW := fun V h => Lib.hid (whereX_any Am m.length cmm m ((c : Int), (y : Int)) V rfl (by omega) h)
                            rw [ew1, ew2] at KW
                            have HLC := Lib.hid hlp
                            have HF2 := Lib.hid f2
                            clear ew1 ew2 f2 hlp
                            generalize whereD m ((c : Int), (y : Int)) = z at *
                            generalize inAll Dj (32 * y + c) = N0 at *
                            generalize inP m (32 * y + c) = ip at *
                            go_wp2_with fail
                            refine ((KW _ HLC.out.ty.at).out).mono ?_
                            rintro e w8 ⟨rfl, hb⟩
                            have HL8 := Lib.hid (HLC.out.below hb)
                            have hcell := HL8.out.row.cell hT10
                            have hfr := HL8.out.row.frozen (32 * y + c)
                            rw [f1] at hcell
                            have e1 : IntKind.i64.wrap (32 * (y : Int)) = 32 * (y : Int) := by rw [IntKind.wrap_i64]; omega
                            have e2 : IntKind.i64.wrap (32 * (y : Int) + (c : Int)) = ((32 * y + c : Nat) : Int) := by rw [IntKind.wrap_i64]; omega
                            have HNE : Hid (N0 + ip ≤ 1) := Lib.hid hone.2
                            have HF1 := Lib.hid f1
                            obtain ⟨n1, n3⟩ := hone0
                            clear hb KW HLC f1 hone
                            by_cases hz : 0 < z
                            · rw [if_pos hz] at hip
                              have hne := HNE.out
                              obtain rfl : N0 = 0 := by omega
                              subst hip
                              have HS : Hid (Lp w3 (w8.setCell ⟨w3.heap.size, 32 * y + c, none⟩ (.int .i64 1)) (cntM W H Dj m (32 * y + c + 1)) (.slice A13 Dj.length c13) Dj Am m) := Lib.hid ((HL8.out.set (32 * y + c) 1).congr fun x _ => by rw [HF2.out x]; rfl)
                              have hc2 := (HL8.out.row.set (32 * y + c) 1).cell hT10
                              rw [if_pos rfl] at hc2
                              clear hne
                              go_wp2_with fail
                              go_roundw
                              case rel => exact ⟨c + 1, by omega, by go_num, HS.out⟩
                              case measure => simp [intOf]; omega
                            · rw [if_neg hz] at hip
                              subst hip
                              have HS : Hid (Lp w3 w8 (cntM W H Dj m (32 * y + c + 1)) (.slice A13 Dj.length c13) Dj Am m) := Lib.hid (HL8.out.congr fun x _ => by
                                rw [HF2.out x]
                                by_cases q : x = 32 * y + c
                                · rw [if_pos q, q, HF1.out]; omega
                                · rw [if_neg q])
                              go_wp2_with fail
                              go_roundw
                              case rel => exact ⟨c + 1, by omega, by go_num, HS.out⟩
                              case measure => simp [intOf]; omega
                          · have HLE := Lib.hid (hlp.congr fun x _ => cntM_line (W := W) (H := H) (L := Dj) (m := m) (y := y) (v := c) (by omega) (by omega) x)
                            clear hlp
                            go_wp2_with fail
                            go_roundw
                            case rel => exact ⟨y + 1, by omega, by go_num, HLE.out⟩
                            case measure => simp [intOf]; omega
                      · have HLE := Lib.hid (HLY.out.congr fun x _ => cntM_end (W := W) (H := H) (L := Dj) (m := m) (y := y) (by omega) x)
                        rw [← HNXT.out] at HLE
                        clear HLY
                        go_upto_region 55 with (fail)
                        have hbA : Below wr.heap.size wr (wr.alloc (.cells #[.slice Am m.length cmm] 24)) := (Below.refl _ _).alloc (Nat.le_refl _) _
                        have HA := Lib.hid (HLE.out.below hbA)
                        have hcell : (wr.alloc (.cells #[.slice Am m.length cmm] 24)).cell? ⟨wr.heap.size, 0, none⟩ = some (.slice Am m.length cmm) := by simp [World.cell?_alloc_new]
                        have hls : Dj.length + 1 ≤ 100000 := by omega
                        have hbs : w3.heap.size + 1 ≤ (wr.alloc (.cells #[.slice Am m.length cmm] 24)).heap.size := HA.out.lt
                        clear hbA HLE
                        go_wp2_with (at_builtin; refine wpList_plapp rfl (.tmp 305) (.tmp 307) rfl (w3.heap.size + 1) _ Dj wr.heap.size Am m.length cmm m rfl rfl HA.out.own hcell rfl (fun _ => HA.out.ty) hls hbs ?_; intro v1 w11 ho hg hat; have HO11 := Lib.hid ho; have HG11 := Lib.hid hg; clear ho hg hat)
                        have HR11 := Lib.hid (HA.out.row.beside HG11.out (fun k hk => by obtain ⟨cur, hc⟩ := HA.out.own.typed k hk; exact ⟨cur, _, hc, by simp⟩))
                        have HB11 := Lib.hid (HA.out.bel.grown HG11.out HA.out.bel.size (fun q hq => by have := (HA.out.own.base q hq).1; omega))
                        have hz11 : w3.heap.size + 1 ≤ w11.heap.size := Nat.le_trans HA.out.lt HG11.out.size
                        rw [← HNXT.out] at HO11
                        go_roundw
                        case rel => exact ⟨j + 1, by omega, by go_num, by rw [HDN.out, HSN.out], by rw [HDN.out]; exact HO11.out, by rw [HDN.out]; exact HR11.out, HB11.out, hz11⟩
                        case measure => simp [intOf]; omega
      · obtain rfl : j = O.length := by omega
        have HEND : Hid (Below w3.heap.size w3 wr) := Lib.hid hbw
        clear HO HIR HRND HALL HDL
        go_wp2_with fail
        go_meet
        exact ⟨rfl, HEND.out⟩
  case rest =>
  obtain ⟨rfl, hb9⟩ := hcut
  have hsb := (HALL.out.take O.length).sum ⟨by omega, hW.2⟩ ⟨by omega, hH.2⟩
  have hshe := sheet_bd (W := W) (H := H) ⟨by omega, hW.2⟩ ⟨by omega, hH.2⟩
  have hBWE := HBW3.out.trans (hb9.mono HBW3.out.size)
  have HBE := Lib.hid hBWE
  obtain ⟨rp, rs, rb, -⟩ := rect_facts hW hH
  have ri := rect_in hW hH
  have PR : PtBlk (wc.alloc (.cells #[.int .i64 0, .int .i64 0, .int .i64 W, .int .i64 0, .int .i64 W, .int .i64 H, .int .i64 0, .int .i64 H] 27)) wc.heap.size (rectL W H) := heap_alloc_new _ _
  have KL := Lib.hid (lattice_any (some ⟨wc.heap.size, 0, none⟩) 4 4 (rectL W H) ((W - 1) * (H - 1)) (wc.alloc (.cells #[.int .i64 0, .int .i64 0, .int .i64 W, .int .i64 0, .int .i64 W, .int .i64 H, .int .i64 0, .int .i64 H] 27)) rfl PR.ty.at rp rs ri)
  rw [rb] at KL
  have h11 := Int.mul_nonneg (a := W - 1) (b := H - 1) (by omega) (by omega)
  have h12 : (W - 1) * (H - 1) ≤ 30 * 30 := Int.mul_le_mul (by omega) (by omega) (by omega) (by omega)
  have r1 : IntKind.i64.wrap (2 * W) = 2 * W := by rw [IntKind.wrap_i64]; omega
  have r2 : IntKind.i64.wrap (2 * W * H) = 2 * W * H := by rw [IntKind.wrap_i64]; omega
  have r3 : IntKind.i64.wrap (W - 1) = W - 1 := by rw [IntKind.wrap_i64]; omega
  have r4 : IntKind.i64.wrap (H - 1) = H - 1 := by rw [IntKind.wrap_i64]; omega
  have r5 : IntKind.i64.wrap ((W - 1) * (H - 1)) = (W - 1) * (H - 1) := by rw [IntKind.wrap_i64]; omega
  have r6 : IntKind.i64.wrap (W + H) = W + H := by rw [IntKind.wrap_i64]; omega
  have r7 : IntKind.i64.wrap (2 * (W + H)) = 2 * (W + H) := by rw [IntKind.wrap_i64]; omega
  have r8 : ((W - 1) * (H - 1) == (W - 1) * (H - 1)) = true := by simp
  have r9 : (2 * (W + H) == 2 * (W + H)) = true := by simp
  have r10 : decide (sumA (D.take O.length) ≤ 2 * W * H) = true := decide_eq_true hsb.2
  clear HRND HALL HDL ri rp rs rb PR hBWE hsb hshe h11 h12 HPL HAT3
  generalize sumA (D.take O.length) = S at *
  go_wp2_with fail
  refine (KL.out).mono ?_
  rintro e w8 ⟨rfl, hb⟩
  have HB8 := Lib.hid (HBE.out.trans (((Below.refl _ _).alloc (Nat.le_refl _) _ |>.trans (hb.mono (by simp))).mono HBE.out.size))
  clear hb KL
  go_wp2_with fail
  go_ret
  exact ⟨rfl, HB8.out⟩
end Go.Proofs.Ytffjonpajjioaaa
