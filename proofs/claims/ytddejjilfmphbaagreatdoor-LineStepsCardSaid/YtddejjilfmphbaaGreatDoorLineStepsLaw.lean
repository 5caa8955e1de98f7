/- LineSteps: the law's walk. -/
import Derived.Test.YtddejjilfmphbaaGreatDoorMade
import Derived.Test.YtddejjilfmphbaaGreatDoorLineRunsLaw
namespace Go.Proofs.YtddejjilfmphbaaGreatDoor
open Go.RowKit Go.Sort
attribute [local go_sem ↓] run_min_mn run_max_mx

theorem graphB_of {m : Nat} {l : List Arc} (hm : 1 ≤ m ∧ m ≤ 12) (hl : l.length ≤ 256) (h : NodesOk m l) : graphB m l = true := by
  unfold graphB
  rw [Bool.and_eq_true, decide_eq_true_eq, Bool.not_eq_true']
  refine ⟨by omega, ?_⟩
  unfold anyWrong
  rw [List.any_eq_false]
  intro a ha
  obtain ⟨h1, h2, h3⟩ := h a ha
  unfold wrongA nodeB
  rw [decide_eq_true h1, decide_eq_true h2, decide_eq_false (show ¬ a.d < -1000000 by omega), decide_eq_false (show ¬ 1000000 < a.d by omega)]
  decide
/-- What Run gives of a valid, live graph and a valid state. -/
def RunTo (m : Nat) (x : Nat → Option Int) (w : World) (e : Ending) (w' : World) : Prop :=
  ∃ A c, e = .returned (.tuple #[.slice A m c, .int .i64 0]) ∧ Ints w' A (listOf m x) ∧ Below w.heap.size w w'
theorem good_run {m : Nat} (A : Option Addr) (n c : Nat) {l : List Arc} (X : Option Addr) (cx : Nat) {xs : List Int} (p : Nat) (w : World) (hm : 1 ≤ m ∧ m ≤ 12) (hn : l.length = n) (h256 : n ≤ 256) (hA : ArcsAt w A l)
    (hok : NodesOk m l) (hl : liveB m l = true) (hxn : xs.length = m) (hx : Ints w X xs) (hs : stateB m xs = true) (hp : p ≤ 1000000000) :
    Calls Tryz.prog 7 #[.int .i64 (m : Int), .slice A n c, .slice X m cx, .int .i64 (p : Int)] w (RunTo m (MP.it (stOf xs) (dArcs l) p) w) := by
  have hg : graphB m l = true := graphB_of hm (by omega) hok
  have hE : lrunE m l xs p = 0 := by unfold lrunE; rw [if_pos ⟨hg, hs, by omega, by omega⟩, Int.toNat_natCast, if_pos hl]
  refine (lineRun_any m p A n c l X m cx xs w hn (by omega) hA hxn (by omega) hx).mono ?_
  rintro e w' ⟨hb, hr⟩
  rw [hE] at hr
  obtain ⟨h, -⟩ | ⟨-, v, rfl, hv⟩ := hr
  case inl => exact absurd rfl h
  rw [Int.toNat_natCast, Int.toNat_natCast, enc_list (it_full (full_stOf hxn) hl hok (by omega) p)] at hv
  obtain ⟨Z, cz, rfl, -, hz, -⟩ := hv.slice
  rw [listOf_length]
  exact ⟨Z, cz, rfl, hz, hb⟩

set_option maxHeartbeats 8000000 in
set_option maxRecDepth 100000 in
theorem steps_law (gn : Int) (A : Option Addr) (n c : Nat) (l0 : List Arc) (X : Option Addr) (nx cx : Nat) (ys : List Int) (n0 n1 n2 : Int) (w : World) (hT : LivesOk w) (hgn : I64 gn) (hn : l0.length = n) (hc : n ≤ c) (hbig : n ≤ 9223372036854775807)
    (hW : ∀ a ∈ l0, I64 a.f ∧ I64 a.t ∧ I64 a.d) (hA : ArcsAt w A l0) (hxn : ys.length = nx) (hxc : nx ≤ cx) (hxb : nx ≤ 9223372036854775807) (hxw : ∀ x ∈ ys, -9223372036854775808 ≤ x ∧ x ≤ 9223372036854775807) (hx : Ints w X ys)
    (h0 : I64 n0) (h1 : I64 n1) (h2 : I64 n2) :
    Calls Tryz.prog 4 #[.agg #[.int .i64 gn, .slice A n c], .slice X nx cx, .agg #[.int .i64 n0, .int .i64 n1, .int .i64 n2]] w fun e w' => e = .returned (.bool true) ∧ Below w.heap.size w w' := by
  have HT := Lib.hid hT
  have HN := Lib.hid hn
  have HA := Lib.hid hA
  have HW := Lib.hid hW
  have HXN := Lib.hid hxn
  have HX := Lib.hid hx
  have HXW := Lib.hid hxw
  have HGN := Lib.hid hgn
  have H0 := Lib.hid h0
  have H1 := Lib.hid h1
  have H2 := Lib.hid h2
  clear hT hn hA hW hxn hx hc hxc hxw hgn h0 h1 h2
  go_enter Tryz.func4, Tryz.ntmps4
  have HB1 : Hid (Below w.heap.size w ((w.alloc (.cells #[.int .i64 gn, .slice A n c] 24)).alloc (.cells #[.int .i64 n0, .int .i64 n1, .int .i64 n2] 38))) := Lib.hid (((Below.refl _ _).alloc (Nat.le_refl _) _).alloc (by simp) _)
  have HR1 : Hid (Blk ((w.alloc (.cells #[.int .i64 gn, .slice A n c] 24)).alloc (.cells #[.int .i64 n0, .int .i64 n1, .int .i64 n2] 38)) (w.heap.size + 1) 38 #[.int .i64 n0, .int .i64 n1, .int .i64 n2]) := Lib.hid (Blk.newAt _ _ _ (by simp))
  have KM := Lib.hid (made_any gn A n c l0 ((w.alloc (.cells #[.int .i64 gn, .slice A n c] 24)).alloc (.cells #[.int .i64 n0, .int .i64 n1, .int .i64 n2] 38)) HGN.out HN.out hbig (HA.out.below HB1.out) HW.out)
  go_wp2_with fail
  refine KM.out.mono ?_
  clear KM
  rintro e w2 ⟨m, v, L, rfl, hm1, hm2, hl, hok, hlv, hown, hb2⟩
  obtain ⟨A2, c2, rfl, -, hat, -⟩ := hown.slice
  have hb12 : Below w.heap.size w w2 := HB1.out.trans (hb2.mono HB1.out.size)
  have HR2 := Lib.hid (HR1.out.below hb2 HR1.out.lt)
  have HAT := Lib.hid hat
  have HB2 := Lib.hid hb12
  have HL := Lib.hid hl
  have HOK := Lib.hid hok.nodes
  have HSM := Lib.hid hok.small
  have HLV := Lib.hid hlv
  have hmm : 1 ≤ m ∧ m ≤ 12 := ⟨hm1, hm2⟩
  have HBA : Hid (Below w2.heap.size w2 (w2.alloc (.cells #[.int .i64 m, .slice A2 L.length c2] 24))) := Lib.hid ((Below.refl _ _).alloc (Nat.le_refl _) _)
  have HBK : Hid (Blk (w2.alloc (.cells #[.int .i64 m, .slice A2 L.length c2] 24)) w2.heap.size 24 #[.int .i64 m, .slice A2 L.length c2]) := Lib.hid (Blk.new _ _ _)
  clear hb2 hb12 hat hown hok hlv hl HB1 HR1 HA HW HN hm1 hm2
  go_upto_region 2 with (fail)
  generalize (w2.alloc (.cells #[.int .i64 m, .slice A2 L.length c2] 24)) = w3 at *
  obtain ⟨k0, k1⟩ : w3.cell? ⟨w2.heap.size, 0, none⟩ = some (.int .i64 m) ∧ w3.cell? ⟨w2.heap.size, 1, none⟩ = some (.slice A2 L.length c2) := ⟨(HBK.out.cell 0).trans (show _ = some (Value.int .i64 m) from rfl), (HBK.out.cell 1).trans (show _ = some (Value.slice A2 L.length c2) from rfl)⟩
  have HB3 := Lib.hid (HB2.out.trans (HBA.out.mono HB2.out.size))
  have KS := Lib.hid (state6_any X nx cx ys m w3 HXN.out hxb (by omega) (HX.out.below HB3.out) HXW.out)
  go_wp2_with fail
  refine KS.out.mono ?_
  clear KS
  rintro e w4 ⟨v4, rfl, ho4, hb4⟩
  obtain ⟨X3, c3, rfl, -, hi3, -⟩ := ho4.slice
  rw [stV_length]
  have HL4 : Hid (LrL w w2.heap.size m A2 L.length c2 L X3 (stV ys m) w4) := Lib.hid ⟨HBK.out.below hb4 HBK.out.lt, HB2.out.size, HB3.out.trans (hb4.mono HB3.out.size), (HAT.out.below HBA.out).below hb4, hi3⟩
  have HR4 := Lib.hid ((HR2.out.below HBA.out HR2.out.lt).below hb4 (Nat.lt_of_lt_of_le HR2.out.lt HBA.out.size))
  have HXL := Lib.hid (stV_length ys m)
  have HXS : Hid (∀ x ∈ stV ys m, -1000 ≤ x ∧ x ≤ 1000) := Lib.hid fun x hx => by
    obtain ⟨i, -, rfl⟩ := List.mem_map.1 hx
    unfold remAt
    split
    · rename_i v _
      have a := Int.tmod_lt_of_pos v (b := 1001) (by omega)
      have b := Int.lt_tmod_of_pos v (b := 1001) (by omega)
      omega
    · omega
  clear k0 k1 ho4 hb4 hi3 HBA HBK HAT HR2 HB2 HB3 HX HXW HXN
  generalize stV ys m = xs at *
  generalize w2.heap.size = g at *
  go_upto_region 3 with (fail)
  obtain ⟨b0, b1, b2⟩ : w4.cell? ⟨w.heap.size + 1, 0, none⟩ = some (.int .i64 n0) ∧ w4.cell? ⟨w.heap.size + 1, 1, none⟩ = some (.int .i64 n1) ∧ w4.cell? ⟨w.heap.size + 1, 2, none⟩ = some (.int .i64 n2) := ⟨(HR4.out.cell 0).trans (show _ = some (Value.int .i64 n0) from rfl), (HR4.out.cell 1).trans (show _ = some (Value.int .i64 n1) from rfl), (HR4.out.cell 2).trans (show _ = some (Value.int .i64 n2) from rfl)⟩
  have HD : Hid (-999 ≤ n2.tmod 1000 ∧ n2.tmod 1000 ≤ 999) := Lib.hid (by
    have x := Int.tmod_lt_of_pos n2 (b := 1000) (by omega)
    have y := Int.lt_tmod_of_pos n2 (b := 1000) (by omega)
    omega)
  have hw3 : IntKind.i64.wrap (n2.tmod 1000) = n2.tmod 1000 := IntWalk.i64_in _ (by have := HD.out; omega)
  have hw4 : IntKind.i64.wrap 1000 = 1000 := by decide
  go_cut [9, 10, 11] from 31 to 173 (fun s9 s10 s11 wx => ∃ (p q : Nat) (d : Int), s9 = .int .i64 p ∧ s10 = .int .i64 q ∧ s11 = .int .i64 d ∧ p < 1000000 ∧ q < 1000000 ∧ -999 ≤ d ∧ d ≤ 999 ∧ wx = w4.drew)
  case first =>
    have K0 : Hid (∀ W, Calls Tryz.prog 16 #[.int .i64 n0, .int .i64 1000000] W fun e w' => ∃ r : Nat, r < 1000000 ∧ e = .returned (.int .i64 r) ∧ W = w') := Lib.hid fun W => fold6_any n0 1000000 W H0.out (by omega)
    have K1 : Hid (∀ W, Calls Tryz.prog 16 #[.int .i64 n1, .int .i64 1000000] W fun e w' => ∃ r : Nat, r < 1000000 ∧ e = .returned (.int .i64 r) ∧ W = w') := Lib.hid fun W => fold6_any n1 1000000 W H1.out (by omega)
    go_region_held3 (fun w' => w'.cell? ⟨w.heap.size + 1, 0, none⟩ = some (.int .i64 n0) ∧ w'.cell? ⟨w.heap.size + 1, 1, none⟩ = some (.int .i64 n1) ∧ w'.cell? ⟨w.heap.size + 1, 2, none⟩ = some (.int .i64 n2))
      (first | assumption | exact ⟨b0, b1, b2⟩)
      (first | ((go_at_call 16; (with_reducible refine (K0.out _).mono ?_); rintro e w' ⟨r1, hr1, rfl, rfl⟩)) | ((go_at_call 16; (with_reducible refine (K1.out _).mono ?_); rintro e w' ⟨r2, hr2, rfl, rfl⟩)))
    all_goals (go_wp2_with fail; go_meet)
    all_goals exact ⟨_, _, _, rfl, rfl, rfl, hr1, hr2, HD.out.1, HD.out.2, rfl⟩
  case rest =>
    obtain ⟨p, q, d, rfl, rfl, rfl, hp, hq, hd1, hd2, rfl⟩ := hcut
    have HL5 := Lib.hid (HL4.out.call (Below.refl _ _).drew)
    clear b0 b1 b2 HD hw3 hw4 HR4 HL4 H0 H1 H2 HGN
    generalize w4.drew = w5 at *
    have hhd : ¬ (0 : Int) ≤ -1 := by omega
    clear hhd
    go_wp2_with fail
    go_loopw [12, 13] (fun v i wr => ∃ k : Nat, k ≤ m ∧ i = .int .i64 k ∧ Own wr w5.heap.size v ((xs.take k).map (· + d)) ∧ Below w5.heap.size w5 wr) (fun _ i _ => m - (intOf i).toNat)
    case atStart => exact ⟨0, Nat.zero_le _, rfl, by simpa using Own.empty w5, (Below.refl _ _).alloc (Nat.le_refl _) _⟩
    case round =>
      obtain ⟨k, hk, rfl, hO, hbw⟩ := hrel
      have HO := Lib.hid hO
      have HBW := Lib.hid hbw
      have hsz := HBW.out.size
      clear hO hbw
      by_cases hlt : k < m
      · have hl : k < xs.length := by rw [HXL.out]; exact hlt
        obtain ⟨b, off, rfl, hc⟩ := (HL5.out.ints.below HBW.out).at_ hl
        have hz := HXS.out _ (List.getElem_mem hl)
        have HTK : Hid ((xs.take (k + 1)).map (· + d) = (xs.take k).map (· + d) ++ [xs[k] + d]) := Lib.hid (by rw [List.take_succ_eq_append_getElem hl, List.map_append]; rfl)
        have HLL : Hid (((xs.take k).map (· + d)).length = k) := Lib.hid (by rw [List.length_map, List.length_take, HXL.out]; omega)
        generalize xs[k] = z at *
        go_wp2_with (at_builtin; refine wpList_app rfl (.tmp 47) (.tmp 54) rfl w5.heap.size _ ((xs.take k).map (· + d)) [z + d] (some ⟨wr.heap.size, 0, none⟩) 1 1 rfl rfl (own_alloc6 HO.out _) rfl (ints_one6 wr (z + d)) (by rw [HLL.out]; simp; omega) (by simp; omega) ?_; intro v1 w1 ho hg hat; have HO1 := Lib.hid ho; have HG1 := Lib.hid hg; clear ho hg hat)
        have hbase := own_base6 HO.out
        have hbel2 : Hid (Below w5.heap.size w5 w1) := Lib.hid ((HBW.out.alloc hsz _).grown HG1.out (by simp; omega) (fun k hk => hbase k hk))
        clear hbase
        go_roundw
        case rel => exact ⟨k + 1, by omega, by go_num, by rw [HTK.out]; exact HO1.out, hbel2.out⟩
        case measure => simp [intOf]; omega
      · have ek : (xs.take k).map (· + d) = xs.map (· + d) := by rw [List.take_of_length_le (by rw [HXL.out]; omega)]
        have hO := HO.out
        rw [ek] at hO
        obtain ⟨Xm, cm, rfl, -, him, -⟩ := hO.slice
        have eml : (xs.map (· + d)).length = m := by rw [List.length_map]; exact HXL.out
        rw [eml]
        have HML := Lib.hid eml
        have HM := Lib.hid him
        have HLr := Lib.hid (HL5.out.call HBW.out)
        have HSB : Hid (stateB m xs = true) := Lib.hid (stateB_of HXL.out fun v hv => by have := HXS.out v hv; omega)
        have HSB2 : Hid (stateB m (xs.map (· + d)) = true) := Lib.hid (stateB_of eml fun v hv => by
          obtain ⟨u, hu, rfl⟩ := List.mem_map.1 hv
          have := HXS.out u hu; omega)
        have HD3 : Hid (∀ a ∈ L, -3000 ≤ a.d ∧ a.d ≤ 3000) := Lib.hid fun a ha => by have := HSM.out a ha; omega
        have HSBA : Hid (stateB m (listOf m (MP.it (stOf xs) (dArcs L) p)) = true) := Lib.hid (stateB_it (by omega) HD3.out (fun v hv => by have := HXS.out v hv; omega) p (by omega))
        have HRR := Lib.hid (run_run HXL.out HLV.out HOK.out (by omega) p q)
        have HRM := Lib.hid (run_moved HXL.out HLV.out HOK.out (by omega) d p)
        have HLAL := Lib.hid (listOf_length m (MP.it (stOf xs) (dArcs L) p))
        have HL257 : Hid (L.length ≤ 256) := Lib.hid (by have := HL.out; omega)
        clear ek hO eml him HO HBW HL5 hsz
        obtain ⟨k0, k1⟩ := HLr.out.cells
        have K1 := Lib.hid (good_run A2 L.length c2 X3 c3 p wr hmm rfl HL257.out HLr.out.arcs HOK.out HLV.out HXL.out HLr.out.ints HSB.out (by omega))
        go_wp2_with fail
        refine K1.out.mono ?_
        clear K1 k0 k1 hlt hk
        rintro e w6 ⟨Xa, ca, rfl, hia, hb6⟩
        have HL6 := Lib.hid (HLr.out.call hb6)
        have HM6 := Lib.hid (HM.out.below hb6)
        have HA6 := Lib.hid hia
        clear HLr HM hia hb6
        obtain ⟨k0, k1⟩ := HL6.out.cells
        have K1 := Lib.hid (good_run A2 L.length c2 Xa ca q w6 hmm rfl HL257.out HL6.out.arcs HOK.out HLV.out HLAL.out HA6.out HSBA.out (by omega))
        go_wp2_with fail
        refine K1.out.mono ?_
        clear K1 k0 k1
        rintro e w7 ⟨Xc, cc, rfl, hic, hb7⟩
        rw [HRR.out] at hic
        have HL7 := Lib.hid (HL6.out.call hb7)
        have HM7 := Lib.hid (HM6.out.below hb7)
        have HA7 := Lib.hid (HA6.out.below hb7)
        have HC7 := Lib.hid hic
        clear HL6 HM6 HA6 hic hb7
        obtain ⟨k0, k1⟩ := HL7.out.cells
        have hK := good_run A2 L.length c2 X3 c3 (p + q) w7 hmm rfl HL257.out HL7.out.arcs HOK.out HLV.out HXL.out HL7.out.ints HSB.out (by omega)
        rw [Int.natCast_add] at hK
        have K1 := Lib.hid hK
        clear hK
        go_wp2_with fail
        refine K1.out.mono ?_
        clear K1 k0 k1
        rintro e w8 ⟨Xd, cd, rfl, hid, hb8⟩
        have HL8 := Lib.hid (HL7.out.call hb8)
        have HM8 := Lib.hid (HM7.out.below hb8)
        have HA8 := Lib.hid (HA7.out.below hb8)
        have HC8 := Lib.hid (HC7.out.below hb8)
        have HD8 := Lib.hid hid
        clear HL7 HM7 HA7 HC7 hid hb8
        obtain ⟨k0, k1⟩ := HL8.out.cells
        have K1 := Lib.hid (good_run A2 L.length c2 Xm cm p w8 hmm rfl HL257.out HL8.out.arcs HOK.out HLV.out HML.out HM8.out HSB2.out (by omega))
        go_wp2_with fail
        refine K1.out.mono ?_
        clear K1 k0 k1
        rintro e w9 ⟨Xe, ce, rfl, hie, hb9⟩
        rw [HRM.out] at hie
        have HL9 := Lib.hid (HL8.out.call hb9)
        have HA9 := Lib.hid (HA8.out.below hb9)
        have HC9 := Lib.hid (HC8.out.below hb9)
        have HD9 := Lib.hid (HD8.out.below hb9)
        have HE9 := Lib.hid hie
        clear HL8 HM8 HA8 HC8 HD8 hie hb9
        have hKS := same6_any Xc Xd m m cc cd _ _ w9 (listOf_length _ _) (listOf_length _ _) (by omega) HC9.out HD9.out
        rw [decide_eq_true (show listOf m (MP.it (stOf xs) (dArcs L) (p + q)) = listOf m (MP.it (stOf xs) (dArcs L) (p + q)) from rfl)] at hKS
        have KS := Lib.hid hKS
        clear hKS
        obtain ⟨k0, k1⟩ := HL9.out.cells
        go_wp2_with fail
        refine KS.out.mono ?_
        clear KS
        rintro e w10 ⟨rfl, hb10⟩
        have HL10 := Lib.hid (HL9.out.call hb10)
        have HA10 := Lib.hid (HA9.out.below hb10)
        have HE10 := Lib.hid (HE9.out.below hb10)
        clear k0 k1 hb10 HL9 HA9 HC9 HD9 HE9
        obtain ⟨k0, k1⟩ := HL10.out.cells
        have KL := Lib.hid (HT.out _ HL10.out.below)
        go_wp2_with fail
        refine KL.out.mono ?_
        clear KL
        rintro e w11 ⟨rfl, hb11⟩
        have HL11 := Lib.hid (HL10.out.call hb11)
        have HA11 := Lib.hid (HA10.out.below hb11)
        have HE11 := Lib.hid (HE10.out.below hb11)
        clear k0 k1 hb11 HL10 HA10 HE10
        obtain ⟨k0, k1⟩ := HL11.out.cells
        have HSML : Hid (∀ i, MP.Small 1000000000000 (stOf (listOf m (MP.it (stOf xs) (dArcs L) p)) i)) := Lib.hid (stateB_ok HSBA.out).2
        generalize listOf m (MP.it (stOf xs) (dArcs L) p) = La at *
        go_wp2_with fail
        go_loopw [6, 22] (fun _ i wx => ∃ k : Nat, k ≤ m ∧ i = .int .i64 k ∧ Below w11.heap.size w11 wx) (fun _ i _ => m - (intOf i).toNat)
        case atStart => exact ⟨0, Nat.zero_le _, rfl, Below.refl _ _⟩
        case round =>
          clear k0 k1
          obtain ⟨k, hk, rfl, hbw⟩ := hrel
          have HLx := Lib.hid (HL11.out.call hbw)
          have HBW := Lib.hid hbw
          obtain ⟨k0, k1⟩ := HLx.out.cells
          clear hbw
          by_cases hlt : k < m
          · have hla : k < La.length := by rw [HLAL.out]; exact hlt
            have hlm : k < (La.map (· + d)).length := by rw [List.length_map]; exact hla
            obtain ⟨ba, oa, rfl, ha⟩ := (HA11.out.below HBW.out).at_ hla
            obtain ⟨be, oe, rfl, he⟩ := (HE11.out.below HBW.out).at_ hlm
            rw [List.getElem_map] at he
            have hz := HSML.out k La[k] (by unfold stOf; rw [List.getElem?_eq_getElem hla])
            generalize La[k] = z at *
            have hw3 : IntKind.i64.wrap (z + d) = z + d := IntWalk.i64_in _ (by omega)
            have hk0 : (0 : Int) ≤ (k : Int) := by omega
            have hkm : (k : Int) < (m : Int) := by omega
            go_upto_region 18 with (fail)
            go_cut [152] from 142 to 152 (fun s wy => s = .bool false ∧ wy = wr.drew)
            case first =>
              go_region_held3 (fun w' => w'.cell? ⟨be, oe + k, none⟩ = some (.int .i64 (z + d)) ∧ w'.cell? ⟨ba, oa + k, none⟩ = some (.int .i64 z))
                (first | assumption | exact ⟨he, ha⟩) (fail)
              all_goals (go_wp2_with fail; go_meet)
              all_goals exact ⟨by simp, rfl⟩
            case rest =>
              obtain ⟨rfl, rfl⟩ := hcut
              go_wp2_with fail
              go_roundw
              case rel => exact ⟨k + 1, by omega, by go_num, HBW.out.drew⟩
              case measure => simp [intOf]; omega
          · clear HSML HA11 HE11
            have hK := good_run A2 L.length c2 X3 c3 1 wr hmm rfl HL257.out HLx.out.arcs HOK.out HLV.out HXL.out HLx.out.ints HSB.out (by omega)
            rw [show ((1 : Nat) : Int) = 1 from rfl] at hK
            have K1 := Lib.hid hK
            clear hK
            go_wp2_with fail
            refine K1.out.mono ?_
            clear K1 k0 k1
            rintro e w12 ⟨X1, c1, rfl, hi1, hb12⟩
            have HL12 := Lib.hid (HLx.out.call hb12)
            have HI12 := Lib.hid hi1
            clear hi1 hb12 HLx
            obtain ⟨k0, k1⟩ := HL12.out.cells
            have KN := Lib.hid (next_any m A2 L.length c2 L X3 c3 xs w12 (by omega) rfl (by have := HL257.out; omega) HL12.out.arcs HOK.out HXL.out HL12.out.ints (fun v hv => by have := HXS.out v hv; omega))
            go_wp2_with fail
            refine KN.out.mono ?_
            clear KN
            rintro e w13 ⟨gx, rfl, -, hbk, hb13⟩
            rw [out_ints, run_one xs HOK.out (by omega)] at hbk
            have HL13 := Lib.hid (HL12.out.call hb13)
            have hKS := same6_any X1 (some ⟨gx, 0, none⟩) m m c1 m _ _ w13 (listOf_length _ _) (listOf_length _ _) (by omega) (HI12.out.below hb13) hbk.ints
            rw [decide_eq_true (show listOf m (MP.it (stOf xs) (dArcs L) 1) = listOf m (MP.it (stOf xs) (dArcs L) 1) from rfl)] at hKS
            have KS := Lib.hid hKS
            clear hKS hbk hb13 k0 k1
            go_wp2_with fail
            refine KS.out.mono ?_
            rintro e w14 ⟨rfl, hb14⟩
            have HL14 := Lib.hid (HL13.out.call hb14)
            clear hb14
            go_wp2_with fail
            go_ret
            exact ⟨rfl, HL14.out.below⟩
end Go.Proofs.YtddejjilfmphbaaGreatDoor
