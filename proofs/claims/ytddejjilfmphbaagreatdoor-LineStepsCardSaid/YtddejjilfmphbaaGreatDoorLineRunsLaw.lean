/- LineRuns: the law's walk. -/
import Derived.Test.YtddejjilfmphbaaGreatDoorFew
namespace Go.Proofs.YtddejjilfmphbaaGreatDoor
open Go.RowKit Go.Sort
attribute [local go_sem ↓] run_min_mn run_max_mx

def stepsN (k : Int) : Int := if 300 < k ∧ k ≤ 1000000000 then k % 301 else k
theorem stepsN_small {k : Int} (h : 0 ≤ stepsN k ∧ stepsN k ≤ 1000000000) : stepsN k ≤ 300 := by
  unfold stepsN at *
  split at h <;> split <;> omega
def LivesOk (w : World) : Prop := ∀ W, Below w.heap.size w W → Calls Tryz.prog 10 #[] W fun e w' => e = .returned (.bool true) ∧ Below W.heap.size W w'
/-- What the law holds when it calls Run. -/
structure LrL (w : World) (g : Nat) (gn : Int) (A : Option Addr) (n c : Nat) (l : List Arc) (X : Option Addr) (xs : List Int) (w' : World) : Prop where
  blk : Blk w' g 24 #[.int .i64 gn, .slice A n c]
  lt : w.heap.size ≤ g
  below : Below w.heap.size w w'
  arcs : ArcsAt w' A l
  ints : Ints w' X xs
theorem LrL.call {w w' w'' : World} {g : Nat} {gn : Int} {A : Option Addr} {n c : Nat} {l : List Arc} {X : Option Addr} {xs : List Int} (h : LrL w g gn A n c l X xs w') (hb : Below w'.heap.size w' w'') : LrL w g gn A n c l X xs w'' :=
  ⟨h.blk.below hb h.blk.lt, h.lt, h.below.trans (hb.mono (by have := h.blk.lt; have := h.lt; omega)), h.arcs.below hb, h.ints.below hb⟩
theorem LrL.cells {w w' : World} {g : Nat} {gn : Int} {A : Option Addr} {n c : Nat} {l : List Arc} {X : Option Addr} {xs : List Int} (h : LrL w g gn A n c l X xs w') : w'.cell? ⟨g, 0, none⟩ = some (.int .i64 gn) ∧ w'.cell? ⟨g, 1, none⟩ = some (.slice A n c) :=
  ⟨(h.blk.cell 0).trans (show _ = some (Value.int .i64 gn) from rfl), (h.blk.cell 1).trans (show _ = some (Value.slice A n c) from rfl)⟩

set_option maxHeartbeats 4000000 in
set_option maxRecDepth 100000 in
theorem runs_law (gn : Int) (A : Option Addr) (n c : Nat) (l : List Arc) (X : Option Addr) (nx cx : Nat) (xs : List Int) (k : Int) (w : World) (hT : LivesOk w) (hn : l.length = n) (hc : n ≤ c) (hbig : n ≤ 9223372036854775807) (hA : ArcsAt w A l)
    (hxn : xs.length = nx) (hxc : nx ≤ cx) (hxb : nx ≤ 9223372036854775807) (hx : Ints w X xs) :
    Calls Tryz.prog 3 #[.agg #[.int .i64 gn, .slice A n c], .slice X nx cx, .int .i64 k] w fun e w' => e = .returned (.bool true) ∧ Below w.heap.size w w' := by
  have HT := Lib.hid hT
  have HN := Lib.hid hn
  have HA := Lib.hid hA
  have HXN := Lib.hid hxn
  have HX := Lib.hid hx
  have HC := Lib.hid hc
  have HXC := Lib.hid hxc
  clear hT hn hA hxn hx hc hxc
  go_enter Tryz.func3, Tryz.ntmps3
  have HB1 : Hid (Below w.heap.size w (w.alloc (.cells #[.int .i64 gn, .slice A n c] 24))) := Lib.hid ((Below.refl _ _).alloc (Nat.le_refl _) _)
  have KF := Lib.hid (few_any gn A n c l (w.alloc (.cells #[.int .i64 gn, .slice A n c] 24)) HN.out HC.out hbig (HA.out.below HB1.out))
  go_wp2_with fail
  refine KF.out.mono ?_
  rintro e w2 ⟨v, rfl, ho, hb⟩
  obtain ⟨A2, c2, rfl, hlc, hat, -⟩ := ho.slice
  have HB2 := Lib.hid (HB1.out.trans (hb.mono (by simp)))
  have HA2 := Lib.hid hat
  have HL : Hid ((l.take (fewK l.length)).length ≤ 257) := Lib.hid (by rw [List.length_take]; unfold fewK; split <;> omega)
  clear ho hb hat hlc KF HB1 HA
  generalize l.take (fewK l.length) = L at *
  generalize fewN gn = m at *
  have KC := Lib.hid (cut6_any X nx cx 17 xs w2 HXN.out HXC.out hxb (by omega) (HX.out.below HB2.out))
  go_wp2_with fail
  refine KC.out.mono ?_
  rintro e w3 ⟨v3, rfl, ho3, hb3⟩
  obtain ⟨X3, c3, rfl, hcc, hi3, -⟩ := ho3.slice
  have HY : Hid ((xs.take 17).length ≤ 17) := Lib.hid (by rw [List.length_take]; omega)
  have HL3 : Hid (∀ _ : Unit, LrL w w3.heap.size m A2 L.length c2 L X3 (xs.take 17) (w3.alloc (.cells #[.int .i64 m, .slice A2 L.length c2] 24))) := Lib.hid fun _ => by
    have hb13 : Below w.heap.size w w3 := HB2.out.trans (hb3.mono HB2.out.size)
    have ha : Below w3.heap.size w3 (w3.alloc (.cells #[.int .i64 m, .slice A2 L.length c2] 24)) := (Below.refl _ _).alloc (Nat.le_refl _) _
    exact ⟨Blk.new _ _ _, hb13.size, hb13.alloc hb13.size _, (HA2.out.below hb3).below ha, hi3.below ha⟩
  clear ho3 hb3 hi3 hcc KC HB2 HA2
  generalize xs.take 17 = ys at *
  go_upto_region 2 with (fail)
  have HL4 := Lib.hid (HL3.out ())
  clear HL3
  generalize (w3.alloc (.cells #[.int .i64 m, .slice A2 L.length c2] 24)) = w4 at *
  generalize w3.heap.size = g at *
  go_cut [20] from 15 to 92 (fun s wx => s = .bool (decide (300 < k ∧ k ≤ 1000000000)) ∧ wx = w4)
  case first =>
    by_cases h1 : 300 < k
    · by_cases h2 : k ≤ 1000000000
      · go_wp2_with fail
        go_meet
        exact ⟨by rw [decide_eq_true (show 300 < k ∧ k ≤ 1000000000 from ⟨h1, h2⟩)], rfl⟩
      · go_wp2_with fail
        go_meet
        exact ⟨by rw [decide_eq_false (show ¬ (300 < k ∧ k ≤ 1000000000) by omega)], rfl⟩
    · go_wp2_with fail
      go_meet
      exact ⟨by rw [decide_eq_false (show ¬ (300 < k ∧ k ≤ 1000000000) by omega)], rfl⟩
  case rest =>
    obtain ⟨rfl, rfl⟩ := hcut
    go_upto_if 20 with (fail)
    go_cut [2] from 20 to 92 (fun s wx => s = .int .i64 (stepsN k) ∧ wx = wc)
    case first =>
      by_cases h1 : 300 < k ∧ k ≤ 1000000000
      · rw [decide_eq_true h1]
        have e : stepsN k = k % 301 := by unfold stepsN; rw [if_pos h1]
        have h0 : 0 ≤ k := by omega
        go_wp2_with fail
        go_meet
        exact ⟨by rw [e], rfl⟩
      · rw [decide_eq_false h1]
        have e : stepsN k = k := by unfold stepsN; rw [if_neg h1]
        go_wp2_with fail
        go_meet
        exact ⟨by rw [e], rfl⟩
    case rest =>
      obtain ⟨rfl, rfl⟩ := hcut
      have HSM := Lib.hid (stepsN_small (k := k))
      generalize stepsN k = kk at *
      obtain ⟨k0, k1⟩ := HL4.out.cells
      have KR := Lib.hid (lineRun_any m kk A2 L.length c2 L X3 ys.length c3 ys wc rfl (by have := HL.out; omega) HL4.out.arcs rfl (by have := HY.out; omega) HL4.out.ints)
      go_wp2_with fail
      refine KR.out.mono ?_
      rintro e w5 ⟨hb5, hr⟩
      have HL5 := Lib.hid (HL4.out.call hb5)
      clear k0 k1 KR
      by_cases hgood : graphB m L = true ∧ stateB m ys = true ∧ 0 ≤ kk ∧ kk ≤ 1000000000
      case neg =>
        have hE : lrunE m L ys kk = 1 := by unfold lrunE; rw [if_neg hgood]
        rw [hE] at hr
        obtain ⟨-, rfl⟩ | ⟨h, -⟩ := hr
        case inr => exact absurd h (by decide)
        clear hE HL4 hb5
        have HNG := Lib.hid hgood
        clear hgood
        go_upto_region 5 with (fail)
        go_cut [50] from 33 to 92 (fun s wx => s = .bool true ∧ LrL w g m A2 L.length c2 L X3 ys wx)
        case first =>
          obtain ⟨k0, k1⟩ := HL5.out.cells
          have hKB := bad_any m A2 L.length c2 L w5 rfl (by have := HL.out; omega) HL5.out.arcs
          by_cases hg : graphB m L = true
          case neg =>
            rw [if_neg hg] at hKB
            have KB := Lib.hid hKB
            clear hKB hg
            go_wp2_with fail
            refine KB.out.mono ?_
            rintro e w6 ⟨rfl, hb6⟩
            have HL6 := Lib.hid (HL5.out.call hb6)
            clear hb6 k0 k1 KB HL5
            go_wp2_with fail
            go_meet
            exact ⟨rfl, HL6.out⟩
          rw [if_pos hg] at hKB
          have KB := Lib.hid hKB
          have HG := Lib.hid hg
          clear hKB hg
          go_wp2_with fail
          refine KB.out.mono ?_
          rintro e w6 ⟨rfl, hb6⟩
          have HL6 := Lib.hid (HL5.out.call hb6)
          clear hb6 k0 k1 KB HL5
          obtain ⟨k0, k1⟩ := HL6.out.cells
          have hKS := refState_any m X3 ys.length c3 ys w6 rfl (by have := HY.out; omega) HL6.out.ints
          by_cases hs : stateB m ys = true
          case neg =>
            rw [show stateB m ys = false by simpa using hs] at hKS
            have KS := Lib.hid hKS
            clear hKS hs
            go_wp2_with fail
            refine KS.out.mono ?_
            rintro e w7 ⟨rfl, rfl⟩
            go_wp2_with fail
            go_meet
            exact ⟨rfl, HL6.out⟩
          rw [hs] at hKS
          have KS := Lib.hid hKS
          have HNK : Hid (¬ (0 ≤ kk ∧ kk ≤ 1000000000)) := Lib.hid fun h => HNG.out ⟨HG.out, hs, h⟩
          clear hKS hs
          go_wp2_with fail
          refine KS.out.mono ?_
          rintro e w7 ⟨rfl, rfl⟩
          by_cases h1 : kk < 0
          · go_wp2_with fail
            go_meet
            exact ⟨rfl, HL6.out⟩
          · have h2 : 1000000000 < kk := by have := HNK.out; omega
            go_wp2_with fail
            go_meet
            exact ⟨rfl, HL6.out⟩
        case rest =>
          obtain ⟨rfl, hl⟩ := hcut
          have HL7 := Lib.hid hl
          have KL := Lib.hid (HT.out _ hl.below)
          clear hl
          go_wp2_with fail
          refine KL.out.mono ?_
          rintro e w8 ⟨rfl, hb8⟩
          have HL8 := Lib.hid (HL7.out.call hb8)
          clear hb8
          go_wp2_with fail
          go_ret
          exact ⟨rfl, HL8.out.below⟩
      case pos =>
        obtain ⟨hg, hs, h1, h2⟩ := hgood
        have HG := Lib.hid hg
        have HS := Lib.hid hs
        have hkk := HSM.out ⟨h1, h2⟩
        obtain ⟨q, rfl⟩ : ∃ q : Nat, kk = (q : Int) := ⟨kk.toNat, by omega⟩
        obtain ⟨⟨hm1, hm2, hm3⟩, hok⟩ := graphB_nodes hg
        obtain ⟨hlen, hsm⟩ := stateB_ok hs
        obtain ⟨mm, rfl⟩ : ∃ mm : Nat, m = (mm : Int) := ⟨m.toNat, by omega⟩
        rw [Int.toNat_natCast] at hok
        have HOK := Lib.hid hok
        have HSML := Lib.hid hsm
        have HLEN : Hid (ys.length = mm) := Lib.hid (by omega)
        have hq : q ≤ 300 := by omega
        have hmm : mm ≤ 16 := by omega
        have HR := Lib.hid hr
        clear hr hg hs hok hsm hlen hm1 hm3 hkk h1 h2 hb5 HL4 HSM
        obtain ⟨k0, k1⟩ := HL5.out.cells
        have hKB := bad_any mm A2 L.length c2 L w5 rfl (by have := HL.out; omega) HL5.out.arcs
        rw [if_pos HG.out] at hKB
        have KB := Lib.hid hKB
        clear hKB
        by_cases hl : liveB mm L = true
        case neg =>
          have hE : lrunE mm L ys q = 2 := by unfold lrunE; rw [if_pos ⟨HG.out, HS.out, by omega, by omega⟩, Int.toNat_natCast, if_neg hl]
          have hr := HR.out
          rw [hE] at hr
          obtain ⟨-, rfl⟩ | ⟨h, -⟩ := hr
          case inr => exact absurd h (by decide)
          go_wp2_with fail
          refine KB.out.mono ?_
          rintro e w6 ⟨rfl, hb6⟩
          have HL6 := Lib.hid (HL5.out.call hb6)
          clear hb6 k0 k1 KB HL5
          obtain ⟨k0, k1⟩ := HL6.out.cells
          have hKS := refState_any mm X3 ys.length c3 ys w6 rfl (by have := HY.out; omega) HL6.out.ints
          rw [HS.out] at hKS
          have KS := Lib.hid hKS
          clear hKS
          go_wp2_with fail
          refine KS.out.mono ?_
          rintro e w7 ⟨rfl, rfl⟩
          have hKL := refLive_any mm A2 L.length c2 L w6 hmm rfl (by have := HL.out; omega) HL6.out.arcs
          rw [show liveB mm L = false by simpa using hl] at hKL
          have KLV := Lib.hid hKL
          clear hKL KS
          go_wp2_with fail
          refine KLV.out.mono ?_
          rintro e w7 ⟨rfl, rfl⟩
          clear KLV
          have KL := Lib.hid (HT.out _ HL6.out.below)
          go_wp2_with fail
          refine KL.out.mono ?_
          rintro e w8 ⟨rfl, hb8⟩
          have HL8 := Lib.hid (HL6.out.call hb8)
          clear hb8
          go_wp2_with fail
          go_ret
          exact ⟨rfl, HL8.out.below⟩
        case pos =>
          have hE : lrunE mm L ys q = 0 := by unfold lrunE; rw [if_pos ⟨HG.out, HS.out, by omega, by omega⟩, Int.toNat_natCast, if_pos hl]
          have hr := HR.out
          rw [hE] at hr
          obtain ⟨h, -⟩ | ⟨-, v, rfl, hv⟩ := hr
          case inl => exact absurd rfl h
          rw [Int.toNat_natCast, Int.toNat_natCast, enc_list (it_full (full_stOf HLEN.out) hl HOK.out hmm q)] at hv
          obtain ⟨Z, cz, rfl, -, hz, -⟩ := hv.slice
          have HZL := Lib.hid (listOf_length mm (MP.it (stOf ys) (dArcs L) q))
          have HZ := Lib.hid hz
          have HLV := Lib.hid hl
          clear hv hz hE hl HR
          go_wp2_with fail
          refine KB.out.mono ?_
          rintro e w6 ⟨rfl, hb6⟩
          have HL6 := Lib.hid (HL5.out.call hb6)
          have HZ6 := Lib.hid (HZ.out.below hb6)
          clear HZ
          clear hb6 k0 k1 KB HL5
          obtain ⟨k0, k1⟩ := HL6.out.cells
          have hKS := refState_any mm X3 ys.length c3 ys w6 rfl (by have := HY.out; omega) HL6.out.ints
          rw [HS.out] at hKS
          have KS := Lib.hid hKS
          clear hKS
          go_wp2_with fail
          refine KS.out.mono ?_
          rintro e w7 ⟨rfl, rfl⟩
          have hKL := refLive_any mm A2 L.length c2 L w6 hmm rfl (by have := HL.out; omega) HL6.out.arcs
          rw [HLV.out] at hKL
          have KLV := Lib.hid hKL
          clear hKL KS
          go_wp2_with fail
          refine KLV.out.mono ?_
          rintro e w7 ⟨rfl, rfl⟩
          clear KLV
          obtain rfl := HLEN.out
          have KR := Lib.hid (refRun_any ys.length A2 L.length c2 L X3 c3 ys q w6 hmm rfl (by have := HL.out; omega) HL6.out.arcs HOK.out HLV.out rfl HL6.out.ints HSML.out (by omega))
          go_wp2_with fail
          refine KR.out.mono ?_
          rintro e w8 ⟨R, cr, rfl, hri, hb8⟩
          have HL8 := Lib.hid (HL6.out.call hb8)
          have hKSM := same6_any Z R _ _ cz cr _ _ w8 HZL.out HZL.out (by omega) (HZ6.out.below hb8) hri
          rw [decide_eq_true (show listOf ys.length (MP.it (stOf ys) (dArcs L) q) = listOf ys.length (MP.it (stOf ys) (dArcs L) q) from rfl)] at hKSM
          have KSM := Lib.hid hKSM
          clear hKSM
          clear hb8 hri KR k0 k1
          rw [HZL.out]
          go_wp2_with fail
          refine KSM.out.mono ?_
          rintro e w9 ⟨rfl, hb9⟩
          have HL9 := Lib.hid (HL8.out.call hb9)
          clear hb9 KSM
          have KL := Lib.hid (HT.out _ HL9.out.below)
          go_wp2_with fail
          refine KL.out.mono ?_
          rintro e w10 ⟨rfl, hb10⟩
          have HL10 := Lib.hid (HL9.out.call hb10)
          clear hb10
          go_wp2_with fail
          go_ret
          exact ⟨rfl, HL10.out.below⟩
end Go.Proofs.YtddejjilfmphbaaGreatDoor
