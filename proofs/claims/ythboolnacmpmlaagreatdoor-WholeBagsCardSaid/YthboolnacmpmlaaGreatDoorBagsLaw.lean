/- The law WholeBags: a walk through all of it. -/
import Derived.Test.YthboolnacmpmlaaGreatDoorRefBags
import Derived.Test.YthboolnacmpmlaaGreatDoorBagsBad
import Derived.Test.YthboolnacmpmlaaGreatDoorLives3
namespace Go.Proofs.YthboolnacmpmlaaGreatDoor
open Go.RowKit Go.Sort Bag
attribute [local go_sem ↓] run_min_mn run_max_mx

set_option maxHeartbeats 8000000 in
set_option maxRecDepth 100000 in
theorem bags_law (A : Option Addr) (n c : Nat) (xs : List Int) (a : Int) (w : World) (hn : xs.length = n) (hc : n ≤ c) (hbig : n ≤ 9223372036854775807) (hx : Ints w A xs) (ha : -9223372036854775808 ≤ a ∧ a ≤ 9223372036854775807) (hT : Eng.Tabs tabs w) :
    Calls Tryz.prog 3 #[.slice A n c, .int .i64 a] w fun e w' => e = .returned (.bool true) ∧ Below w.heap.size w w' := by
  have tabsAt : Hid (∀ {W : World}, Below w.heap.size w W → Eng.Tabs tabs W) := Lib.hid fun hb => tabs_below hT hb
  have K := Lib.hid (cut_any A n c 9 xs w hn hc hbig (by omega) hx)
  have HL9 : Hid ((xs.take 9).length ≤ 9) := Lib.hid (by simp; omega)
  clear hn hx hT hc hbig
  generalize xs.take 9 = zs at *
  go_enter Tryz.func3, Tryz.ntmps3
  go_wp2_with fail
  refine ((K).out).mono ?_
  rintro e w1 ⟨v, rfl, hown, hb1⟩
  obtain ⟨A1, c1, rfl, hc1, hin, -⟩ := hown.slice
  have HB1 := Lib.hid hb1
  have h9 := HL9.out
  clear hown hb1 K HL9
  rcases Nat.lt_or_ge 8 zs.length with h8 | h8
  · obtain ⟨m, hm⟩ : ∃ m, zs.length = m := ⟨_, rfl⟩
    have HLEN := Lib.hid hm
    have HIN := Lib.hid hin
    rw [hm] at h9 h8 hc1 ⊢
    clear hm hin
    generalize zs = ys at *
    cases hsz : sizesB ys
    · have HSZ := Lib.hid hsz
      clear hsz
      rcases Int.lt_or_le 120 a with ha1 | ha1
      · rcases Int.lt_or_le 1000000 a with ha2 | ha2
        · have KB := Lib.hid (bags_nosizes A1 m c1 ys a w1 HLEN.out (by omega) HIN.out HSZ.out ha)
          go_wp2_with fail
          refine (KB.out).mono ?_
          rintro e w2 ⟨rfl, hb2⟩
          have HB2 := Lib.hid (HB1.out.trans (hb2.mono HB1.out.size))
          have KS := Lib.hid (sizes_any A1 m c1 ys w2 HLEN.out (by omega) (HIN.out.below hb2))
          have KV := Lib.hid (lives3_any w2 (tabsAt.out HB2.out))
          rw [HSZ.out] at KS
          clear hb2 KB
          go_wp2_with fail
          refine (KS.out).mono ?_
          rintro e w3 ⟨rfl, rfl⟩
          go_wp2_with fail
          refine (KV.out).mono ?_
          rintro e w4 ⟨rfl, hb4⟩
          have HB4 := Lib.hid (HB2.out.trans (hb4.mono HB2.out.size))
          clear hb4
          go_wp2_with fail
          go_ret
          exact ⟨rfl, HB4.out⟩
        · have hmod1 : 0 ≤ a % 121 := by omega
          have hmod2 : a % 121 < 121 := by omega
          have KB := Lib.hid (bags_nosizes A1 m c1 ys (a % 121) w1 HLEN.out (by omega) HIN.out HSZ.out (by omega))
          go_wp2_with fail
          refine (KB.out).mono ?_
          rintro e w2 ⟨rfl, hb2⟩
          have HB2 := Lib.hid (HB1.out.trans (hb2.mono HB1.out.size))
          have KS := Lib.hid (sizes_any A1 m c1 ys w2 HLEN.out (by omega) (HIN.out.below hb2))
          have KV := Lib.hid (lives3_any w2 (tabsAt.out HB2.out))
          rw [HSZ.out] at KS
          clear hb2 KB
          go_wp2_with fail
          refine (KS.out).mono ?_
          rintro e w3 ⟨rfl, rfl⟩
          go_wp2_with fail
          refine (KV.out).mono ?_
          rintro e w4 ⟨rfl, hb4⟩
          have HB4 := Lib.hid (HB2.out.trans (hb4.mono HB2.out.size))
          clear hb4
          go_wp2_with fail
          go_ret
          exact ⟨rfl, HB4.out⟩
      · have KB := Lib.hid (bags_nosizes A1 m c1 ys a w1 HLEN.out (by omega) HIN.out HSZ.out ha)
        go_wp2_with fail
        refine (KB.out).mono ?_
        rintro e w2 ⟨rfl, hb2⟩
        have HB2 := Lib.hid (HB1.out.trans (hb2.mono HB1.out.size))
        have KS := Lib.hid (sizes_any A1 m c1 ys w2 HLEN.out (by omega) (HIN.out.below hb2))
        have KV := Lib.hid (lives3_any w2 (tabsAt.out HB2.out))
        rw [HSZ.out] at KS
        clear hb2 KB
        go_wp2_with fail
        refine (KS.out).mono ?_
        rintro e w3 ⟨rfl, rfl⟩
        go_wp2_with fail
        refine (KV.out).mono ?_
        rintro e w4 ⟨rfl, hb4⟩
        have HB4 := Lib.hid (HB2.out.trans (hb4.mono HB2.out.size))
        clear hb4
        go_wp2_with fail
        go_ret
        exact ⟨rfl, HB4.out⟩
    · rcases Int.lt_or_le 120 a with ha1 | ha1
      · rcases Int.lt_or_le 1000000 a with ha2 | ha2
        · have HSZ := Lib.hid hsz
          have KB := Lib.hid (bags_range A1 m c1 ys a w1 HLEN.out (by omega) HIN.out hsz ha (.inr ha2))
          clear hsz
          go_wp2_with fail
          refine (KB.out).mono ?_
          rintro e w2 ⟨rfl, hb2⟩
          have HB2 := Lib.hid (HB1.out.trans (hb2.mono HB1.out.size))
          have KS := Lib.hid (sizes_any A1 m c1 ys w2 HLEN.out (by omega) (HIN.out.below hb2))
          have KV := Lib.hid (lives3_any w2 (tabsAt.out HB2.out))
          rw [HSZ.out] at KS
          clear hb2 KB
          go_wp2_with fail
          refine (KS.out).mono ?_
          rintro e w3 ⟨rfl, rfl⟩
          go_wp2_with fail
          refine (KV.out).mono ?_
          rintro e w4 ⟨rfl, hb4⟩
          have HB4 := Lib.hid (HB2.out.trans (hb4.mono HB2.out.size))
          clear hb4
          go_wp2_with fail
          go_ret
          exact ⟨rfl, HB4.out⟩
        · obtain ⟨t, ht⟩ : ∃ t : Nat, a % 121 = (t : Int) := ⟨(a % 121).toNat, by omega⟩
          have ht2 : t ≤ 120 := by omega
          obtain ⟨l, rfl, hl1, hl8, hb2000⟩ := sizes_nat hsz
          have hlk : l.length = m := by rw [← toI_length]; exact HLEN.out
          have HSZ := Lib.hid hsz
          have H2000 := Lib.hid hb2000
          have HLK := Lib.hid hlk
          have hm1 : 1 ≤ m := by omega
          have hm8 : m ≤ 8 := by omega
          clear hsz hb2000 hlk hl1 hl8
          omega
      · rcases Int.lt_or_le a 0 with ha2 | ha2
        · have HSZ := Lib.hid hsz
          have KB := Lib.hid (bags_range A1 m c1 ys a w1 HLEN.out (by omega) HIN.out hsz ha (.inl ha2))
          clear hsz
          go_wp2_with fail
          refine (KB.out).mono ?_
          rintro e w2 ⟨rfl, hb2⟩
          have HB2 := Lib.hid (HB1.out.trans (hb2.mono HB1.out.size))
          have KS := Lib.hid (sizes_any A1 m c1 ys w2 HLEN.out (by omega) (HIN.out.below hb2))
          have KV := Lib.hid (lives3_any w2 (tabsAt.out HB2.out))
          rw [HSZ.out] at KS
          clear hb2 KB
          go_wp2_with fail
          refine (KS.out).mono ?_
          rintro e w3 ⟨rfl, rfl⟩
          go_wp2_with fail
          refine (KV.out).mono ?_
          rintro e w4 ⟨rfl, hb4⟩
          have HB4 := Lib.hid (HB2.out.trans (hb4.mono HB2.out.size))
          clear hb4
          go_wp2_with fail
          go_ret
          exact ⟨rfl, HB4.out⟩
        · obtain ⟨t, rfl⟩ : ∃ t : Nat, a = (t : Int) := ⟨a.toNat, by omega⟩
          have ht2 : t ≤ 120 := by omega
          obtain ⟨l, rfl, hl1, hl8, hb2000⟩ := sizes_nat hsz
          have hlk : l.length = m := by rw [← toI_length]; exact HLEN.out
          have HSZ := Lib.hid hsz
          have H2000 := Lib.hid hb2000
          have HLK := Lib.hid hlk
          have hm1 : 1 ≤ m := by omega
          have hm8 : m ≤ 8 := by omega
          clear hsz hb2000 hlk hl1 hl8
          omega
  · obtain ⟨q, hq⟩ : ∃ q, zs.length = q := ⟨_, rfl⟩
    have hmn : mn (q : Int) 4 = ((min q 4 : Nat) : Int) := mn_nat q 4
    have hlen : (zs.take 4).length = min q 4 := by rw [List.length_take, hq, Nat.min_comm]
    have HIN := Lib.hid (hin.take 4)
    rw [hq] at h9 h8 hc1 ⊢
    have hmq : min q 4 ≤ q := Nat.min_le_left _ _
    generalize min q 4 = m at *
    have HLEN := Lib.hid hlen
    have hmc : m ≤ c1 := by omega
    have hm9 : m ≤ 9 := by omega
    clear hq hin hlen
    generalize zs.take 4 = ys at *
    cases hsz : sizesB ys
    · have HSZ := Lib.hid hsz
      clear hsz
      rcases Int.lt_or_le 120 a with ha1 | ha1
      · rcases Int.lt_or_le 1000000 a with ha2 | ha2
        · have KB := Lib.hid (bags_nosizes A1 m c1 ys a w1 HLEN.out (by omega) HIN.out HSZ.out ha)
          go_wp2_with fail
          refine (KB.out).mono ?_
          rintro e w2 ⟨rfl, hb2⟩
          have HB2 := Lib.hid (HB1.out.trans (hb2.mono HB1.out.size))
          have KS := Lib.hid (sizes_any A1 m c1 ys w2 HLEN.out (by omega) (HIN.out.below hb2))
          have KV := Lib.hid (lives3_any w2 (tabsAt.out HB2.out))
          rw [HSZ.out] at KS
          clear hb2 KB
          go_wp2_with fail
          refine (KS.out).mono ?_
          rintro e w3 ⟨rfl, rfl⟩
          go_wp2_with fail
          refine (KV.out).mono ?_
          rintro e w4 ⟨rfl, hb4⟩
          have HB4 := Lib.hid (HB2.out.trans (hb4.mono HB2.out.size))
          clear hb4
          go_wp2_with fail
          go_ret
          exact ⟨rfl, HB4.out⟩
        · have hmod1 : 0 ≤ a % 121 := by omega
          have hmod2 : a % 121 < 121 := by omega
          have KB := Lib.hid (bags_nosizes A1 m c1 ys (a % 121) w1 HLEN.out (by omega) HIN.out HSZ.out (by omega))
          go_wp2_with fail
          refine (KB.out).mono ?_
          rintro e w2 ⟨rfl, hb2⟩
          have HB2 := Lib.hid (HB1.out.trans (hb2.mono HB1.out.size))
          have KS := Lib.hid (sizes_any A1 m c1 ys w2 HLEN.out (by omega) (HIN.out.below hb2))
          have KV := Lib.hid (lives3_any w2 (tabsAt.out HB2.out))
          rw [HSZ.out] at KS
          clear hb2 KB
          go_wp2_with fail
          refine (KS.out).mono ?_
          rintro e w3 ⟨rfl, rfl⟩
          go_wp2_with fail
          refine (KV.out).mono ?_
          rintro e w4 ⟨rfl, hb4⟩
          have HB4 := Lib.hid (HB2.out.trans (hb4.mono HB2.out.size))
          clear hb4
          go_wp2_with fail
          go_ret
          exact ⟨rfl, HB4.out⟩
      · have KB := Lib.hid (bags_nosizes A1 m c1 ys a w1 HLEN.out (by omega) HIN.out HSZ.out ha)
        go_wp2_with fail
        refine (KB.out).mono ?_
        rintro e w2 ⟨rfl, hb2⟩
        have HB2 := Lib.hid (HB1.out.trans (hb2.mono HB1.out.size))
        have KS := Lib.hid (sizes_any A1 m c1 ys w2 HLEN.out (by omega) (HIN.out.below hb2))
        have KV := Lib.hid (lives3_any w2 (tabsAt.out HB2.out))
        rw [HSZ.out] at KS
        clear hb2 KB
        go_wp2_with fail
        refine (KS.out).mono ?_
        rintro e w3 ⟨rfl, rfl⟩
        go_wp2_with fail
        refine (KV.out).mono ?_
        rintro e w4 ⟨rfl, hb4⟩
        have HB4 := Lib.hid (HB2.out.trans (hb4.mono HB2.out.size))
        clear hb4
        go_wp2_with fail
        go_ret
        exact ⟨rfl, HB4.out⟩
    · rcases Int.lt_or_le 120 a with ha1 | ha1
      · rcases Int.lt_or_le 1000000 a with ha2 | ha2
        · have HSZ := Lib.hid hsz
          have KB := Lib.hid (bags_range A1 m c1 ys a w1 HLEN.out (by omega) HIN.out hsz ha (.inr ha2))
          clear hsz
          go_wp2_with fail
          refine (KB.out).mono ?_
          rintro e w2 ⟨rfl, hb2⟩
          have HB2 := Lib.hid (HB1.out.trans (hb2.mono HB1.out.size))
          have KS := Lib.hid (sizes_any A1 m c1 ys w2 HLEN.out (by omega) (HIN.out.below hb2))
          have KV := Lib.hid (lives3_any w2 (tabsAt.out HB2.out))
          rw [HSZ.out] at KS
          clear hb2 KB
          go_wp2_with fail
          refine (KS.out).mono ?_
          rintro e w3 ⟨rfl, rfl⟩
          go_wp2_with fail
          refine (KV.out).mono ?_
          rintro e w4 ⟨rfl, hb4⟩
          have HB4 := Lib.hid (HB2.out.trans (hb4.mono HB2.out.size))
          clear hb4
          go_wp2_with fail
          go_ret
          exact ⟨rfl, HB4.out⟩
        · obtain ⟨t, ht⟩ : ∃ t : Nat, a % 121 = (t : Int) := ⟨(a % 121).toNat, by omega⟩
          have ht2 : t ≤ 120 := by omega
          obtain ⟨l, rfl, hl1, hl8, hb2000⟩ := sizes_nat hsz
          have hlk : l.length = m := by rw [← toI_length]; exact HLEN.out
          have HSZ := Lib.hid hsz
          have H2000 := Lib.hid hb2000
          have HLK := Lib.hid hlk
          have hm1 : 1 ≤ m := by omega
          have hm8 : m ≤ 8 := by omega
          clear hsz hb2000 hlk hl1 hl8
          go_wp2_with fail
          refine (bags_any A1 m c1 l t w1 HLK.out (by omega) (by omega) HIN.out H2000.out (by omega)).mono ?_
          rintro e w2 ⟨hb2, h2⟩
          have HB2 := Lib.hid (HB1.out.trans (hb2.mono HB1.out.size))
          have HIN2 := Lib.hid (HIN.out.below hb2)
          have KS := Lib.hid (sizes_any A1 m c1 (toI l) w2 HLEN.out (by omega) HIN2.out)
          have KR := Lib.hid (refBags_any l A1 m c1 t w2 HLK.out (by omega) (by omega) H2000.out (by omega) HIN2.out)
          rw [HSZ.out] at KS
          rcases h2 with ⟨hlt, g, rfl, hge, hBk⟩ | ⟨hno, rfl⟩
          · have HLT := Lib.hid hlt
            have HBK := Lib.hid hBk
            have hcl : (counts l t).length = m := by rw [counts_length, HLK.out]
            have HCL := Lib.hid hcl
            rw [HLK.out]
            clear hb2 hlt hge hBk hcl
            go_wp2_with fail
            refine (KS.out).mono ?_
            rintro e w3 ⟨rfl, rfl⟩
            go_wp2_with fail
            refine (KR.out).mono ?_
            rintro e w3 ⟨hb3, v, ok, rfl, h3, h4⟩
            have HB3 := Lib.hid (HB2.out.trans (hb3.mono HB2.out.size))
            have HY3 := Lib.hid ((HBK.out.below hb3 HBK.out.lt).ints)
            cases ok
            · exact absurd HLT.out (h4 rfl)
            · obtain ⟨A3, c3, rfl, -, hin3, -⟩ := (h3 rfl).2.slice
              have HIN3 := Lib.hid hin3
              rw [toI_length, HCL.out]
              have KM := Lib.hid (same_any (some ⟨g, 0, none⟩) A3 m m m c3 (toI (counts l t)) (toI (counts l t)) w3 (by rw [toI_length]; exact HCL.out) (by rw [toI_length]; exact HCL.out) ⟨by omega, by omega⟩ HY3.out HIN3.out)
              rw [decide_eq_true rfl] at KM
              clear h3 h4 hin3 hb3
              go_wp2_with fail
              refine (KM.out).mono ?_
              rintro e w4 ⟨rfl, hb4⟩
              have HB4 := Lib.hid (HB3.out.trans (hb4.mono HB3.out.size))
              have KV := Lib.hid (lives3_any w4 (tabsAt.out HB4.out))
              clear hb4
              go_wp2_with fail
              refine (KV.out).mono ?_
              rintro e w5 ⟨rfl, hb5⟩
              have HB5 := Lib.hid (HB4.out.trans (hb5.mono HB4.out.size))
              clear hb5
              go_wp2_with fail
              go_ret
              exact ⟨rfl, HB5.out⟩
          · have HNO := Lib.hid hno
            clear hb2 hno
            go_wp2_with fail
            refine (KS.out).mono ?_
            rintro e w3 ⟨rfl, rfl⟩
            go_wp2_with fail
            refine (KR.out).mono ?_
            rintro e w3 ⟨hb3, v, ok, rfl, h3, h4⟩
            have HB3 := Lib.hid (HB2.out.trans (hb3.mono HB2.out.size))
            cases ok
            · have KV := Lib.hid (lives3_any w3 (tabsAt.out HB3.out))
              clear h3 h4 hb3
              go_wp2_with fail
              refine (KV.out).mono ?_
              rintro e w4 ⟨rfl, hb4⟩
              have HB4 := Lib.hid (HB3.out.trans (hb4.mono HB3.out.size))
              clear hb4
              go_wp2_with fail
              go_ret
              exact ⟨rfl, HB4.out⟩
            · exact absurd (h3 rfl).1 HNO.out
      · rcases Int.lt_or_le a 0 with ha2 | ha2
        · have HSZ := Lib.hid hsz
          have KB := Lib.hid (bags_range A1 m c1 ys a w1 HLEN.out (by omega) HIN.out hsz ha (.inl ha2))
          clear hsz
          go_wp2_with fail
          refine (KB.out).mono ?_
          rintro e w2 ⟨rfl, hb2⟩
          have HB2 := Lib.hid (HB1.out.trans (hb2.mono HB1.out.size))
          have KS := Lib.hid (sizes_any A1 m c1 ys w2 HLEN.out (by omega) (HIN.out.below hb2))
          have KV := Lib.hid (lives3_any w2 (tabsAt.out HB2.out))
          rw [HSZ.out] at KS
          clear hb2 KB
          go_wp2_with fail
          refine (KS.out).mono ?_
          rintro e w3 ⟨rfl, rfl⟩
          go_wp2_with fail
          refine (KV.out).mono ?_
          rintro e w4 ⟨rfl, hb4⟩
          have HB4 := Lib.hid (HB2.out.trans (hb4.mono HB2.out.size))
          clear hb4
          go_wp2_with fail
          go_ret
          exact ⟨rfl, HB4.out⟩
        · obtain ⟨t, rfl⟩ : ∃ t : Nat, a = (t : Int) := ⟨a.toNat, by omega⟩
          have ht2 : t ≤ 120 := by omega
          obtain ⟨l, rfl, hl1, hl8, hb2000⟩ := sizes_nat hsz
          have hlk : l.length = m := by rw [← toI_length]; exact HLEN.out
          have HSZ := Lib.hid hsz
          have H2000 := Lib.hid hb2000
          have HLK := Lib.hid hlk
          have hm1 : 1 ≤ m := by omega
          have hm8 : m ≤ 8 := by omega
          clear hsz hb2000 hlk hl1 hl8
          go_wp2_with fail
          refine (bags_any A1 m c1 l t w1 HLK.out (by omega) (by omega) HIN.out H2000.out (by omega)).mono ?_
          rintro e w2 ⟨hb2, h2⟩
          have HB2 := Lib.hid (HB1.out.trans (hb2.mono HB1.out.size))
          have HIN2 := Lib.hid (HIN.out.below hb2)
          have KS := Lib.hid (sizes_any A1 m c1 (toI l) w2 HLEN.out (by omega) HIN2.out)
          have KR := Lib.hid (refBags_any l A1 m c1 t w2 HLK.out (by omega) (by omega) H2000.out (by omega) HIN2.out)
          rw [HSZ.out] at KS
          rcases h2 with ⟨hlt, g, rfl, hge, hBk⟩ | ⟨hno, rfl⟩
          · have HLT := Lib.hid hlt
            have HBK := Lib.hid hBk
            have hcl : (counts l t).length = m := by rw [counts_length, HLK.out]
            have HCL := Lib.hid hcl
            rw [HLK.out]
            clear hb2 hlt hge hBk hcl
            go_wp2_with fail
            refine (KS.out).mono ?_
            rintro e w3 ⟨rfl, rfl⟩
            go_wp2_with fail
            refine (KR.out).mono ?_
            rintro e w3 ⟨hb3, v, ok, rfl, h3, h4⟩
            have HB3 := Lib.hid (HB2.out.trans (hb3.mono HB2.out.size))
            have HY3 := Lib.hid ((HBK.out.below hb3 HBK.out.lt).ints)
            cases ok
            · exact absurd HLT.out (h4 rfl)
            · obtain ⟨A3, c3, rfl, -, hin3, -⟩ := (h3 rfl).2.slice
              have HIN3 := Lib.hid hin3
              rw [toI_length, HCL.out]
              have KM := Lib.hid (same_any (some ⟨g, 0, none⟩) A3 m m m c3 (toI (counts l t)) (toI (counts l t)) w3 (by rw [toI_length]; exact HCL.out) (by rw [toI_length]; exact HCL.out) ⟨by omega, by omega⟩ HY3.out HIN3.out)
              rw [decide_eq_true rfl] at KM
              clear h3 h4 hin3 hb3
              go_wp2_with fail
              refine (KM.out).mono ?_
              rintro e w4 ⟨rfl, hb4⟩
              have HB4 := Lib.hid (HB3.out.trans (hb4.mono HB3.out.size))
              have KV := Lib.hid (lives3_any w4 (tabsAt.out HB4.out))
              clear hb4
              go_wp2_with fail
              refine (KV.out).mono ?_
              rintro e w5 ⟨rfl, hb5⟩
              have HB5 := Lib.hid (HB4.out.trans (hb5.mono HB4.out.size))
              clear hb5
              go_wp2_with fail
              go_ret
              exact ⟨rfl, HB5.out⟩
          · have HNO := Lib.hid hno
            clear hb2 hno
            go_wp2_with fail
            refine (KS.out).mono ?_
            rintro e w3 ⟨rfl, rfl⟩
            go_wp2_with fail
            refine (KR.out).mono ?_
            rintro e w3 ⟨hb3, v, ok, rfl, h3, h4⟩
            have HB3 := Lib.hid (HB2.out.trans (hb3.mono HB2.out.size))
            cases ok
            · have KV := Lib.hid (lives3_any w3 (tabsAt.out HB3.out))
              clear h3 h4 hb3
              go_wp2_with fail
              refine (KV.out).mono ?_
              rintro e w4 ⟨rfl, hb4⟩
              have HB4 := Lib.hid (HB3.out.trans (hb4.mono HB3.out.size))
              clear hb4
              go_wp2_with fail
              go_ret
              exact ⟨rfl, HB4.out⟩
            · exact absurd (h3 rfl).1 HNO.out

end Go.Proofs.YthboolnacmpmlaaGreatDoor
#print axioms Go.Proofs.YthboolnacmpmlaaGreatDoor.bags_law
