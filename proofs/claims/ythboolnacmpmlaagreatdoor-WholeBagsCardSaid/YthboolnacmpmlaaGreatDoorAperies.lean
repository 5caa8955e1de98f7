/- The law WholeAperies: a walk through all of it. -/
import Derived.Test.YthboolnacmpmlaaGreatDoorBagApery
import Derived.Test.YthboolnacmpmlaaGreatDoorLives3
namespace Go.Proofs.YthboolnacmpmlaaGreatDoor
open Go.RowKit Go.Sort Bag
attribute [local go_sem ↓] run_min_mn run_max_mx

theorem own_at {w : World} {base : Nat} {v : Value} {xs : List Int} (h : Own w base v xs) {i : Nat} (hi : i < xs.length) :
    ∃ g c, v = .slice (some ⟨g, 0, none⟩) xs.length c ∧ base ≤ g ∧ w.cell? ⟨g, i, none⟩ = some (.int .i64 xs[i]) ∧ w.frozen? ⟨g, i, none⟩ = false := by
  rcases h.2 with ⟨rfl, hn⟩ | ⟨g, cap, cur, rfl, hb, hg, hnc, _, hsz, ht⟩
  · omega
  · refine ⟨g, cap, rfl, hb, ?_, ?_⟩
    · rw [cell_of_row w g i cur _ (0, 0) hg]
      have h1 : (ints xs)[i]? = some (.int .i64 xs[i]) := by rw [ints_get, List.getElem?_eq_getElem hi]; rfl
      rw [← ht, List.getElem?_take] at h1
      split at h1
      · simpa using h1
      · cases h1
    · simp [World.frozen?, hg]
theorem own_set {w : World} {base g n c : Nat} {xs : List Int} (h : Own w base (.slice (some ⟨g, 0, none⟩) n c) xs) (i : Nat) (x : Int) :
    Own (w.setCell ⟨g, i, none⟩ (.int .i64 x)) base (.slice (some ⟨g, 0, none⟩) n c) (xs.set i x) := by
  unfold Own World.ownsRow at *
  obtain ⟨h1, h2⟩ := h
  refine ⟨by simp [ints], ?_⟩
  rcases h2 with ⟨e, hn⟩ | ⟨g', cap, cur, e, hb, hg, hnc, hcm, hsz, ht⟩
  · cases e
  · simp only [Value.slice.injEq, Option.some.injEq, Addr.mk.injEq, and_true] at e
    obtain ⟨rfl, e2, rfl⟩ := e
    right
    refine ⟨g, c, cur.setIfInBounds i (.int .i64 x), by rw [List.length_set, e2], hb, ?_, by rw [List.length_set]; exact hnc, hcm, by simpa using hsz, ?_⟩
    · simp [World.setCell, Array.getElem?_modify, hg]
    · rw [List.length_set, Array.toList_setIfInBounds, List.take_set, ht]
      simp [ints, List.map_set]

def foldV (v : Int) : Int := if 90 < v ∧ v ≤ 2000 then v % 90 + 1 else v
/-- The first k elements are folded. -/
def folded (zs : List Int) (k : Nat) : List Int := (zs.take k).map foldV ++ zs.drop k
theorem folded_length (zs : List Int) (k : Nat) : (folded zs k).length = zs.length := by simp [folded]; omega
theorem folded_get {zs : List Int} {k : Nat} (h : k < zs.length) : ∃ h' : k < (folded zs k).length, (folded zs k)[k] = zs[k] := by
  refine ⟨by rw [folded_length]; exact h, ?_⟩
  simp only [folded]
  rw [List.getElem_append_right (by simp; omega)]
  simp [List.getElem_drop, Nat.min_eq_left (Nat.le_of_lt h)]
theorem folded_set {zs : List Int} {k : Nat} (h : k < zs.length) : (folded zs k).set k (foldV zs[k]) = folded zs (k + 1) := by
  simp only [folded]
  rw [List.set_append_right _ _ (by simp; omega), List.take_succ_eq_append_getElem h, List.map_append]
  rw [List.length_map, List.length_take, Nat.min_eq_left (Nat.le_of_lt h), Nat.sub_self, List.drop_eq_getElem_cons h, List.set_cons_zero]
  simp
theorem folded_same {zs : List Int} {k : Nat} (h : k < zs.length) (e : foldV zs[k] = zs[k]) : folded zs (k + 1) = folded zs k := by
  rw [← folded_set h, e]
  obtain ⟨h', e2⟩ := folded_get h
  rw [← e2]
  exact List.set_getElem_self h'
theorem folded_all (zs : List Int) : folded zs zs.length = zs.map foldV := by simp [folded]
theorem fold_le {zs : List Int} {l : List Nat} (h : zs.map foldV = toI l) (hs : ∀ x ∈ l, 1 ≤ x ∧ x ≤ 2000) : ∀ x ∈ l, 1 ≤ x ∧ x ≤ 90 := fun x hx => by
  have h1 := hs x hx
  have : (x : Int) ∈ zs.map foldV := by rw [h]; exact List.mem_map.2 ⟨x, hx, rfl⟩
  obtain ⟨v, _, hv⟩ := List.mem_map.1 this
  unfold foldV at hv
  split at hv
  · omega
  · omega

set_option maxHeartbeats 4000000 in
set_option maxRecDepth 100000 in
theorem aperies_any (A : Option Addr) (n c : Nat) (xs : List Int) (w : World) (hn : xs.length = n) (hc : n ≤ c) (hbig : n ≤ 9223372036854775807) (hx : Ints w A xs) (hw : ∀ x ∈ xs, -9223372036854775808 ≤ x ∧ x ≤ 9223372036854775807) (hT : Eng.Tabs tabs w) :
    Calls Tryz.prog 4 #[.slice A n c] w fun e w' => e = .returned (.bool true) ∧ Below w.heap.size w w' := by
  have K := Lib.hid (cut_any A n c 9 xs w hn hc hbig (by omega) hx)
  have HT := Lib.hid hT
  have HW : Hid (∀ x ∈ xs.take 9, -9223372036854775808 ≤ x ∧ x ≤ 9223372036854775807) := Lib.hid fun x hx => hw x (List.mem_of_mem_take hx)
  have HL9 : Hid ((xs.take 9).length ≤ 9) := Lib.hid (by simp; omega)
  clear hn hx hw hT hc hbig
  generalize xs.take 9 = zs at *
  go_enter Tryz.func4, Tryz.ntmps4
  go_wp2_with fail
  refine ((K).out).mono ?_
  rintro e w1 ⟨v, rfl, hown, hb1⟩
  obtain ⟨A1, c1, rfl, hc1, -, -⟩ := hown.slice
  have HO := Lib.hid hown
  have HB1 := Lib.hid hb1
  have h9 := HL9.out
  have HF0 : Hid (folded zs 0 = zs) := Lib.hid (by simp [folded])
  clear hown hb1 K HL9
  generalize hk : zs.length = q at *
  have HQ := Lib.hid hk
  clear hk
  go_wp2_with fail
  go_loopw [4] (fun i wr => ∃ k : Nat, k ≤ q ∧ i = .int .i64 k ∧ Own wr w.heap.size (.slice A1 q c1) (folded zs k) ∧ Below w.heap.size w wr) (fun i _ => q - (intOf i).toNat)
  case atStart => exact ⟨0, Nat.zero_le _, rfl, by rw [HF0.out]; exact HO.out, HB1.out⟩
  case round =>
    clear HO HB1
    obtain ⟨k, hk, rfl, hown, hbw⟩ := hrel
    by_cases hlt : k < q
    · have hl : k < zs.length := by have := HQ.out; omega
      obtain ⟨hl', hget⟩ := folded_get hl
      obtain ⟨g, c2, e, hg, hcell, hfro⟩ := own_at hown hl'
      simp only [Value.slice.injEq] at e
      obtain ⟨rfl, -, -⟩ := e
      rw [hget] at hcell
      have HSet := Lib.hid (folded_set hl)
      have HSame := Lib.hid (folded_same hl)
      obtain ⟨z1, z2⟩ := HW.out _ (List.getElem_mem hl)
      have HOwn := Lib.hid hown
      have HBW := Lib.hid hbw
      clear hget hown hbw
      generalize zs[k] = z at *
      by_cases h90 : 90 < z
      · by_cases h2000 : z ≤ 2000
        · have hf : foldV z = z % 90 + 1 := by unfold foldV; rw [if_pos ⟨h90, h2000⟩]
          have HS2 : Hid (Own (wr.setCell ⟨g, k, none⟩ (.int .i64 (z % 90 + 1))) w.heap.size (.slice (some ⟨g, 0, none⟩) q c1) (folded zs (k + 1))) := Lib.hid (by
            rw [← HSet.out, hf]; exact own_set HOwn.out k _)
          clear hf
          have hmod1 : 0 ≤ z % 90 := by omega
          have hmod2 : z % 90 < 90 := by omega
          go_wp2_with fail
          go_roundw
          case rel => exact ⟨k + 1, by omega, by go_num, HS2.out, HBW.out.setCell hg _⟩
          case measure => simp [intOf]; omega
        · have hf : foldV z = z := by unfold foldV; rw [if_neg (by omega)]
          have HF := Lib.hid hf
          clear hf
          go_wp2_with fail
          go_roundw
          case rel => exact ⟨k + 1, by omega, by go_num, by rw [HSame.out HF.out]; exact HOwn.out, HBW.out⟩
          case measure => simp [intOf]; omega
      · have hf : foldV z = z := by unfold foldV; rw [if_neg (by omega)]
        have HF := Lib.hid hf
        clear hf
        go_wp2_with fail
        go_roundw
        case rel => exact ⟨k + 1, by omega, by go_num, by rw [HSame.out HF.out]; exact HOwn.out, HBW.out⟩
        case measure => simp [intOf]; omega
    · obtain rfl : k = q := by omega
      have hfa : folded zs k = zs.map foldV := by rw [← HQ.out]; exact folded_all zs
      rw [hfa] at hown
      obtain ⟨A2, c2, e, -, hin, -⟩ := hown.slice
      have hlen : (zs.map foldV).length = k := by rw [List.length_map]; exact HQ.out
      rw [hlen] at e
      simp only [Value.slice.injEq] at e
      obtain ⟨rfl, -, rfl⟩ := e
      have HIN := Lib.hid hin
      have HLEN := Lib.hid hlen
      have HBW := Lib.hid hbw
      have hbig9 : k ≤ 1000 := by omega
      clear hown hin hlen hfa hbw HW HF0
      have HFold : Hid (∀ l, zs.map foldV = toI l → (∀ x ∈ l, 1 ≤ x ∧ x ≤ 2000) → ∀ x ∈ l, 1 ≤ x ∧ x ≤ 90) := Lib.hid fun l h1 h2 => fold_le h1 h2
      generalize zs.map foldV = ys at *
      have tabsAt : ∀ {W : World}, Below w.heap.size w W → Eng.Tabs tabs W := fun hb => tabs_below HT.out hb
      cases hsz : sizesB ys
      · have HSZ := Lib.hid hsz
        clear hsz
        go_wp2_with fail
        refine (apery_bad A1 k c1 ys wr HLEN.out (by omega) HIN.out HSZ.out).mono ?_
        rintro e w2 ⟨rfl, hb2⟩
        have HB2 := Lib.hid (HBW.out.trans (hb2.mono HBW.out.size))
        have HIN2 := Lib.hid (HIN.out.below hb2)
        clear hb2
        go_wp2_with fail
        refine (frob_bad A1 k c1 ys w2 HLEN.out (by omega) HIN2.out HSZ.out).mono ?_
        rintro e w3 ⟨rfl, hb3⟩
        have HB3 := Lib.hid (HB2.out.trans (hb3.mono HB2.out.size))
        have HIN3 := Lib.hid (HIN2.out.below hb3)
        clear hb3
        go_wp2_with fail
        refine (sizes_any A1 k c1 ys w3 HLEN.out (by omega) HIN3.out).mono ?_
        rintro e w4 ⟨rfl, rfl⟩
        rw [HSZ.out]
        go_wp2_with fail
        refine (lives3_any w3 (tabsAt HB3.out)).mono ?_
        rintro e w4 ⟨rfl, hb4⟩
        have HB4 := Lib.hid (HB3.out.trans (hb4.mono HB3.out.size))
        clear hb4
        go_wp2_with fail
        go_ret
        exact ⟨rfl, HB4.out⟩
      · obtain ⟨l, rfl, hl1, hl8, hb2000⟩ := sizes_nat hsz
        have hb90 := HFold.out l rfl hb2000
        have hlk : l.length = k := by rw [← toI_length]; exact HLEN.out
        have HSZ := Lib.hid hsz
        have H2000 := Lib.hid hb2000
        have H90 := Lib.hid hb90
        have HLK := Lib.hid hlk
        have hk1 : 1 ≤ k := by omega
        have hk8 : k ≤ 8 := by omega
        have hgp := gcdL_pos hl1 (fun x hx => (hb90 x hx).1)
        clear hsz hb2000 hb90 hlk HFold hl1 hl8
        by_cases hg : gcdL l = 1
        · have HG := Lib.hid hg
          clear hg hgp
          have HMost : Hid (∀ L, Aperys (leastL l) l L → mostL L ≤ 4000000) := Lib.hid fun L h => Aperys.most ⟨(H90.out _ (leastL_mem (by intro e; have := HLK.out; subst e; simp at this; omega))).1, (H2000.out _ (leastL_mem (by intro e; have := HLK.out; subst e; simp at this; omega))).2⟩ (fun x hx => (H2000.out x hx).2) h
          have HLe : Hid (leastL l ≤ 2000) := Lib.hid (H2000.out _ (leastL_mem (by intro e; have := HLK.out; subst e; simp at this; omega))).2
          go_wp2_with fail
          refine (apery_any A1 k c1 l wr HLK.out hk1 hk8 HIN.out H2000.out HG.out).mono ?_
          rintro e w2 ⟨g2, L, rfl, hap, hge, hBk, hb2⟩
          have HAP := Lib.hid hap
          have HLL : Hid ((toI L).length = leastL l) := Lib.hid (by rw [toI_length]; exact hap.len)
          have HB2 := Lib.hid (HBW.out.trans (hb2.mono HBW.out.size))
          have HIN2 := Lib.hid (HIN.out.below hb2)
          have HIL2 := Lib.hid hBk.ints
          clear hb2 hap hge hBk
          go_wp2_with fail
          refine (frob_any A1 k c1 l w2 HLK.out hk1 hk8 HIN2.out H2000.out HG.out).mono ?_
          rintro e w3 ⟨L', rfl, hap', hb3⟩
          have hLL : L' = L := hap'.same HAP.out
          subst hLL
          have HB3 := Lib.hid (HB2.out.trans (hb3.mono HB2.out.size))
          have HIN3 := Lib.hid (HIN2.out.below hb3)
          have HIL3 := Lib.hid (HIL2.out.below hb3)
          clear hb3 hap'
          go_wp2_with fail
          refine (sizes_any A1 k c1 (toI l) w3 HLEN.out (by omega) HIN3.out).mono ?_
          rintro e w4 ⟨rfl, rfl⟩
          rw [HSZ.out]
          go_wp2_with fail
          refine (gcd_any A1 k c1 l w3 HLK.out (by omega) hbig9 HIN3.out (fun x hx => by have := (H2000.out x hx).2; omega)).mono ?_
          rintro e w5 ⟨rfl, hb5⟩
          rw [HG.out]
          have HB5 := Lib.hid (HB3.out.trans (hb5.mono HB3.out.size))
          have HIN5 := Lib.hid (HIN3.out.below hb5)
          have HIL5 := Lib.hid (HIL3.out.below hb5)
          clear hb5
          go_wp2_with fail
          refine (ref_any A1 k c1 l w5 HLK.out (by omega) hbig9 HIN5.out (fun x hx => by have := H90.out x hx; omega) HG.out).mono ?_
          rintro e w6 ⟨v, L2, rfl, hap2, hown2, hb6⟩
          have hLL : L2 = L' := hap2.same HAP.out
          subst hLL
          obtain ⟨A2, c2, rfl, hc2, hin2, -⟩ := hown2.slice
          have HB6 := Lib.hid (HB5.out.trans (hb6.mono HB5.out.size))
          have HIN6 := Lib.hid (HIN5.out.below hb6)
          have HIL6 := Lib.hid (HIL5.out.below hb6)
          have HWN6 := Lib.hid hin2
          have hmost := HMost.out L2 HAP.out
          have hle := HLe.out
          rw [HLL.out] at hc2 ⊢
          clear hb6 hap2 hown2 hin2 HMost HLe
          have HML : Hid (L2.length = leastL l) := Lib.hid (by rw [← toI_length]; exact HLL.out)
          have KL := fun w hx => Lib.hid (least_any A1 k c1 l w HLK.out (by omega) (by omega) hx)
          generalize leastL l = m at *
          go_wp2_with fail
          go_loop [10, 11] (fun p i => ∃ j h : Nat, j ≤ m ∧ i = .int .i64 j ∧ p = .int .i64 h ∧ h = mostL (L2.take j)) (fun _ i => m - (intOf i).toNat)
          case atStart => exact ⟨0, 0, Nat.zero_le _, rfl, rfl, rfl⟩
          case round =>
            obtain ⟨j, h, hj, rfl, rfl, hh⟩ := hrel
            have HH := Lib.hid hh
            clear hh
            by_cases hlt2 : j < m
            · have hl : j < L2.length := by have := HML.out; omega
              obtain ⟨b', off', rfl, hcell⟩ := toI_at HWN6.out hl
              have HT2 : Hid (mostL (L2.take (j + 1)) = max h L2[j]) := Lib.hid (by rw [List.take_succ_eq_append_getElem hl, mostL_snoc, HH.out])
              generalize L2[j] = z at *
              have hmx := mx_nat h z
              clear KL
              go_wp2_with fail
              go_round
              case rel => exact ⟨j + 1, max h z, by omega, by go_num, rfl, HT2.out.symm⟩
              case measure => simp [intOf]; omega
            · have hmm : h = mostL L2 := by rw [HH.out, List.take_of_length_le (by have := HML.out; omega)]
              subst hmm
              clear HH
              go_wp2_with fail
              refine (same_any (some ⟨g2, 0, none⟩) A2 m m m c2 (toI L2) (toI L2) w6 HLL.out HLL.out (by omega) HIL6.out HWN6.out).mono ?_
              rintro e w7 ⟨rfl, hb7⟩
              have HB7 := Lib.hid (HB6.out.trans (hb7.mono HB6.out.size))
              have HIN7 := Lib.hid (HIN6.out.below hb7)
              have KL7 := KL w7 HIN7.out
              clear hb7 KL
              have hdec : decide (toI L2 = toI L2) = true := by simp
              rw [hdec]
              generalize mostL L2 = mo at *
              go_wp2_with fail
              refine (KL7.out).mono ?_
              rintro e w8 ⟨rfl, rfl⟩
              go_wp2_with fail
              refine (lives3_any w7 (tabsAt HB7.out)).mono ?_
              rintro e w9 ⟨rfl, hb9⟩
              have HB9 := Lib.hid (HB7.out.trans (hb9.mono HB7.out.size))
              clear hb9
              go_wp2_with fail
              go_ret
              exact ⟨rfl, HB9.out⟩
        · have hg1 : 1 < gcdL l := by omega
          have HG := Lib.hid hg1
          clear hg hgp hg1
          go_wp2_with fail
          refine (apery_none A1 k c1 l wr HLK.out hk1 hk8 HIN.out H2000.out HG.out).mono ?_
          rintro e w2 ⟨rfl, hb2⟩
          have HB2 := Lib.hid (HBW.out.trans (hb2.mono HBW.out.size))
          have HIN2 := Lib.hid (HIN.out.below hb2)
          clear hb2
          go_wp2_with fail
          refine (frob_none A1 k c1 l w2 HLK.out hk1 hk8 HIN2.out H2000.out HG.out).mono ?_
          rintro e w3 ⟨rfl, hb3⟩
          have HB3 := Lib.hid (HB2.out.trans (hb3.mono HB2.out.size))
          have HIN3 := Lib.hid (HIN2.out.below hb3)
          clear hb3
          go_wp2_with fail
          refine (sizes_any A1 k c1 (toI l) w3 HLEN.out (by omega) HIN3.out).mono ?_
          rintro e w4 ⟨rfl, rfl⟩
          rw [HSZ.out]
          go_wp2_with fail
          refine (gcd_any A1 k c1 l w3 HLK.out (by omega) hbig9 HIN3.out (fun x hx => by have := (H2000.out x hx).2; omega)).mono ?_
          rintro e w5 ⟨rfl, hb5⟩
          have HB5 := Lib.hid (HB3.out.trans (hb5.mono HB3.out.size))
          clear hb5
          have hgg : decide ((1 : Int) < (gcdL l : Nat)) = true := by
            have := HG.out
            simp; omega
          generalize gcdL l = gg at *
          go_wp2_with fail
          refine (lives3_any w5 (tabsAt HB5.out)).mono ?_
          rintro e w6 ⟨rfl, hb6⟩
          have HB6 := Lib.hid (HB5.out.trans (hb6.mono HB5.out.size))
          clear hb6
          go_wp2_with fail
          go_ret
          exact ⟨rfl, HB6.out⟩

end Go.Proofs.YthboolnacmpmlaaGreatDoor
