/- Bags: WholeMade's walk. -/
import Derived.Test.YthboolnacmpmlaaGreatDoorSizes
namespace Go.Proofs.YthboolnacmpmlaaGreatDoor
open Go.RowKit Go.Sort Bag

theorem and63 (n : Int) : bits .and .i64 n 63 = n % 64 := by
  have h63 : (BitVec.ofInt 64 63).toNat = 2 ^ 6 - 1 := by decide
  have key : (BitVec.ofInt 64 n &&& BitVec.ofInt 64 63).toNat = (n % ((2 ^ 64 : Nat) : Int)).toNat % 2 ^ 6 := by
    rw [BitVec.toNat_and, BitVec.toNat_ofInt, h63, Nat.and_two_pow_sub_one_eq_mod]
  show IntKind.i64.wrap ((BitVec.ofInt 64 n &&& BitVec.ofInt 64 63).toNat : Nat) = n % 64
  rw [key, IntKind.wrap_i64]
  omega

theorem dot_take : ∀ (cs l : List Nat) (k : Nat) (h1 : k < cs.length) (h2 : k < l.length), dot (cs.take (k + 1)) l = dot (cs.take k) l + cs[k] * l[k]
  | [], _, _, h, _ => by simp at h
  | _ :: _, [], _, _, h => by simp at h
  | c :: cs, s :: l, 0, _, _ => by simp [dot]
  | c :: cs, s :: l, k + 1, h1, h2 => by
    have := dot_take cs l k (by simpa using h1) (by simpa using h2)
    simp only [List.take_succ_cons, dot, List.getElem_cons_succ] at this ⊢
    omega
theorem dot_take_le : ∀ (cs l : List Nat) (k : Nat), dot (cs.take k) l ≤ dot cs l
  | [], _, _ => by simp
  | _ :: _, [], k => by cases k <;> simp [dot]
  | _ :: _, _ :: _, 0 => by simp [dot]
  | c :: cs, s :: l, k + 1 => by
    have := dot_take_le cs l k
    simp only [List.take_succ_cons, dot]
    omega

/-- The other counts. -/
def oth (xs : List Int) (i : Nat) : Nat := ((xs[i]?.getD 0) % 64).toNat
def oths (xs : List Int) (n : Nat) : List Nat := (List.range n).map (oth xs)
theorem oths_length (xs : List Int) (n : Nat) : (oths xs n).length = n := by simp [oths]
theorem oths_get {xs : List Int} {n i : Nat} (h : i < n) : ∃ h' : i < (oths xs n).length, (oths xs n)[i] = oth xs i := ⟨by simpa [oths] using h, by simp [oths]⟩
theorem oth_le (xs : List Int) (i : Nat) : oth xs i ≤ 63 := by unfold oth; omega
theorem oth_none {xs : List Int} {i : Nat} (h : xs.length ≤ i) : oth xs i = 0 := by unfold oth; rw [List.getElem?_eq_none h]; rfl
theorem oth_at {xs : List Int} {i : Nat} (h : i < xs.length) : bits .and .i64 xs[i] 63 = (oth xs i : Nat) := by
  unfold oth; rw [and63, List.getElem?_eq_getElem h]; simp; omega
theorem oths_dot {xs : List Int} {n k : Nat} {l : List Nat} (h : k < n) (h2 : k < l.length) : dot ((oths xs n).take (k + 1)) l = dot ((oths xs n).take k) l + oth xs k * l[k] := by
  obtain ⟨h', e⟩ := oths_get (xs := xs) h
  rw [dot_take _ _ _ h' h2, e]
theorem oths_sum {xs : List Int} {n k : Nat} (h : k < n) : ((oths xs n).take (k + 1)).sum = ((oths xs n).take k).sum + oth xs k := by
  obtain ⟨h', e⟩ := oths_get (xs := xs) h
  rw [List.take_succ_eq_append_getElem h', List.sum_append, e]; simp
theorem oths_rest {xs : List Int} {n : Nat} : ∀ j k, xs.length ≤ k → k + j = n → ((oths xs n).take k).sum = (oths xs n).sum
  | 0, k, _, e => by rw [List.take_of_length_le (by rw [oths_length]; omega)]
  | j + 1, k, h, e => by
    have := oths_rest (xs := xs) (n := n) j (k + 1) (by omega) (by omega)
    rw [oths_sum (by omega), oth_none h] at this
    omega
theorem sum_mem {l : List Nat} {x : Nat} (h : x ∈ l) : x ≤ l.sum := by
  induction l with
  | nil => cases h
  | cons y l ih =>
    rw [List.sum_cons]
    rcases List.mem_cons.1 h with rfl | h
    · omega
    · have := ih h; omega

theorem mk_iff {l L : List Nat} {t : Nat} (h0 : l ≠ []) (hA : Aperys (leastL l) l L) (h1 : 1 ≤ leastL l) : Mk l t ↔ at_ L (t % leastL l) ≤ t := by
  constructor
  · exact hA.least t
  · intro h
    obtain ⟨a, b⟩ := hA.made (t % leastL l) (Nat.mod_lt _ h1)
    obtain ⟨k, hk⟩ := Nat.dvd_of_mod_eq_zero (Nat.sub_mod_eq_zero_of_mod_eq b.symm)
    have e : t = at_ L (t % leastL l) + k * leastL l := by rw [Nat.mul_comm]; omega
    rw [e]
    exact a.plus (Mk.times (leastL_mem h0) k)

set_option maxHeartbeats 8000000 in
set_option maxRecDepth 100000 in
theorem made_law (A0 : Option Addr) (n0 c0 : Nat) (xs0 : List Int) (a : Int) (A2 : Option Addr) (n2 c2 : Nat) (xs2 : List Int) (w : World)
    (hn0 : xs0.length = n0) (hb0 : n0 ≤ 9223372036854775807) (hw0 : ∀ x ∈ xs0, -9223372036854775808 ≤ x ∧ x ≤ 9223372036854775807) (hx0 : Ints w A0 xs0) (ha : -9223372036854775808 ≤ a ∧ a ≤ 9223372036854775807)
    (hn2 : xs2.length = n2) (hb2 : n2 ≤ 9223372036854775807) (hw2 : ∀ x ∈ xs2, -9223372036854775808 ≤ x ∧ x ≤ 9223372036854775807) (hx2 : Ints w A2 xs2) (hT : Eng.Tabs tabs w) :
    Calls Tryz.prog 5 #[.slice A0 n0 c0, .int .i64 a, .slice A2 n2 c2] w fun e w' => e = .returned (.bool true) ∧ Below w.heap.size w w' := by
  have tabsAt : Hid (∀ {W : World}, Below w.heap.size w W → Eng.Tabs tabs W) := Lib.hid fun hb => tabs_below hT hb
  have K1 := Lib.hid (listed_any A0 n0 c0 xs0 w hn0 hb0 hx0 hw0)
  have KF := fun w => Lib.hid (fold_any a 20000 w ha (by omega))
  have HX2 := Lib.hid hx2
  have HN2 := Lib.hid hn2
  have HW2 := Lib.hid hw2
  clear hn0 hb0 hw0 hx0 ha hT hx2 hn2 hw2
  go_enter Tryz.func5, Tryz.ntmps5
  go_wp2_with fail
  refine (K1.out).mono ?_
  rintro e w1 ⟨l, v, rfl, hown, hb1, hl1, hl6, hs, hg⟩
  obtain ⟨A1, c1, rfl, hc1, hin, -⟩ := hown.slice
  rw [toI_length] at hc1 ⊢
  have HB1 := Lib.hid hb1
  have HIN := Lib.hid hin
  have HS := Lib.hid hs
  have HG := Lib.hid hg
  have HS2 : Hid (∀ x ∈ l, 1 ≤ x ∧ x ≤ 2000) := Lib.hid fun x hx => by have := hs x hx; omega
  have HNE : Hid (l ≠ []) := Lib.hid (by intro e; subst e; simp at hl1)
  have KF1 := KF w1
  clear hown hb1 hin hs hg K1 KF
  generalize hq : l.length = n at *
  have HQ := Lib.hid hq
  clear hq
  go_wp2_with fail
  refine (KF1.out).mono ?_
  rintro e w2 ⟨t, ht, rfl, rfl⟩
  clear KF1
  go_wp2_with fail
  refine (apery_any A1 n c1 l w1 HQ.out hl1 (by omega) HIN.out HS2.out HG.out).mono ?_
  rintro e w2 ⟨g2, L, rfl, hap, hge, hBk, hb2'⟩
  have HLe := (HS2.out _ (leastL_mem HNE.out))
  have hm1 := HLe.1
  have hm2 := HLe.2
  have HMK : Hid (∀ t, Bag.Mk l t ↔ at_ L (t % leastL l) ≤ t) := Lib.hid fun t => mk_iff HNE.out hap hm1
  have HB2 := Lib.hid (HB1.out.trans (hb2'.mono HB1.out.size))
  have HIN2 := Lib.hid (HIN.out.below hb2')
  have HLL : Hid (L.length = leastL l) := Lib.hid hap.len
  have HBD : Hid (∀ r, r < leastL l → at_ L r ≤ 4000000) := Lib.hid fun r hr => by
    have := hap.bound (b := 2000) (by omega) (fun x hx => (HS2.out x hx).2) r hr
    exact Nat.le_trans this (Nat.le_trans (Nat.mul_le_mul_right 2000 (show leastL l - 1 ≤ 2000 by omega)) (by omega))
  have HBK := Lib.hid hBk
  clear hap hge hb2' hBk HLe HIN HB1
  go_wp2_with fail
  refine (bags_any A1 n c1 l t w2 HQ.out hl1 (by omega) HIN2.out HS2.out (by omega)).mono ?_
  rintro e w3 ⟨hb3, h3⟩
  have HB3 := Lib.hid (HB2.out.trans (hb3.mono HB2.out.size))
  have HIN3 := Lib.hid (HIN2.out.below hb3)
  have HBK3 := Lib.hid (HBK.out.below hb3 HBK.out.lt)
  have hrt : t % leastL l < leastL l := Nat.mod_lt _ hm1
  have hcell : w3.cell? ⟨g2, t % leastL l, none⟩ = some (.int .i64 (at_ L (t % leastL l) : Nat)) := by
    rw [HBK3.out.cell, toI_at_ (by rw [HLL.out]; exact hrt)]
  have hat := HBD.out _ hrt
  have hmodc : ((t : Nat) : Int) % (leastL l : Nat) = ((t % leastL l : Nat) : Int) := by push_cast; rfl
  have HBM : Hid (best l t < never ↔ at_ L (t % leastL l) ≤ t) := Lib.hid ((best_mk (fun x hx => (HS2.out x hx).1) (by unfold never; omega)).trans (HMK.out t))
  have KL := Lib.hid (least_any A1 n c1 l w3 HQ.out (by omega) (by omega) HIN3.out)
  have KV := Lib.hid (lives3_any w3 (tabsAt.out HB3.out))
  clear hb3 HBK HBK3 HB2 HIN2 HBD HMK HLL
  generalize at_ L (t % leastL l) = y at *
  generalize t % leastL l = r at *
  generalize leastL l = m at *
  rcases h3 with ⟨hlt3, g4, rfl, hge4, hbk4⟩ | ⟨hge3, rfl⟩
  · have hyt : y ≤ t := HBM.out.1 hlt3
    have HLT := Lib.hid hlt3
    have HBK4 := Lib.hid hbk4
    have hcl := counts_length l t
    rw [HQ.out]
    clear hlt3 hbk4 hge4 HBM
    go_wp2_with fail
    refine (KL.out).mono ?_
    rintro e w4 ⟨rfl, rfl⟩
    go_wp2_with fail
    refine (KV.out).mono ?_
    rintro e w4 ⟨rfl, hb4⟩
    have HB4 := Lib.hid (HB3.out.trans (hb4.mono HB3.out.size))
    have HIN4 := Lib.hid (HIN3.out.below hb4)
    have HBL4 := Lib.hid (HBK4.out.below hb4 HBK4.out.lt)
    clear hb4 hcell
    go_wp2_with fail
    have HCL : Hid ((counts l t).length = n) := Lib.hid (by rw [counts_length, HQ.out])
    have HDS := Lib.hid (counts_sum l t (fun x hx => (HS2.out x hx).1) HLT.out).2
    go_loopw [12, 13, 14] (fun s o i wr => ∃ k x2 y2 : Nat, k ≤ n ∧ i = .int .i64 k ∧ s = .int .i64 x2 ∧ x2 = dot ((counts l t).take k) l ∧ o = .int .i64 y2 ∧ y2 = dot ((oths xs2 n).take k) l ∧ y2 ≤ k * 18963 ∧ Below w4.heap.size w4 wr) (fun _ _ i _ => n - (intOf i).toNat)
    case atStart => exact ⟨0, 0, 0, Nat.zero_le _, rfl, rfl, by simp [dot], rfl, by simp [dot], by omega, Below.refl _ _⟩
    case round =>
      obtain ⟨k, x2, y2, hk, rfl, rfl, hx2', rfl, hy2, hyb, hbw⟩ := hrel
      have HX2' := Lib.hid hx2'
      have HY2 := Lib.hid hy2
      clear hy2 hx2'
      by_cases hlt : k < n
      · have hl : k < l.length := by rw [HQ.out]; exact hlt
        have hcl' : k < (counts l t).length := by rw [HCL.out]; exact hlt
        obtain ⟨b, off, rfl, hc⟩ := toI_at (HIN4.out.below hbw) hl
        have hz := HS.out _ (List.getElem_mem hl)
        have HDT := Lib.hid (oths_dot (xs := xs2) hlt hl)
        have HDX := Lib.hid (dot_take (counts l t) l k hcl' hl)
        have hxs : x2 + (counts l t)[k] * l[k] ≤ 20000 := by
          have h1 := dot_take_le (counts l t) l (k + 1)
          rw [HDX.out, HDS.out, ← HX2'.out] at h1
          omega
        have hcy : wr.cell? ⟨g4, k, none⟩ = some (.int .i64 ((counts l t)[k] : Nat)) := by
          rw [(HBL4.out.below hbw HBL4.out.lt).cell, toI_at_ hcl']
          simp [at_, List.getD, hcl']
        have hcd : wr.drew.cell? ⟨b, off + k, none⟩ = some (.int .i64 (l[k] : Nat)) := hc
        have hcyd : wr.drew.cell? ⟨g4, k, none⟩ = some (.int .i64 ((counts l t)[k] : Nat)) := hcy
        have hmul2 : (((counts l t)[k] : Nat) : Int) * (l[k] : Nat) = (((counts l t)[k] * l[k] : Nat) : Int) := by push_cast; rfl
        have HBW := Lib.hid hbw
        clear hbw
        by_cases hk2 : k < n2
        · have hlx : k < xs2.length := by rw [HN2.out]; exact hk2
          obtain ⟨b2, off2, rfl, hc2⟩ := (HX2.out.below (HB4.out.trans (HBW.out.mono HB4.out.size))).at_ hlx
          have hand := oth_at hlx
          have hle := oth_le xs2 k
          have hmul : ((oth xs2 k : Nat) : Int) * (l[k] : Nat) = ((oth xs2 k * l[k] : Nat) : Int) := by push_cast; rfl
          have hmle : oth xs2 k * l[k] ≤ 18963 := Nat.le_trans (Nat.mul_le_mul hle hz.2) (by omega)
          generalize oth xs2 k * l[k] = pr at *
          generalize (counts l t)[k] * l[k] = pc at *
          generalize xs2[k] = z2 at *
          generalize l[k] = z at *
          generalize (counts l t)[k] = cy at *
          generalize oth xs2 k = o at *
          go_wp2_with fail
          go_region
          all_goals
            go_wp2_with fail
            go_roundw
            case rel => exact ⟨k + 1, x2 + pc, y2 + pr, by omega, by go_num, by push_cast; rfl, by rw [HDX.out, HX2'.out], by push_cast; rfl, by rw [HDT.out, HY2.out], by omega, HBW.out.drew⟩
            case measure => simp [intOf]; omega
        · have h0 : oth xs2 k = 0 := oth_none (by rw [HN2.out]; omega)
          rw [h0, Nat.zero_mul, Nat.add_zero] at HDT
          generalize (counts l t)[k] * l[k] = pc at *
          generalize l[k] = z at *
          generalize (counts l t)[k] = cy at *
          clear h0
          go_wp2_with fail
          go_region
          all_goals
            go_wp2_with fail
            go_roundw
            case rel => exact ⟨k + 1, x2 + pc, y2, by omega, by go_num, by push_cast; rfl, by rw [HDX.out, HX2'.out], rfl, by have := HDT.out; have := HY2.out; omega, by omega, HBW.out.drew⟩
            case measure => simp [intOf]; omega
      · obtain rfl : k = n := by omega
        have hxt : x2 = t := by rw [HX2'.out, List.take_of_length_le (by rw [HCL.out]; omega)]; exact HDS.out
        subst hxt
        clear HX2' HDS HCL
        have hfo : y2 = dot (oths xs2 k) l := by rw [HY2.out, List.take_of_length_le (by rw [oths_length]; omega)]
        have HY3 := Lib.hid hfo
        clear hfo HY2
        have HB5 := Lib.hid (HB4.out.trans (hbw.mono HB4.out.size))
        have HIN5 := Lib.hid (HIN4.out.below hbw)
        clear hbw
        have hy6 : y2 ≤ 113778 := by omega
        go_wp2_with fail
        refine (bags_any A1 k c1 l y2 wr HQ.out hl1 (by omega) HIN5.out HS2.out (by omega)).mono ?_
        rintro e w6 ⟨hb6, h6⟩
        have HB6 := Lib.hid (HB5.out.trans (hb6.mono HB5.out.size))
        have HX6 := Lib.hid (HX2.out.below HB6.out)
        clear hb6
        have hbest : best l y2 < never := (best_mk (fun x hx => (HS2.out x hx).1) (by unfold never; omega)).2 (by rw [HY3.out]; exact dot_mk _ _)
        rcases h6 with ⟨-, g6, rfl, -, hbk6⟩ | ⟨hno, -⟩
        · have hmin : best l y2 ≤ (oths xs2 k).sum := by
            have := best_min l (oths xs2 k) (fun x hx => (HS2.out x hx).1) (by rw [oths_length, HQ.out])
            rw [← HY3.out] at this; exact this
          have hcs := (counts_sum l y2 (fun x hx => (HS2.out x hx).1) hbest).1
          have HLC : Hid ((counts l y2).length = k) := Lib.hid (by rw [counts_length, HQ.out])
          have HI6 := Lib.hid hbk6.ints
          rw [HQ.out]
          have HMN := Lib.hid hmin
          have HCS := Lib.hid hcs
          clear hbk6 hmin hcs hbest
          go_wp2_with fail
          obtain ⟨wo, rfl⟩ : ∃ wo : World, wo = w6 := ⟨_, rfl⟩
          go_loop [18, 19] (fun s i => ∃ j x : Nat, j ≤ k ∧ i = .int .i64 j ∧ s = .int .i64 x ∧ x = ((oths xs2 k).take j).sum ∧ x ≤ j * 63) (fun _ i => k - (intOf i).toNat)
          case atStart => exact ⟨0, 0, Nat.zero_le _, rfl, rfl, by simp, by omega⟩
          case round =>
            obtain ⟨j, x, hj, rfl, rfl, hx, hxb⟩ := hrel
            have HXX := Lib.hid hx
            clear hx
            by_cases hjk : j < k ∧ j < n2
            · obtain ⟨hj1, hj2⟩ := hjk
              have hlx : j < xs2.length := by rw [HN2.out]; exact hj2
              obtain ⟨b, off, rfl, hc⟩ := HX6.out.at_ hlx
              have hand := oth_at hlx
              have hle := oth_le xs2 j
              have HSM : Hid (((oths xs2 k).take (j + 1)).sum = x + oth xs2 j) := Lib.hid (by rw [oths_sum hj1, HXX.out])
              generalize xs2[j] = z at *
              generalize oth xs2 j = o at *
              go_wp2_with fail
              go_round
              case rel => exact ⟨j + 1, x + o, by omega, by go_num, by push_cast; rfl, HSM.out.symm, by omega⟩
              case measure => simp [intOf]; omega
            · have hfin : x = (oths xs2 k).sum := by
                rw [HXX.out]
                by_cases hjk2 : j < k
                · exact oths_rest (k - j) j (by rw [HN2.out]; omega) (by omega)
                · rw [List.take_of_length_le (by rw [oths_length]; omega)]
              have hle := HMN.out
              rw [← hfin] at hle
              have KS := Lib.hid (sum_any (some ⟨g6, 0, none⟩) k k (counts l y2) wo HLC.out (by omega) (fun u hu => by have := sum_mem hu; have := HCS.out; omega) HI6.out)
              rw [HCS.out] at KS
              clear hfin HXX HMN HCS
              generalize best l y2 = bb at *
              go_wp2_with fail
              all_goals
                refine (KS.out).mono ?_
                rintro e w7 ⟨rfl, rfl⟩
                go_wp2_with fail
                go_ret
                exact ⟨rfl, HB6.out⟩
        · exact absurd hbest hno
  · have hyt : ¬ y ≤ t := fun h => hge3 (HBM.out.2 h)
    have HGE := Lib.hid hge3
    clear hge3 HBM
    go_wp2_with fail
    refine (KL.out).mono ?_
    rintro e w4 ⟨rfl, rfl⟩
    go_wp2_with fail
    refine (KV.out).mono ?_
    rintro e w4 ⟨rfl, hb4⟩
    have HB4 := Lib.hid (HB3.out.trans (hb4.mono HB3.out.size))
    have HIN4 := Lib.hid (HIN3.out.below hb4)
    clear hb4 hcell
    go_wp2_with fail
    go_loopw [13, 14] (fun o i wr => ∃ k y2 : Nat, k ≤ n ∧ i = .int .i64 k ∧ o = .int .i64 y2 ∧ y2 = dot ((oths xs2 n).take k) l ∧ y2 ≤ k * 18963 ∧ Below w4.heap.size w4 wr) (fun _ i _ => n - (intOf i).toNat)
    case atStart => exact ⟨0, 0, Nat.zero_le _, rfl, rfl, by simp [dot], by omega, Below.refl _ _⟩
    case round =>
      obtain ⟨k, y2, hk, rfl, rfl, hy2, hyb, hbw⟩ := hrel
      have HY2 := Lib.hid hy2
      clear hy2
      by_cases hlt : k < n
      · have hl : k < l.length := by rw [HQ.out]; exact hlt
        obtain ⟨b, off, rfl, hc⟩ := toI_at (HIN4.out.below hbw) hl
        have hz := HS.out _ (List.getElem_mem hl)
        have HDT := Lib.hid (oths_dot (xs := xs2) hlt hl)
        have HBW := Lib.hid hbw
        clear hbw
        by_cases hk2 : k < n2
        · have hlx : k < xs2.length := by rw [HN2.out]; exact hk2
          obtain ⟨b2, off2, rfl, hc2⟩ := (HX2.out.below (HB4.out.trans (HBW.out.mono HB4.out.size))).at_ hlx
          have hand := oth_at hlx
          have hle := oth_le xs2 k
          have hmul : ((oth xs2 k : Nat) : Int) * (l[k] : Nat) = ((oth xs2 k * l[k] : Nat) : Int) := by push_cast; rfl
          have hmle : oth xs2 k * l[k] ≤ 18963 := Nat.le_trans (Nat.mul_le_mul hle hz.2) (by omega)
          generalize oth xs2 k * l[k] = pr at *
          generalize xs2[k] = z2 at *
          generalize l[k] = z at *
          generalize oth xs2 k = o at *
          go_wp2_with fail
          go_roundw
          case rel => exact ⟨k + 1, y2 + pr, by omega, by go_num, by push_cast; rfl, by rw [HDT.out, HY2.out], by omega, HBW.out⟩
          case measure => simp [intOf]; omega
        · have h0 : oth xs2 k = 0 := oth_none (by rw [HN2.out]; omega)
          rw [h0, Nat.zero_mul, Nat.add_zero] at HDT
          generalize l[k] = z at *
          clear h0
          go_wp2_with fail
          go_roundw
          case rel => exact ⟨k + 1, y2, by omega, by go_num, rfl, by have := HDT.out; have := HY2.out; omega, by omega, HBW.out⟩
          case measure => simp [intOf]; omega
      · obtain rfl : k = n := by omega
        have hfo : y2 = dot (oths xs2 k) l := by rw [HY2.out, List.take_of_length_le (by rw [oths_length]; omega)]
        have HY3 := Lib.hid hfo
        clear hfo HY2
        have HB5 := Lib.hid (HB4.out.trans (hbw.mono HB4.out.size))
        have HIN5 := Lib.hid (HIN4.out.below hbw)
        clear hbw
        have hy6 : y2 ≤ 113778 := by omega
        go_wp2_with fail
        refine (bags_any A1 k c1 l y2 wr HQ.out hl1 (by omega) HIN5.out HS2.out (by omega)).mono ?_
        rintro e w6 ⟨hb6, h6⟩
        have HB6 := Lib.hid (HB5.out.trans (hb6.mono HB5.out.size))
        have HX6 := Lib.hid (HX2.out.below HB6.out)
        clear hb6
        have hbest : best l y2 < never := (best_mk (fun x hx => (HS2.out x hx).1) (by unfold never; omega)).2 (by rw [HY3.out]; exact dot_mk _ _)
        rcases h6 with ⟨-, g6, rfl, -, hbk6⟩ | ⟨hno, -⟩
        · have hmin : best l y2 ≤ (oths xs2 k).sum := by
            have := best_min l (oths xs2 k) (fun x hx => (HS2.out x hx).1) (by rw [oths_length, HQ.out])
            rw [← HY3.out] at this; exact this
          have hcs := (counts_sum l y2 (fun x hx => (HS2.out x hx).1) hbest).1
          have HLC : Hid ((counts l y2).length = k) := Lib.hid (by rw [counts_length, HQ.out])
          have HI6 := Lib.hid hbk6.ints
          rw [HQ.out]
          have HMN := Lib.hid hmin
          have HCS := Lib.hid hcs
          clear hbk6 hmin hcs hbest
          go_wp2_with fail
          obtain ⟨wo, rfl⟩ : ∃ wo : World, wo = w6 := ⟨_, rfl⟩
          go_loop [18, 19] (fun s i => ∃ j x : Nat, j ≤ k ∧ i = .int .i64 j ∧ s = .int .i64 x ∧ x = ((oths xs2 k).take j).sum ∧ x ≤ j * 63) (fun _ i => k - (intOf i).toNat)
          case atStart => exact ⟨0, 0, Nat.zero_le _, rfl, rfl, by simp, by omega⟩
          case round =>
            obtain ⟨j, x, hj, rfl, rfl, hx, hxb⟩ := hrel
            have HXX := Lib.hid hx
            clear hx
            by_cases hjk : j < k ∧ j < n2
            · obtain ⟨hj1, hj2⟩ := hjk
              have hlx : j < xs2.length := by rw [HN2.out]; exact hj2
              obtain ⟨b, off, rfl, hc⟩ := HX6.out.at_ hlx
              have hand := oth_at hlx
              have hle := oth_le xs2 j
              have HSM : Hid (((oths xs2 k).take (j + 1)).sum = x + oth xs2 j) := Lib.hid (by rw [oths_sum hj1, HXX.out])
              generalize xs2[j] = z at *
              generalize oth xs2 j = o at *
              go_wp2_with fail
              go_round
              case rel => exact ⟨j + 1, x + o, by omega, by go_num, by push_cast; rfl, HSM.out.symm, by omega⟩
              case measure => simp [intOf]; omega
            · have hfin : x = (oths xs2 k).sum := by
                rw [HXX.out]
                by_cases hjk2 : j < k
                · exact oths_rest (k - j) j (by rw [HN2.out]; omega) (by omega)
                · rw [List.take_of_length_le (by rw [oths_length]; omega)]
              have hle := HMN.out
              rw [← hfin] at hle
              have KS := Lib.hid (sum_any (some ⟨g6, 0, none⟩) k k (counts l y2) wo HLC.out (by omega) (fun u hu => by have := sum_mem hu; have := HCS.out; omega) HI6.out)
              rw [HCS.out] at KS
              clear hfin HXX HMN HCS
              generalize best l y2 = bb at *
              go_wp2_with fail
              all_goals
                refine (KS.out).mono ?_
                rintro e w7 ⟨rfl, rfl⟩
                go_wp2_with fail
                go_ret
                exact ⟨rfl, HB6.out⟩
        · exact absurd hbest hno

end Go.Proofs.YthboolnacmpmlaaGreatDoor
