/- Bags: WholeSylvester's walk. -/
import Derived.Test.YthboolnacmpmlaaGreatDoorSylv
import Derived.Test.YthboolnacmpmlaaGreatDoorBagBags
import Derived.Test.YthboolnacmpmlaaGreatDoorLives3
import Derived.Test.YthboolnacmpmlaaGreatDoorBagCut
namespace Go.Proofs.YthboolnacmpmlaaGreatDoor
open Go.RowKit Bag

theorem fold_any (v : Int) (n : Nat) (w : World) (_ : -9223372036854775808 ≤ v ∧ v ≤ 9223372036854775807) (hn : 1 ≤ n ∧ n ≤ 100000) :
    Calls Tryz.prog 19 #[.int .i64 v, .int .i64 n] w fun e w' => ∃ r : Nat, r < n ∧ e = .returned (.int .i64 r) ∧ w = w' := by
  have h1 : -(n : Int) < v.tmod n ∧ v.tmod n < n := by
    have a := Int.tmod_lt_of_pos v (b := (n : Int)) (by omega)
    have b := Int.lt_tmod_of_pos v (b := (n : Int)) (by omega)
    exact ⟨b, a⟩
  obtain ⟨h2, h3⟩ := h1
  have hr : ∃ r : Nat, r < n ∧ (v.tmod n + n) % n = r := by
    have a := Int.emod_nonneg (v.tmod n + n) (b := (n : Int)) (by omega)
    have b := Int.emod_lt_of_pos (v.tmod n + n) (b := (n : Int)) (by omega)
    exact ⟨((v.tmod n + n) % n).toNat, by omega, by omega⟩
  obtain ⟨r, hr1, hr2⟩ := hr
  have HR := Lib.hid hr2
  clear hr2
  go_enter Tryz.func19, Tryz.ntmps19
  go_wp2
  go_ret
  exact ⟨r, hr1, ret_int (HR.out), rfl⟩

theorem ints2 (W : World) (p q : Nat) : Ints (W.alloc (.cells #[.int .i64 p, .int .i64 q] 3)) (some ⟨W.heap.size, 0, none⟩) (toI [p, q]) := (Blk.new W 3 (cellsOf (toI [p, q]))).ints
theorem count_succ (f : Nat → Bool) (k : Nat) : (List.range (k + 1)).countP f = (List.range k).countP f + (if f k then 1 else 0) := by
  rw [List.range_succ, List.countP_append, List.countP_singleton]

set_option maxHeartbeats 4000000 in
set_option maxRecDepth 100000 in
theorem sylvester_any (a b : Int) (w : World) (ha : -9223372036854775808 ≤ a ∧ a ≤ 9223372036854775807) (hb : -9223372036854775808 ≤ b ∧ b ≤ 9223372036854775807) (hT : Eng.Tabs tabs w) :
    Calls Tryz.prog 6 #[.int .i64 a, .int .i64 b] w fun e w' => e = .returned (.bool true) ∧ Below w.heap.size w w' := by
  have tabsAt : Hid (∀ {W : World}, Below w.heap.size w W → Eng.Tabs tabs W) := Lib.hid fun hb => tabs_below hT hb
  have K1 := Lib.hid (fold_any a 60 w ha (by omega))
  have K2 := Lib.hid (fold_any b 60 w hb (by omega))
  clear ha hb hT
  go_enter Tryz.func6, Tryz.ntmps6
  go_wp2_with fail
  refine (K1.out).mono ?_
  rintro e w1 ⟨r0, hr0, rfl, rfl⟩
  go_wp2_with fail
  refine (K2.out).mono ?_
  rintro e w1 ⟨r1, hr1, rfl, rfl⟩
  go_wp2_with fail
  rw [show ((r0 : Int) + 1) = ((r0 + 1 : Nat) : Int) by push_cast; rfl, show ((r1 : Int) + 1) = ((r1 + 1 : Nat) : Int) by push_cast; rfl]
  have p1 : 1 ≤ r0 + 1 ∧ r0 + 1 ≤ 60 := by omega
  have q1 : 1 ≤ r1 + 1 ∧ r1 + 1 ≤ 60 := by omega
  clear hr0 hr1 K1 K2
  generalize r0 + 1 = p at *
  generalize r1 + 1 = q at *
  have HS : Hid (∀ x ∈ [p, q], 1 ≤ x ∧ x ≤ 60) := Lib.hid (by simp; omega)
  have HS2 : Hid (∀ x ∈ [p, q], 1 ≤ x ∧ x ≤ 2000) := Lib.hid fun x hx => by have := HS.out x hx; omega
  refine (gcd_any _ 2 2 [p, q] _ rfl (by omega) (by omega) (ints2 w p q) (fun x hx => by have := HS.out x hx; omega)).mono ?_
  rintro e w1 ⟨rfl, hb1⟩
  have HB1 : Hid (Below w.heap.size w w1) := Lib.hid (((Below.refl _ w).alloc (Nat.le_refl _) _).trans (hb1.mono (by simp)))
  clear hb1
  have HG : Hid (1 ≤ gcdL [p, q]) := Lib.hid (gcdL_pos (by simp) (fun x hx => (HS.out x hx).1))
  by_cases hg : gcdL [p, q] = 1
  · rw [hg]
    have HG1 := Lib.hid hg
    clear hg HG
    go_wp2_with fail
    refine (frob_any _ 2 2 [p, q] _ rfl (by omega) (by omega) (ints2 w1 p q) HS2.out HG1.out).mono ?_
    rintro e w2 ⟨L, rfl, hap, hb2⟩
    obtain ⟨z1, z2⟩ := sylv p1.1 q1.1 HG1.out hap
    rw [z1]
    have HB2 : Hid (Below w.heap.size w w2) := Lib.hid (HB1.out.trans ((((Below.refl _ w1).alloc (Nat.le_refl _) _).trans (hb2.mono (by simp))).mono HB1.out.size))
    have HH := Lib.hid z2
    have hpq : ((p : Nat) : Int) * (q : Int) = ((p * q : Nat) : Int) := by push_cast; rfl
    have hm1 : p * q ≤ 3600 := Nat.le_trans (Nat.mul_le_mul p1.2 q1.2) (by omega)
    have hm2 : p + q ≤ p * q + 1 := by
      obtain ⟨a, rfl⟩ : ∃ a, p = a + 1 := ⟨p - 1, by omega⟩
      obtain ⟨b, rfl⟩ : ∃ b, q = b + 1 := ⟨q - 1, by omega⟩
      rw [Nat.mul_add, Nat.add_mul]; omega
    clear hb2 hap z1 z2
    generalize p * q = m at *
    go_wp2_with fail
    refine (lives3_any w2 (tabsAt.out HB2.out)).mono ?_
    rintro e w3 ⟨rfl, hb3⟩
    have HB3 := Lib.hid (HB2.out.trans (hb3.mono HB2.out.size))
    clear hb3 HB1 HB2
    go_wp2_with fail
    go_loopw [9, 10] (fun c i wr => ∃ k : Nat, (k : Int) ≤ (m : Int) - p - q + 1 ∧ i = .int .i64 k ∧ c = .int .i64 ((List.range k).countP (mkB [p, q]) : Nat) ∧ Below w.heap.size w wr) (fun _ i _ => ((m : Int) - p - q + 1 - intOf i).toNat)
    case atStart => exact ⟨0, by omega, rfl, rfl, HB3.out⟩
    case round =>
      clear HB3
      obtain ⟨k, hk, rfl, rfl, hbw⟩ := hrel
      have HBW := Lib.hid hbw
      clear hbw
      by_cases hlt : (k : Int) ≤ (m : Int) - p - q
      · have hcs := count_succ (mkB [p, q]) k
        have hcl : (List.range k).countP (mkB [p, q]) ≤ k := by
          have := List.countP_le_length (p := mkB [p, q]) (l := List.range k)
          simpa using this
        have HCS := Lib.hid hcs
        have HMk : Hid (best [p, q] k < never ↔ Bag.Mk [p, q] k) := Lib.hid (best_mk (fun x hx => (HS.out x hx).1) (by unfold never; omega))
        clear hcs
        generalize (List.range k).countP (mkB [p, q]) = x at *
        go_wp2_with fail
        refine (bags_any _ 2 2 [p, q] k _ rfl (by omega) (by omega) (ints2 wr p q) HS2.out (by omega)).mono ?_
        rintro e w4 ⟨hb4, h4⟩
        have HB4 : Hid (Below w.heap.size w w4) := Lib.hid (HBW.out.trans ((((Below.refl _ wr).alloc (Nat.le_refl _) _).trans (hb4.mono (by simp))).mono HBW.out.size))
        clear hb4
        rcases h4 with ⟨hlt4, g, rfl, -, -⟩ | ⟨hge4, rfl⟩
        · have HN : Hid ((List.range (k + 1)).countP (mkB [p, q]) = x + 1) := Lib.hid (by rw [HCS.out, mkB_true.2 (HMk.out.1 hlt4)]; rfl)
          clear hlt4 HMk HCS
          go_wp2_with fail
          go_roundw
          case rel => exact ⟨k + 1, by omega, by go_num, by rw [HN.out]; push_cast; rfl, HB4.out⟩
          case measure => simp [intOf]; omega
        · have HN : Hid ((List.range (k + 1)).countP (mkB [p, q]) = x) := Lib.hid (by rw [HCS.out, mkB_false.2 (fun h => hge4 (HMk.out.2 h))]; rfl)
          clear hge4 HMk HCS
          go_wp2_with fail
          go_roundw
          case rel => exact ⟨k + 1, by omega, by go_num, by rw [HN.out], HB4.out⟩
          case measure => simp [intOf]; omega
      · have hfin := HH.out k (by omega)
        have hkm : k ≤ 4000 := by omega
        generalize (List.range k).countP (mkB [p, q]) = x at *
        have hx : ((2 : Int) * (x : Int)) = k := by omega
        have hxk : x ≤ 4000 := by omega
        have hkk : (m : Int) - p - q + 1 = k := by omega
        go_wp2_with fail
        go_ret
        exact ⟨rfl, HBW.out⟩
  · have hg1 : decide ((1 : Int) < (gcdL [p, q] : Nat)) = true := by have := HG.out; simp; omega
    clear hg HG
    generalize gcdL [p, q] = gg at *
    go_wp2_with fail
    refine (lives3_any w1 (tabsAt.out HB1.out)).mono ?_
    rintro e w2 ⟨rfl, hb2⟩
    have HB2 := Lib.hid (HB1.out.trans (hb2.mono HB1.out.size))
    clear hb2
    go_wp2_with fail
    go_ret
    exact ⟨rfl, HB2.out⟩

end Go.Proofs.YthboolnacmpmlaaGreatDoor
