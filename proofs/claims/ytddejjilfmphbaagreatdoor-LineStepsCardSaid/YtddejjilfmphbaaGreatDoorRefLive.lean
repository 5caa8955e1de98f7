/- The document's Live. -/
import Derived.Test.YtddejjilfmphbaaGreatDoorRefGraph
namespace Go.Proofs.YtddejjilfmphbaaGreatDoor
open Go.RowKit Go.Sort

set_option maxHeartbeats 4000000 in
theorem refLive_any (m : Nat) (A : Option Addr) (n c : Nat) (l : List Arc) (w : World) (hm : m ≤ 16) (hn : l.length = n) (hbig : n ≤ 1000000) (hA : ArcsAt w A l) :
    Calls Tryz.prog 11 #[.int .i64 (m : Int), .slice A n c] w fun e w' => e = .returned (.bool (liveB m l)) ∧ w = w' := by
  have HN := Lib.hid hn
  have HA := Lib.hid hA
  clear hn hA
  go_enter Tryz.func11, Tryz.ntmps11
  go_wp2
  go_loop [5] (fun i => ∃ k : Nat, k ≤ m ∧ i = .int .i64 k ∧ liveB k l = true) (fun i => m - (intOf i).toNat)
  case atStart => exact ⟨0, Nat.zero_le _, rfl, rfl⟩
  case round =>
    obtain ⟨k, hk, rfl, hlv⟩ := hrel
    have HLV := Lib.hid hlv
    clear hlv
    by_cases hlt : k < m
    · go_wp2_with fail
      go_loop [6, 7] (fun f j => ∃ q : Nat, q ≤ n ∧ j = .int .i64 q ∧ f = .bool (toB (l.take q) k)) (fun _ j => n - (intOf j).toNat)
      case atStart => exact ⟨0, Nat.zero_le _, rfl, rfl⟩
      case round =>
        obtain ⟨q, hq, rfl, rfl⟩ := hrel
        by_cases hqn : q < n
        · have hl : q < l.length := by have := HN.out; omega
          obtain ⟨b, off, rfl, hbl, hps⟩ := HA.out (by intro e; subst e; simp at hl)
          obtain ⟨q0, q1, q2⟩ := hps q _ (List.getElem?_eq_getElem hl)
          have HT := Lib.hid (fun h => toB_take (i := k) hl h)
          have HF : Hid (toB (l.take q) k = true → toB (l.take (q + 1)) k = true) := Lib.hid fun h => by
            rw [List.take_succ_eq_append_getElem hl]
            unfold toB at *
            rw [List.any_append, h]; rfl
          clear hps hbl
          generalize l[q] = a at *
          obtain ⟨f, t, d⟩ := a
          simp only at q0 q1 q2
          generalize toB (l.take q) k = r at *
          cases r with
          | true =>
            have HF2 := Lib.hid (HF.out rfl)
            clear HF HT
            go_wp2_with fail
            go_round
            case rel => exact ⟨q + 1, by omega, by go_num, by rw [HF2.out]⟩
            case measure => simp [intOf]; omega
          | false =>
            have HF2 := Lib.hid (HT.out rfl)
            clear HF HT
            by_cases ht : t = (k : Int)
            · have h1 : (t == (k : Int)) = true := by simp [ht]
              have HT2 : Hid (toB (l.take (q + 1)) k = true) := Lib.hid (by rw [HF2.out]; simpa using ht)
              clear ht HF2
              go_wp2_with fail
              go_round
              case rel => exact ⟨q + 1, by omega, by go_num, by rw [HT2.out]⟩
              case measure => simp [intOf]; omega
            · have h1 : (t == (k : Int)) = false := by simp [ht]
              have HT2 : Hid (toB (l.take (q + 1)) k = false) := Lib.hid (by rw [HF2.out]; simpa using ht)
              clear ht HF2
              go_wp2_with fail
              go_round
              case rel => exact ⟨q + 1, by omega, by go_num, by rw [HT2.out]⟩
              case measure => simp [intOf]; omega
        · obtain rfl : q = n := by omega
          have HT : Hid (toB (l.take q) k = toB l k) := Lib.hid (by rw [List.take_of_length_le (by have := HN.out; omega)])
          rw [HT.out]
          have HNO : Hid (toB l k = false → liveB m l = false) := Lib.hid fun h => by
            unfold liveB
            rw [List.all_eq_false]
            exact ⟨k, List.mem_range.2 hlt, by simp [h]⟩
          have HYES : Hid (toB l k = true → liveB (k + 1) l = true) := Lib.hid fun h => by rw [liveB_succ, HLV.out, h]; rfl
          clear HT
          generalize toB l k = r at *
          cases r with
          | true =>
            have HY2 := Lib.hid (HYES.out rfl)
            clear HNO HYES
            go_wp2_with fail
            go_round
            case rel => exact ⟨k + 1, by omega, by go_num, HY2.out⟩
            case measure => simp [intOf]; omega
          | false =>
            have HY2 := Lib.hid (HNO.out rfl)
            clear HNO HYES
            go_wp2_with fail
            go_ret
            exact ⟨ret_bool HY2.out.symm, rfl⟩
    · obtain rfl : k = m := by omega
      go_wp2_with fail
      go_ret
      exact ⟨ret_bool HLV.out.symm, rfl⟩
end Go.Proofs.YtddejjilfmphbaaGreatDoor
