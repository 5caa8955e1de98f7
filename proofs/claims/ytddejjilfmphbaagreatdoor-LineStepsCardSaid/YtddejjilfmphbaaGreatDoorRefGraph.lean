/- The document's Graph, Live. -/
import Derived.Test.YtddejjilfmphbaaGreatDoorRefState
namespace Go.Proofs.YtddejjilfmphbaaGreatDoor
open Go.RowKit Go.Sort

theorem node_in (gn x : Int) : decide (0 ≤ x ∧ x ≤ gn - 1) = nodeB gn x := by
  unfold nodeB
  rw [Bool.eq_iff_iff]
  simp only [decide_eq_true_eq]
  omega
theorem anyWrong_take {gn : Int} {l : List Arc} {k : Nat} (hl : k < l.length) (h : anyWrong gn (l.take k) = false) : anyWrong gn (l.take (k + 1)) = wrongA gn l[k] := by
  rw [List.take_succ_eq_append_getElem hl]
  unfold anyWrong at *
  rw [List.any_append, h]; simp

set_option maxHeartbeats 4000000 in
theorem refGraph_any (gn : Int) (A : Option Addr) (n c : Nat) (l : List Arc) (w : World) (hn : l.length = n) (hbig : n ≤ 1000000) (hA : ArcsAt w A l) :
    Calls Tryz.prog 24 #[.int .i64 gn, .slice A n c] w fun e w' => e = .returned (.bool (graphB gn l)) ∧ w = w' := by
  have HN := Lib.hid hn
  have HA := Lib.hid hA
  clear hn hA
  by_cases h0 : (1 ≤ gn ∧ gn ≤ 16) ∧ n ≤ 256
  case neg =>
    have HG : Hid (graphB gn l = false) := Lib.hid (by have := HN.out; unfold graphB; rw [show decide (1 ≤ gn ∧ gn ≤ 16 ∧ l.length ≤ 256) = false by simp; omega]; rfl)
    by_cases h1 : 1 ≤ gn ∧ gn ≤ 16
    · have e1 : decide (1 ≤ gn ∧ gn ≤ 16) = true := by simp; omega
      have h2 : 256 < n := by omega
      have E1 := Lib.hid e1
      clear e1 h0
      go_enter Tryz.func24, Tryz.ntmps24
      go_wp2_with (go_at_call 25; refine (in6_any _ _ _ _).mono ?_; rintro e w' ⟨rfl, rfl⟩; rw [E1.out])
      go_ret
      exact ⟨ret_bool HG.out.symm, rfl⟩
    · have e1 : decide (1 ≤ gn ∧ gn ≤ 16) = false := by simp; omega
      have E1 := Lib.hid e1
      clear e1 h0 h1
      go_enter Tryz.func24, Tryz.ntmps24
      go_wp2_with (go_at_call 25; refine (in6_any _ _ _ _).mono ?_; rintro e w' ⟨rfl, rfl⟩; rw [E1.out])
      go_ret
      exact ⟨ret_bool HG.out.symm, rfl⟩
  obtain ⟨⟨g1, g2⟩, g3⟩ := h0
  have E1 : Hid (decide (1 ≤ gn ∧ gn ≤ 16) = true) := Lib.hid (by simp; omega)
  have HG : Hid (graphB gn l = !anyWrong gn l) := Lib.hid (by have := HN.out; unfold graphB; rw [show decide (1 ≤ gn ∧ gn ≤ 16 ∧ l.length ≤ 256) = true by simp; omega]; rfl)
  go_enter Tryz.func24, Tryz.ntmps24
  go_wp2_with (go_at_call 25; refine (in6_any _ _ _ _).mono ?_; rintro e w' ⟨rfl, rfl⟩; rw [E1.out])
  go_loop [5] (fun i => ∃ k : Nat, k ≤ n ∧ i = .int .i64 k ∧ anyWrong gn (l.take k) = false) (fun i => n - (intOf i).toNat)
  case atStart => exact ⟨0, Nat.zero_le _, rfl, rfl⟩
  case round =>
    obtain ⟨k, hk, rfl, hz⟩ := hrel
    have HZ := Lib.hid hz
    clear hz
    by_cases hlt : k < n
    · have hl : k < l.length := by have := HN.out; omega
      obtain ⟨b, off, rfl, hbl, hps⟩ := HA.out (by intro e; subst e; simp at hl)
      obtain ⟨q0, q1, q2⟩ := hps k _ (List.getElem?_eq_getElem hl)
      have HS := Lib.hid (anyWrong_take hl HZ.out)
      have HW : Hid (wrongA gn l[k] = true → anyWrong gn l = true) := Lib.hid fun h => List.any_eq_true.2 ⟨_, List.getElem_mem hl, h⟩
      clear hps hbl
      generalize l[k] = a at *
      obtain ⟨f, t, d⟩ := a
      simp only at q0 q1 q2
      cases hf : nodeB gn f
      · have W1 : Hid (graphB gn l = false) := Lib.hid (by rw [HG.out, HW.out (by unfold wrongA; simp [hf])]; rfl)
        have HF := Lib.hid hf
        clear hf HS HW
        go_wp2_with (go_at_call 25; refine (in6_any _ _ _ _).mono ?_; rintro e w' ⟨rfl, rfl⟩; rw [node_in, HF.out])
        go_ret
        exact ⟨ret_bool W1.out.symm, rfl⟩
      · cases ht : nodeB gn t
        · have W1 : Hid (graphB gn l = false) := Lib.hid (by rw [HG.out, HW.out (by unfold wrongA; simp [ht])]; rfl)
          have HF := Lib.hid hf
          have HT := Lib.hid ht
          clear hf ht HS HW
          go_wp2_with (go_at_call 25; refine (in6_any _ _ _ _).mono ?_; rintro e w' ⟨rfl, rfl⟩; rw [node_in]; first | rw [HF.out] | rw [HT.out])
          go_ret
          exact ⟨ret_bool W1.out.symm, rfl⟩
        · cases hd : decide (-1000000 ≤ d ∧ d ≤ 1000000)
          · have W1 : Hid (graphB gn l = false) := Lib.hid (by
              rw [HG.out, HW.out (by
                unfold wrongA
                simp only [decide_eq_false_iff_not] at hd
                simp only [Bool.or_eq_true, decide_eq_true_eq]
                omega)]; rfl)
            have HF := Lib.hid hf
            have HT := Lib.hid ht
            have HD := Lib.hid hd
            clear hf ht hd HS HW
            go_wp2_with (go_at_call 25; refine (in6_any _ _ _ _).mono ?_; rintro e w' ⟨rfl, rfl⟩; first | rw [HD.out] | (rw [node_in]; first | rw [HF.out] | rw [HT.out]))
            go_ret
            exact ⟨ret_bool W1.out.symm, rfl⟩
          · have HS2 : Hid (anyWrong gn (l.take (k + 1)) = false) := Lib.hid (by
              rw [HS.out]
              unfold wrongA
              simp only [decide_eq_true_eq] at hd
              simp only [hf, ht, Bool.not_true, Bool.false_or, Bool.or_eq_false_iff, decide_eq_false_iff_not]
              omega)
            have HF := Lib.hid hf
            have HT := Lib.hid ht
            have HD := Lib.hid hd
            clear hf ht hd HS HW
            go_wp2_with (go_at_call 25; refine (in6_any _ _ _ _).mono ?_; rintro e w' ⟨rfl, rfl⟩; first | rw [HD.out] | (rw [node_in]; first | rw [HF.out] | rw [HT.out]))
            go_round
            case rel => exact ⟨k + 1, by omega, by go_num, HS2.out⟩
            case measure => simp [intOf]; omega
    · have hfull : anyWrong gn l = false := by
        have := HZ.out
        rw [List.take_of_length_le (by have := HN.out; omega)] at this
        exact this
      have HF := Lib.hid hfull
      clear hfull
      go_wp2
      go_ret
      exact ⟨ret_bool (by rw [HG.out, HF.out]; rfl), rfl⟩
end Go.Proofs.YtddejjilfmphbaaGreatDoor
