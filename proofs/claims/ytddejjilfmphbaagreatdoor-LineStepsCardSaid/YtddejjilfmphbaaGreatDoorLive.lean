/- Live graphs; the exported Run. -/
import Derived.Test.YtddejjilfmphbaaGreatDoorGraphN
import Derived.WalkMore
import Derived.Deep.LoopGhost
namespace Go.Proofs.YtddejjilfmphbaaGreatDoor
open Go.RowKit Go.Sort

def toB (l : List Arc) (i : Nat) : Bool := l.any fun a => decide (a.t = (i : Int))
def liveB (m : Nat) (l : List Arc) : Bool := (List.range m).all fun i => toB l i
theorem toB_take {l : List Arc} {j i : Nat} (hj : j < l.length) (h : toB (l.take j) i = false) : toB (l.take (j + 1)) i = decide (l[j].t = (i : Int)) := by
  rw [List.take_succ_eq_append_getElem hj]
  unfold toB at *
  rw [List.any_append, h]; simp
theorem toB_of {l : List Arc} {j i : Nat} (hj : j < l.length) (h : l[j].t = (i : Int)) : toB l i = true := List.any_eq_true.2 ⟨_, List.getElem_mem hj, decide_eq_true h⟩
theorem liveB_succ (m : Nat) (l : List Arc) : liveB (m + 1) l = (liveB m l && toB l m) := by
  unfold liveB
  rw [List.range_succ, List.all_append]; simp

set_option maxRecDepth 100000 in
set_option maxHeartbeats 4000000 in
theorem isLive_any (m : Nat) (A : Option Addr) (n c : Nat) (l : List Arc) (w : World) (hm : m ≤ 16) (hn : l.length = n) (hbig : n ≤ 256) (hA : ArcsAt w A l) :
    Calls Tryz.prog 20 #[.agg #[.int .i64 (m : Int), .slice A n c]] w fun e w' => e = .returned (.bool (liveB m l)) ∧ Below w.heap.size w w' := by
  have HN := Lib.hid hn
  have HBG : Hid (Blk (w.alloc (.cells #[.int .i64 (m : Int), .slice A n c] 45)) w.heap.size 45 #[.int .i64 (m : Int), .slice A n c]) := Lib.hid (Blk.new w _ _)
  have HB0 : Hid (Below w.heap.size w (w.alloc (.cells #[.int .i64 (m : Int), .slice A n c] 45))) := Lib.hid ((Below.refl _ _).alloc (Nat.le_refl _) _)
  have HA := Lib.hid (hA.below HB0.out)
  have HS0 : Hid (w.heap.size + 1 = (w.alloc (.cells #[.int .i64 (m : Int), .slice A n c] 45)).heap.size) := Lib.hid (by simp)
  clear hn hA
  go_enter Tryz.func20, Tryz.ntmps20
  go_wp2
  go_step3
  go_wp2
  go_step3
  go_wp2
  generalize (w.alloc (.cells #[.int .i64 (m : Int), .slice A n c] 45)) = w1 at *
  go_loopg [3, 5, 8, 12, 13, 14] m (fun g _ _ i _ _ _ wr => ∃ k : Nat, k + g = m ∧ i = .int .i64 k ∧ liveB k l = true ∧ Below w1.heap.size w1 wr)
  case atStart => exact ⟨0, by omega, rfl, rfl, Below.refl _ _⟩
  case round =>
    obtain ⟨k, hk, rfl, hlv, hbw⟩ := hrel
    by_cases hlt : k < m
    · have HLV := Lib.hid hlv
      have HBW := Lib.hid hbw
      have c1 : wr.cell? ⟨w.heap.size, 1, none⟩ = some (.slice A n c) := (hbw.cell (p := ⟨w.heap.size, 1, none⟩) (by rw [← HS0.out]; show w.heap.size < w.heap.size + 1; omega)).trans (by rw [HBG.out.cell]; rfl)
      clear hlv hbw
      go_wp2_with fail
      go_loopg [5, 14] n (fun g _ j wr => ∃ q : Nat, q + g = n ∧ j = .int .i64 q ∧ toB (l.take q) k = false ∧ Below w1.heap.size w1 wr)
      case atStart => exact ⟨0, by omega, rfl, rfl, HBW.out⟩
      case round =>
        clear c1 HBW
        obtain ⟨q, hq, rfl, htb, hbw⟩ := hrel
        have HTB := Lib.hid htb
        have HBW := Lib.hid hbw
        clear htb hbw
        by_cases hqn : q < n
        · have hl : q < l.length := by have := HN.out; omega
          obtain ⟨b, off, rfl, hbl, hps⟩ := HA.out (by intro e; subst e; simp at hl)
          obtain ⟨q0, q1, q2⟩ := hps q _ (List.getElem?_eq_getElem hl)
          replace q0 := (HBW.out.cell (p := ⟨b, _, none⟩) hbl).trans q0
          replace q1 := (HBW.out.cell (p := ⟨b, _, none⟩) hbl).trans q1
          replace q2 := (HBW.out.cell (p := ⟨b, _, none⟩) hbl).trans q2
          have HS := Lib.hid (toB_take (i := k) hl HTB.out)
          have HT := Lib.hid (fun h => toB_of (l := l) (i := k) hl h)
          have HBA : Hid (∀ o, Below w1.heap.size w1 (wr.alloc o)) := Lib.hid fun o => HBW.out.alloc HBW.out.size o
          clear hps
          generalize l[q] = a at *
          obtain ⟨f, t, d⟩ := a
          simp only at q0 q1 q2
          by_cases ht : t = (k : Int)
          · have h1 : (t == (k : Int)) = true := by simp [ht]
            have HT2 := Lib.hid (HT.out ht)
            clear HT HS ht
            go_wp2_with fail
            go_roundg (m - (k + 1))
            case rel => exact ⟨k + 1, by omega, by go_num, by rw [liveB_succ, HLV.out, HT2.out]; rfl, HBA.out _⟩
            case measure => omega
          · have h1 : (t == (k : Int)) = false := by simp [ht]
            have HS2 : Hid (toB (l.take (q + 1)) k = false) := Lib.hid (by rw [HS.out]; simpa using ht)
            clear HT HS ht
            go_wp2_with fail
            go_roundg (n - (q + 1))
            case rel => exact ⟨q + 1, by omega, by go_num, HS2.out, HBA.out _⟩
            case measure => omega
        · have hno : liveB m l = false := by
            have h1 := HTB.out
            rw [List.take_of_length_le (by have := HN.out; omega)] at h1
            unfold liveB
            rw [List.all_eq_false]
            exact ⟨k, List.mem_range.2 hlt, by simp [h1]⟩
          have HNO := Lib.hid hno
          clear hno
          go_wp2_with fail
          try rw [Exit.noGoto_ret]
          go_ret
          exact ⟨ret_bool HNO.out.symm, HB0.out.trans (HBW.out.mono (by rw [← HS0.out]; omega))⟩
    · obtain rfl : k = m := by omega
      have HLV := Lib.hid hlv
      have HBW := Lib.hid hbw
      clear hlv hbw
      go_wp2_with fail
      try rw [Exit.noGoto_ret]
      go_ret
      exact ⟨ret_bool HLV.out.symm, HB0.out.trans (HBW.out.mono (by rw [← HS0.out]; omega))⟩
end Go.Proofs.YtddejjilfmphbaaGreatDoor
