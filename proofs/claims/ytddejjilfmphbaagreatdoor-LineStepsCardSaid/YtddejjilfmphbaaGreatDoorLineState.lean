/- The laws' helpers fold and state. -/
import Derived.Test.YtddejjilfmphbaaGreatDoorArcsOwn
namespace Go.Proofs.YtddejjilfmphbaaGreatDoor
open Go.RowKit Go.Sort
attribute [local go_sem ↓] run_min_mn run_max_mx

theorem own_base6 {w : World} {base : Nat} {v : Value} {xs : List Int} (h : Own w base v xs) : ∀ k, v.ownBlock = some k → base ≤ k := by
  rcases h.2 with ⟨rfl, -⟩ | ⟨g, cap, cur, rfl, hb, -⟩
  · intro k hk; cases hk
  · intro k hk; cases hk; exact hb
theorem ints_one6 (w : World) (x : Int) : Ints (w.alloc (.cells #[.int .i64 x] 3)) (some ⟨w.heap.size, 0, none⟩) [x] :=
  Blk.ints (xs := [x]) (Blk.new w 3 (cellsOf [x]))
theorem own_alloc6 {w : World} {base : Nat} {v : Value} {xs : List Int} (h : Own w base v xs) (o : Obj) : Own (w.alloc o) base v xs := by
  refine ⟨h.1, ?_⟩
  rcases h.2 with h2 | ⟨g, cap, cur, e, hb, hg, r⟩
  · exact .inl h2
  · exact .inr ⟨g, cap, cur, e, hb, (Below.heap_alloc w o g (Array.getElem?_eq_some_iff.1 hg).1).trans hg, r⟩
def remAt (xs : List Int) (i : Nat) : Int := match xs[i]? with | some v => v.tmod 1001 | none => 0
def stV (xs : List Int) (m : Nat) : List Int := (List.range m).map (remAt xs)
theorem stV_length (xs : List Int) (m : Nat) : (stV xs m).length = m := by simp [stV]
theorem stV_succ (xs : List Int) (m : Nat) : stV xs (m + 1) = stV xs m ++ [remAt xs m] := by unfold stV; rw [List.range_succ, List.map_append]; rfl

set_option maxHeartbeats 1000000 in
set_option maxRecDepth 100000 in
theorem state6_any (A : Option Addr) (n c : Nat) (xs : List Int) (m : Nat) (w : World) (hn : xs.length = n) (hbig : n ≤ 9223372036854775807) (hm : m ≤ 16) (hx : Ints w A xs) (hw : ∀ x ∈ xs, -9223372036854775808 ≤ x ∧ x ≤ 9223372036854775807) :
    Calls Tryz.prog 15 #[.slice A n c, .int .i64 (m : Int), .int .i64 1000] w (CutTo6 w (stV xs m)) := by
  have HN := Lib.hid hn
  have HX := Lib.hid hx
  have HW := Lib.hid hw
  clear hn hx hw
  have O0 : Hid (Own (w.alloc (.cells #[] 3)) w.heap.size (.slice (some ⟨w.heap.size, 0, none⟩) 0 0) (stV xs 0)) := Lib.hid (Own.empty w)
  go_enter Tryz.func15, Tryz.ntmps15
  go_wp2_with fail
  go_loopw [7, 8] (fun v i wr => ∃ k : Nat, k ≤ m ∧ i = .int .i64 k ∧ Own wr w.heap.size v (stV xs k) ∧ Below w.heap.size w wr) (fun _ i _ => m - (intOf i).toNat)
  case atStart => exact ⟨0, Nat.zero_le _, rfl, O0.out, (Below.refl _ _).alloc (Nat.le_refl _) _⟩
  case round =>
    clear O0
    obtain ⟨k, hk, rfl, hO, hbw⟩ := hrel
    have HO := Lib.hid hO
    have HBW := Lib.hid hbw
    have HLL : Hid ((stV xs k).length = k) := Lib.hid (stV_length xs k)
    have HSU := Lib.hid (stV_succ xs k)
    have hsz := HBW.out.size
    clear hO hbw
    by_cases hlt : k < m
    · by_cases hkn : k < n
      · have hl : k < xs.length := by rw [HN.out]; exact hkn
        obtain ⟨b, off, rfl, hc⟩ := (HX.out.below HBW.out).at_ hl
        have hz := HW.out _ (List.getElem_mem hl)
        have HR : Hid (remAt xs k = xs[k].tmod 1001) := Lib.hid (by unfold remAt; rw [List.getElem?_eq_getElem hl])
        generalize xs[k] = z at *
        have HT : Hid (remAt xs k = z.tmod 1001) := HR
        go_wp2_with (at_builtin; refine wpList_app rfl (.tmp 27) (.tmp 29) rfl w.heap.size _ (stV xs k) [z.tmod 1001] (some ⟨wr.heap.size, 0, none⟩) 1 1 rfl rfl (own_alloc6 HO.out _) rfl (ints_one6 wr (z.tmod 1001)) (by rw [HLL.out]; simp; omega) (by simp; omega) ?_; intro v1 w1 ho hg hat; have HO1 := Lib.hid ho; have HG1 := Lib.hid hg; clear ho hg hat)
        have hbase := own_base6 HO.out
        have hbel2 : Hid (Below w.heap.size w w1) := Lib.hid ((HBW.out.alloc hsz _).grown HG1.out (by simp; omega) (fun k hk => hbase k hk))
        clear hbase
        go_roundw
        case rel => exact ⟨k + 1, by omega, by go_num, by rw [HSU.out, HT.out]; exact HO1.out, hbel2.out⟩
        case measure => simp [intOf]; omega
      · have HR : Hid (remAt xs k = 0) := Lib.hid (by unfold remAt; rw [List.getElem?_eq_none (by have := HN.out; omega)])
        go_wp2_with (at_builtin; refine wpList_app rfl (.tmp 27) (.tmp 29) rfl w.heap.size _ (stV xs k) [0] (some ⟨wr.heap.size, 0, none⟩) 1 1 rfl rfl (own_alloc6 HO.out _) rfl (ints_one6 wr 0) (by rw [HLL.out]; simp; omega) (by simp; omega) ?_; intro v1 w1 ho hg hat; have HO1 := Lib.hid ho; have HG1 := Lib.hid hg; clear ho hg hat)
        have hbase := own_base6 HO.out
        have hbel2 : Hid (Below w.heap.size w w1) := Lib.hid ((HBW.out.alloc hsz _).grown HG1.out (by simp; omega) (fun k hk => hbase k hk))
        clear hbase
        go_roundw
        case rel => exact ⟨k + 1, by omega, by go_num, by rw [HSU.out, HR.out]; exact HO1.out, hbel2.out⟩
        case measure => simp [intOf]; omega
    · obtain rfl : k = m := by omega
      go_wp2_with fail
      go_ret
      exact ⟨_, rfl, HO.out, HBW.out⟩
end Go.Proofs.YtddejjilfmphbaaGreatDoor
