/- Bags: the law's sizes and the reference's Sum. -/
import Derived.Test.YthboolnacmpmlaaGreatDoorSylvester
import Derived.Test.YthboolnacmpmlaaGreatDoorAperies
namespace Go.Proofs.YthboolnacmpmlaaGreatDoor
open Go.RowKit Go.Sort Bag

theorem gcdL_div {l : List Nat} : ∀ x ∈ l, gcdL l ∣ x := by
  have key : ∀ (l : List Nat) (a : Nat), l.foldl Nat.gcd a ∣ a ∧ ∀ x ∈ l, l.foldl Nat.gcd a ∣ x := by
    intro l
    induction l with
    | nil => intro a; exact ⟨Nat.dvd_refl _, by simp⟩
    | cons y l ih =>
      intro a
      obtain ⟨h1, h2⟩ := ih (Nat.gcd a y)
      refine ⟨Nat.dvd_trans h1 (Nat.gcd_dvd_left _ _), fun x hx => ?_⟩
      rcases List.mem_cons.1 hx with rfl | hx
      · exact Nat.dvd_trans h1 (Nat.gcd_dvd_right _ _)
      · exact h2 x hx
  exact (key l 0).2
theorem gcdL_next {l : List Nat} {x : Nat} (hx : x ∈ l) : gcdL (l ++ [x + 1]) = 1 := by
  rw [gcdL_snoc]
  have h1 : Nat.gcd (gcdL l) (x + 1) ∣ x := Nat.dvd_trans (Nat.gcd_dvd_left _ _) (gcdL_div x hx)
  have h2 : Nat.gcd (gcdL l) (x + 1) ∣ x + 1 := Nat.gcd_dvd_right _ _
  have h3 : Nat.gcd (gcdL l) (x + 1) ∣ 1 := by simpa using Nat.dvd_sub h2 h1
  exact Nat.dvd_one.1 h3

/-- What Sum leaves. -/
theorem sum_any (A : Option Addr) (n c : Nat) (l : List Nat) (w : World) (hn : l.length = n) (hbig : n ≤ 1000) (hs : ∀ x ∈ l, x ≤ 1000000000) (hx : Ints w A (toI l)) :
    Calls Tryz.prog 20 #[.slice A n c] w fun e w' => e = .returned (.int .i64 (l.sum : Nat)) ∧ w = w' := by
  have HN := Lib.hid hn
  have HX := Lib.hid hx
  have HSS := Lib.hid hs
  clear hn hx hs
  go_enter Tryz.func20, Tryz.ntmps20
  go_wp2
  go_loop [3, 4] (fun s i => ∃ k x : Nat, k ≤ n ∧ i = .int .i64 k ∧ s = .int .i64 x ∧ x = (l.take k).sum ∧ x ≤ k * 1000000000) (fun _ i => n - (intOf i).toNat)
  case atStart => exact ⟨0, 0, Nat.zero_le _, rfl, rfl, by simp, by omega⟩
  case round =>
    obtain ⟨k, x, hk, rfl, rfl, hx, hxb⟩ := hrel
    have HXX := Lib.hid hx
    clear hx
    by_cases hlt : k < n
    · have hl : k < l.length := by have := HN.out; omega
      obtain ⟨b, off, rfl, hc⟩ := toI_at HX.out hl
      have hz := HSS.out _ (List.getElem_mem hl)
      have HT : Hid ((l.take (k + 1)).sum = x + l[k]) := Lib.hid (by rw [List.take_succ_eq_append_getElem hl, List.sum_append, HXX.out]; simp)
      generalize l[k] = z at *
      go_wp2
      go_round
      case rel => exact ⟨k + 1, x + z, by omega, by go_num, by push_cast; rfl, HT.out.symm, by omega⟩
      case measure => simp [intOf]; omega
    · have hfull : x = l.sum := by rw [HXX.out, List.take_of_length_le (by have := HN.out; omega)]
      subst hfull
      generalize hzz : l.sum = z at *
      have HZ := Lib.hid hzz
      clear hzz
      go_wp2
      go_ret
      exact ⟨HZ.out ▸ rfl, rfl⟩

theorem len_own {w : World} {base q : Nat} {v : Value} {xs : List Int} (h : Own w base v xs) (hq : xs.length = q) (W : World) : (Builtin.len_ #[22] 3 #[v]).run Tryz.prog W = .ok (.int .i64 (q : Nat)) W := by
  obtain ⟨A, c, rfl, _⟩ := h.slice
  subst hq
  simp [Builtin.len_, run_underlying Tryz.underlying22]
  rfl
theorem idx_own {w : World} {base : Nat} {v : Value} {xs : List Int} (h : Own w base v xs) (hi : 0 < xs.length) :
    ∃ g, base ≤ g ∧ w.cell? ⟨g, 0, none⟩ = some (.int .i64 xs[0]) ∧ ∀ W : World, (Instr.indexAt 22 v (.int .i64 0)).run Tryz.prog W = .ok (.pointer (some ⟨g, 0, none⟩)) W := by
  obtain ⟨g, c, rfl, hg, hc, _⟩ := own_at h hi
  refine ⟨g, hg, hc, fun W => ?_⟩
  refine (run_indexAt_slice (P := Tryz.prog) (w := W) 22 ⟨g, 0, none⟩ xs.length c .i64 0 (by kernel_rfl)).trans ?_
  rw [if_pos (by omega), show Tryz.prog.elem 22 = 3 by kernel_rfl]
  obtain ⟨i0, hi0, hz0, hz1, hz2⟩ := info_parts info_int'
  simp [sizeOf, typeInfo, hi0, Addr.add]
theorem Own.belows {w w' : World} {base B : Nat} {v : Value} {xs : List Int} (h : Own w base v xs) (hb : Below B w w') (hB : w.heap.size ≤ B) : Own w' base v xs := by
  unfold Own World.ownsRow at *
  obtain ⟨h1, h2⟩ := h
  refine ⟨h1, ?_⟩
  rcases h2 with h2 | ⟨g, cap, cur, e, hb1, hg, hr⟩
  · exact .inl h2
  · exact .inr ⟨g, cap, cur, e, hb1, (hb.block g (Nat.lt_of_lt_of_le (Array.getElem?_eq_some_iff.1 hg).1 hB)).trans hg, hr⟩
theorem gcd_own {w : World} {base : Nat} {v : Value} {l : List Nat} (h : Own w base v (toI l)) (h0 : 0 < l.length) (hbig : l.length ≤ 1000) (hs : ∀ x ∈ l, x ≤ 1000000) :
    Calls Tryz.prog 15 #[v] w fun e w' => e = .returned (.int .i64 (gcdL l)) ∧ Below w.heap.size w w' := by
  obtain ⟨A, c, rfl, _, hin, _⟩ := h.slice
  rw [toI_length]
  exact gcd_any A l.length c l w rfl h0 hbig hin hs
/-- What sizes leaves. -/
def Sized (w : World) (e : Ending) (w' : World) : Prop :=
  ∃ (l : List Nat) (v : Value), e = .returned v ∧ Own w' w.heap.size v (toI l) ∧ Below w.heap.size w w' ∧ 1 ≤ l.length ∧ l.length ≤ 6 ∧ (∀ x ∈ l, 1 ≤ x ∧ x ≤ 301) ∧ gcdL l = 1

set_option maxHeartbeats 4000000 in
set_option maxRecDepth 100000 in
theorem listed_any (A : Option Addr) (n c : Nat) (xs : List Int) (w : World) (hn : xs.length = n) (hbig : n ≤ 9223372036854775807) (hx : Ints w A xs) (hw : ∀ x ∈ xs, -9223372036854775808 ≤ x ∧ x ≤ 9223372036854775807) :
    Calls Tryz.prog 18 #[.slice A n c, .int .i64 300] w (Sized w) := by
  have HN := Lib.hid hn
  have HX := Lib.hid hx
  have HW := Lib.hid hw
  clear hn hx hw
  have O0 : Hid (Own (w.alloc (.cells #[] 3)) w.heap.size (.slice (some ⟨w.heap.size, 0, none⟩) 0 0) (toI [])) := Lib.hid (Own.empty w)
  go_enter Tryz.func18, Tryz.ntmps18
  go_wp2_with fail
  go_loopw [5, 6] (fun v i wr => ∃ L : List Nat, L.length ≤ n ∧ L.length ≤ 5 ∧ i = .int .i64 (L.length : Nat) ∧ (∀ x ∈ L, 1 ≤ x ∧ x ≤ 300) ∧ Own wr w.heap.size v (toI L) ∧ Below w.heap.size w wr) (fun _ i _ => 5 - (intOf i).toNat)
  case atStart => exact ⟨[], by simp, by simp, rfl, by simp, O0.out, (Below.refl _ _).alloc (Nat.le_refl _) _⟩
  case round =>
    clear O0
    obtain ⟨L, hL, hL5, rfl, hLs, hO, hbw⟩ := hrel
    have HLS := Lib.hid hLs
    have HO := Lib.hid hO
    have HBW := Lib.hid hbw
    have HLL : Hid ((toI L).length = L.length) := Lib.hid (toI_length L)
    clear hLs hO hbw
    by_cases hlt : L.length < n ∧ L.length < 5
    · obtain ⟨hlt1, hlt2⟩ := hlt
      have hl : L.length < xs.length := by rw [HN.out]; exact hlt1
      obtain ⟨b, off, rfl, hc⟩ := (HX.out.below HBW.out).at_ hl
      have KF := Lib.hid (fold_any (xs[L.length]) 300 wr (HW.out _ (List.getElem_mem hl)) (by omega))
      have hsz := HBW.out.size
      generalize xs[L.length] = z at *
      generalize hq : L.length = q at *
      have HQ := Lib.hid hq
      clear hq
      go_wp2_with fail
      refine (KF.out).mono ?_
      rintro e w1 ⟨r, hr, rfl, rfl⟩
      go_wp2_with (at_builtin; refine wpList_app rfl (.tmp 18) (.tmp 26) rfl w.heap.size _ (toI L) [(r : Int) + 1] (some ⟨wr.heap.size, 0, none⟩) 1 1 rfl rfl (HO.out.alloc _) rfl (Ints.one wr ((r : Int) + 1)) (by rw [HLL.out]; simp; omega) (by simp; omega) ?_; intro v1 w1 ho hg hat; have HO1 := Lib.hid ho; have HG1 := Lib.hid hg; clear ho hg hat)
      have hbase := HO.out.base
      have hown2 : Hid (Own w1 w.heap.size v1 (toI (L ++ [r + 1]))) := Lib.hid (by rw [← toI_snoc]; push_cast; exact HO1.out)
      have hbel2 : Hid (Below w.heap.size w w1) := Lib.hid ((HBW.out.alloc hsz _).grown HG1.out (by simp; omega) (fun k hk => (hbase k hk).1))
      have hls2 : Hid (∀ x ∈ L ++ [r + 1], 1 ≤ x ∧ x ≤ 300) := Lib.hid fun x hx => by
        rcases List.mem_append.1 hx with h | h
        · exact HLS.out x h
        · have : x = r + 1 := by simpa using h
          omega
      clear hbase
      go_wp2_with fail
      go_roundw
      case rel => exact ⟨L ++ [r + 1], by simp; have := HQ.out; omega, by simp; have := HQ.out; omega, by simp [HQ.out], hls2.out, hown2.out, hbel2.out⟩
      case measure => simp [intOf]; omega
    · have hlen : ∀ W : World, (Builtin.len_ #[22] 3 #[u5]).run Tryz.prog W = .ok (.int .i64 (L.length : Nat)) W := len_own HO.out HLL.out
      have hsz := HBW.out.size
      generalize hq : L.length = q at *
      have HQ := Lib.hid hq
      clear hq
      by_cases h0 : q = 0
      · subst h0
        have hL0 : L = [] := List.eq_nil_of_length_eq_zero HQ.out
        subst hL0
        go_wp2_with (at_builtin; refine wpList_app rfl (.tmp 31) (.tmp 32) rfl w.heap.size _ (toI []) [3] (some ⟨wr.heap.size, 0, none⟩) 1 1 rfl rfl (HO.out.alloc _) rfl (Ints.one wr 3) (by simp [toI]) (by simp; omega) ?_; intro v1 w1 ho hg hat; have HO1 := Lib.hid ho; have HG1 := Lib.hid hg; clear ho hg hat)
        have hown1 : Hid (Own w1 w.heap.size v1 (toI [3])) := Lib.hid HO1.out
        have hbase := HO.out.base
        have hb1 : Hid (Below w.heap.size w w1) := Lib.hid ((HBW.out.alloc hsz _).grown HG1.out (by simp; omega) (fun k hk => (hbase k hk).1))
        clear HO1 HG1 hbase HO
        refine (gcd_own hown1.out (by simp) (by simp) (by simp)).mono ?_
        rintro e w2 ⟨rfl, hb2⟩
        have HB2 := Lib.hid (hb1.out.trans (hb2.mono hb1.out.size))
        have HO2 := Lib.hid (hown1.out.belows hb2 (Nat.le_refl _))
        clear hb2 hb1 hown1
        obtain ⟨g, hg, hc, hidx⟩ := idx_own HO2.out (by simp [toI])
        have hc3 : w2.cell? ⟨g, 0, none⟩ = some (.int .i64 3) := hc
        have hs2 := HB2.out.size
        clear hc
        rw [show gcdL [3] = 3 from rfl]
        go_wp2_with (at_builtin; refine wpList_app rfl (.tmp 37) (.tmp 42) rfl w.heap.size _ (toI [3]) [4] (some ⟨w2.heap.size, 0, none⟩) 1 1 rfl rfl (HO2.out.alloc _) rfl (Ints.one w2 4) (by simp [toI]) (by simp; omega) ?_; intro v3 w3 ho hg hat; have HO3 := Lib.hid ho; have HG3 := Lib.hid hg; clear ho hg hat)
        go_ret
        have hbase := HO2.out.base
        exact ⟨[3, 4], _, rfl, HO3.out, (HB2.out.alloc hs2 _).grown HG3.out (by simp; omega) (fun k hk => (hbase k hk).1), by simp, by simp, by simp, by decide⟩
      · have hl1 : 0 < L.length := by rw [HQ.out]; omega
        have K := Lib.hid (gcd_own HO.out hl1 (by rw [HQ.out]; omega) (fun x hx => by have := HLS.out x hx; omega))
        obtain ⟨x0, hx0, hx0m⟩ : ∃ x0, L[0] = x0 ∧ x0 ∈ L := ⟨_, rfl, List.getElem_mem hl1⟩
        obtain ⟨g, hg, hc, hidx⟩ := idx_own HO.out (by rw [toI_length]; exact hl1)
        have hc0 : wr.cell? ⟨g, 0, none⟩ = some (.int .i64 (x0 : Nat)) := by rw [hc]; simp [toI, hx0]
        have hglt : g < wr.heap.size := World.block_lt_of_cell? wr _ hc0
        have hx0b := HLS.out x0 hx0m
        have HX0 := Lib.hid hx0m
        have HNX := Lib.hid (gcdL_next hx0m)
        have HG0 := Lib.hid (gcdL_pos (by omega) (fun x hx => (HLS.out x hx).1))
        clear hc hx0 hx0m
        go_wp2_with fail
        all_goals
          refine (K.out).mono ?_
          rintro e w2 ⟨rfl, hb2⟩
          have HB2 := Lib.hid (HBW.out.trans (hb2.mono hsz))
          have HO2 := Lib.hid (HO.out.belows hb2 (Nat.le_refl _))
          have hc2 : w2.cell? ⟨g, 0, none⟩ = some (.int .i64 (x0 : Nat)) := (hb2.cell (p := ⟨g, 0, none⟩) hglt).trans hc0
          have hs2 := HB2.out.size
          clear hb2 hc0
          by_cases hg1 : gcdL L = 1
          · rw [hg1]
            have HGG := Lib.hid hg1
            clear hg1
            go_wp2_with fail
            go_ret
            exact ⟨L, _, rfl, HO2.out, HB2.out, by omega, by have := HQ.out; omega, fun x hx => by have := HLS.out x hx; omega, HGG.out⟩
          · have hg2 : decide ((1 : Int) < (gcdL L : Nat)) = true := by have := HG0.out; simp; omega
            clear hg1
            generalize gcdL L = gg at *
            go_wp2_with (at_builtin; refine wpList_app rfl (.tmp 37) (.tmp 42) rfl w.heap.size _ (toI L) [(x0 : Int) + 1] (some ⟨w2.heap.size, 0, none⟩) 1 1 rfl rfl (HO2.out.alloc _) rfl (Ints.one w2 ((x0 : Int) + 1)) (by rw [HLL.out]; simp; omega) (by simp; omega) ?_; intro v3 w3 ho hg hat; have HO3 := Lib.hid ho; have HG3 := Lib.hid hg; clear ho hg hat)
            go_ret
            have hbase := HO2.out.base
            refine ⟨L ++ [x0 + 1], _, rfl, ?_, (HB2.out.alloc hs2 _).grown HG3.out (by simp; omega) (fun k hk => (hbase k hk).1), by simp, by simp; have := HQ.out; omega, fun x hx => ?_, HNX.out⟩
            · rw [← toI_snoc]; push_cast; exact HO3.out
            · rcases List.mem_append.1 hx with h | h
              · have := HLS.out x h; omega
              · have : x = x0 + 1 := by simpa using h
                omega

end Go.Proofs.YthboolnacmpmlaaGreatDoor
