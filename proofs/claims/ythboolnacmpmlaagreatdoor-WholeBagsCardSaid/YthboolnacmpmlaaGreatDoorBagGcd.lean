/- Bags: greatest common divisors, least and greatest elements. -/
import Derived.Test.YthboolnacmpmlaaGreatDoorBagLeaf
namespace Go.Proofs.YthboolnacmpmlaaGreatDoor
open Go.RowKit Go.Sort
attribute [local go_sem ↓] run_min_mn run_max_mx

theorem tmod_nat (x y : Nat) : Int.tmod (x : Int) (y : Int) = ((x % y : Nat) : Int) := rfl

set_option maxHeartbeats 400000 in
theorem divisor_any (a b : Nat) (w : World) (ha : a ≤ 1000000) (hb : b ≤ 1000000) :
    Calls Tryz.prog 27 #[.int .i64 a, .int .i64 b] w fun e w' => e = .returned (.int .i64 (Nat.gcd a b)) ∧ Below w.heap.size w w' := by
  go_enter Tryz.func27, Tryz.ntmps27
  go_wp2
  go_loopw [0, 1] (fun p q wr => ∃ x y : Nat, p = .int .i64 x ∧ q = .int .i64 y ∧ Nat.gcd x y = Nat.gcd a b ∧ x ≤ 1000000 ∧ y ≤ 1000000 ∧ Below w.heap.size w wr) (fun _ q _ => (intOf q).toNat)
  case atStart => exact ⟨a, b, rfl, rfl, rfl, ha, hb, Below.refl _ _⟩
  case round =>
    obtain ⟨x, y, rfl, rfl, hg, hx, hy, hbw⟩ := hrel
    have HG := Lib.hid hg
    clear hg ha hb
    by_cases h0 : 0 < y
    · have ht := tmod_nat x y
      have hlt : x % y < y := Nat.mod_lt _ h0
      have hne : ((y : Int) == 0) = false := by simp; omega
      generalize hr : x % y = r at ht hlt
      have HR := Lib.hid hr
      clear hr
      go_wp2_with fail
      refine wp_region_quiet_below (by kernel_rfl) (by kernel_rfl) ?_
      repeat (go_big_quiet_step (fail))
      refine wpQuiet_nil ?_
      intro _ hw'
      obtain ⟨⟨dq, osq⟩, hw''⟩ := hw'
      subst hw''
      go_wp2_with fail
      go_roundw
      case rel => exact ⟨y, r, rfl, rfl, by rw [← HG.out, ← HR.out, Nat.gcd_comm x y, Nat.gcd_rec y x, Nat.gcd_comm], hy, by omega, hbw.trans ((below_regrown wr dq osq).mono hbw.size)⟩
      case measure => simp [intOf]; omega
    · obtain rfl : y = 0 := by omega
      go_wp2
      go_ret
      exact ⟨ret_int (by rw [← HG.out]; simp), hbw⟩

/-- The greatest common divisor of all. -/
def gcdL (l : List Nat) : Nat := l.foldl Nat.gcd 0
theorem gcdL_snoc (l : List Nat) (x : Nat) : gcdL (l ++ [x]) = Nat.gcd (gcdL l) x := by simp [gcdL]
def toI (l : List Nat) : List Int := l.map Int.ofNat
theorem toI_length (l : List Nat) : (toI l).length = l.length := by simp [toI]
theorem toI_get {l : List Nat} {i : Nat} (h : i < l.length) : ∃ h' : i < (toI l).length, (toI l)[i] = (l[i] : Int) := ⟨by simpa [toI] using h, by simp [toI]⟩
theorem toI_at {w : World} {A : Option Addr} {l : List Nat} (h : Ints w A (toI l)) {i : Nat} (hi : i < l.length) :
    ∃ b off, A = some ⟨b, off, none⟩ ∧ w.cell? ⟨b, off + i, none⟩ = some (.int .i64 (l[i] : Nat)) := by
  obtain ⟨b, off, e, hc⟩ := h.at_ (i := i) (by rw [toI_length]; exact hi)
  exact ⟨b, off, e, by rw [hc]; simp [toI]⟩
theorem toI_head {w : World} {A : Option Addr} {l : List Nat} (h : Ints w A (toI l)) (hi : 0 < l.length) :
    ∃ b off, A = some ⟨b, off, none⟩ ∧ w.cell? ⟨b, off, none⟩ = some (.int .i64 (l[0] : Nat)) := by
  obtain ⟨b, off, e, hc⟩ := toI_at h hi
  exact ⟨b, off, e, by simpa using hc⟩

set_option maxHeartbeats 1000000 in
theorem gcd_any (A : Option Addr) (n c : Nat) (l : List Nat) (w : World) (hn : l.length = n) (h0 : 0 < n) (hbig : n ≤ 1000) (hx : Ints w A (toI l)) (hs : ∀ x ∈ l, x ≤ 1000000) :
    Calls Tryz.prog 15 #[.slice A n c] w fun e w' => e = .returned (.int .i64 (gcdL l)) ∧ Below w.heap.size w w' := by
  obtain ⟨b, off, rfl, hc0⟩ := toI_head hx (by omega)
  have HN := Lib.hid hn
  have HX := Lib.hid hx
  have HS := Lib.hid hs
  have H1 : Hid (gcdL (l.take 1) = l[0]'(by omega)) := by
    refine Lib.hid ?_
    rw [List.take_one]
    cases l with
    | nil => simp at hn; omega
    | cons a r => simp [gcdL]
  have H2 : Hid (l[0]'(by omega) ≤ 1000000) := Lib.hid (hs _ (List.getElem_mem _))
  clear hx hs
  generalize (l[0]'(by omega)) = g0 at *
  clear hn
  have hg0 := H2.out
  go_enter Tryz.func15, Tryz.ntmps15
  go_wp2
  go_loopw [3, 4] (fun p i wr => ∃ k g : Nat, 1 ≤ k ∧ k ≤ n ∧ i = .int .i64 k ∧ p = .int .i64 g ∧ g = gcdL (l.take k) ∧ g ≤ 1000000 ∧ Below w.heap.size w wr) (fun _ i _ => n - (intOf i).toNat)
  case atStart => exact ⟨1, g0, Nat.le_refl _, h0, rfl, rfl, H1.out.symm, hg0, Below.refl _ _⟩
  case round =>
    obtain ⟨k, g, hk1, hk, rfl, rfl, hg, hgb, hbw⟩ := hrel
    have HG := Lib.hid hg
    clear hg hc0 H1 H2
    by_cases hlt : k < n
    · have hl : k < l.length := by have := HN.out; omega
      obtain ⟨b', off', e, hc⟩ := toI_at (HX.out.below hbw) hl
      simp only [Option.some.injEq, Addr.mk.injEq, and_true] at e
      obtain ⟨rfl, rfl⟩ := e
      have hxb : l[k] ≤ 1000000 := HS.out _ (List.getElem_mem _)
      have HT : Hid (gcdL (l.take (k + 1)) = Nat.gcd g l[k]) := Lib.hid (by rw [List.take_succ_eq_append_getElem hl, gcdL_snoc, HG.out])
      generalize l[k] = z at *
      go_wp2_with fail
      obtain ⟨wo, rfl⟩ : ∃ wo : World, wo = wr := ⟨_, rfl⟩
      go_loopw [3, 5] (fun p q wr => ∃ x y : Nat, p = .int .i64 x ∧ q = .int .i64 y ∧ Nat.gcd x y = Nat.gcd g z ∧ x ≤ 1000000 ∧ y ≤ 1000000 ∧ Below w.heap.size w wr) (fun _ q _ => (intOf q).toNat)
      case atStart => exact ⟨g, z, rfl, rfl, rfl, hgb, hxb, hbw⟩
      case round =>
        clear hbw hc
        obtain ⟨x, y, rfl, rfl, hgg, hx, hy, hbw⟩ := hrel
        have HGG := Lib.hid hgg
        clear hgg
        by_cases h0' : 0 < y
        · have ht := tmod_nat x y
          have hlt' : x % y < y := Nat.mod_lt _ h0'
          have hne : ((y : Int) == 0) = false := by simp; omega
          have hne2 : ((y : Int) != 0) = true := by simp; omega
          generalize hr : x % y = r at ht hlt'
          have HR := Lib.hid hr
          clear hr
          go_wp2_with fail
          refine wp_region_quiet_below (by kernel_rfl) (by kernel_rfl) ?_
          repeat (go_big_quiet_step (fail))
          refine wpQuiet_nil ?_
          intro _ hw'
          obtain ⟨⟨dq, osq⟩, hw''⟩ := hw'
          subst hw''
          go_wp2_with fail
          go_roundw
          case rel => exact ⟨y, r, rfl, rfl, by rw [← HGG.out, ← HR.out, Nat.gcd_comm x y, Nat.gcd_rec y x, Nat.gcd_comm], hy, by omega, hbw.trans ((below_regrown wr dq osq).mono hbw.size)⟩
          case measure => simp [intOf]; omega
        · obtain rfl : y = 0 := by omega
          go_wp2_with fail
          go_roundw
          case rel => exact ⟨k + 1, x, by omega, by omega, by go_num, rfl, by rw [HT.out, ← HGG.out]; simp, hx, hbw⟩
          case measure => simp [intOf]; omega
    · have hf : gcdL l = g := by rw [HG.out, List.take_of_length_le (by have := HN.out; omega)]
      have HF := Lib.hid hf
      clear hf
      go_wp2
      go_ret
      exact ⟨ret_int (by rw [HF.out]), hbw⟩

/-- The least element, the greatest one (0 of none). -/
def leastL : List Nat → Nat
  | [] => 0
  | x :: r => r.foldl Nat.min x
def mostL (l : List Nat) : Nat := l.foldl Nat.max 0
theorem mostL_snoc (l : List Nat) (x : Nat) : mostL (l ++ [x]) = max (mostL l) x := by simp [mostL]
theorem leastL_snoc {l : List Nat} (h : l ≠ []) (x : Nat) : leastL (l ++ [x]) = min (leastL l) x := by
  cases l with
  | nil => exact absurd rfl h
  | cons a r => simp [leastL]
theorem take_ne {l : List Nat} {k : Nat} (h1 : 1 ≤ k) (hl : k < l.length) : l.take k ≠ [] := fun e => by
  rcases List.take_eq_nil_iff.1 e with h | h
  · omega
  · subst h; simp at hl
theorem mn_nat (a b : Nat) : mn (a : Int) (b : Int) = ((min a b : Nat) : Int) := by unfold mn; split <;> omega
theorem mx_nat (a b : Nat) : mx (a : Int) (b : Int) = ((max a b : Nat) : Int) := by unfold mx; split <;> omega

set_option maxHeartbeats 400000 in
theorem least_any (A : Option Addr) (n c : Nat) (l : List Nat) (w : World) (hn : l.length = n) (h0 : 0 < n) (hbig : n ≤ 1000000) (hx : Ints w A (toI l)) :
    Calls Tryz.prog 17 #[.slice A n c] w fun e w' => e = .returned (.int .i64 (leastL l)) ∧ w = w' := by
  obtain ⟨b, off, rfl, hc0⟩ := toI_head hx (by omega)
  have HN := Lib.hid hn
  have HX := Lib.hid hx
  have H1 : Hid (leastL (l.take 1) = l[0]'(by omega)) := by
    refine Lib.hid ?_
    rw [List.take_one]
    cases l with
    | nil => simp at hn; omega
    | cons a r => simp [leastL]
  clear hx
  generalize (l[0]'(by omega)) = g0 at *
  clear hn
  go_enter Tryz.func17, Tryz.ntmps17
  go_wp2
  go_loop [3, 4] (fun p i => ∃ k g : Nat, 1 ≤ k ∧ k ≤ n ∧ i = .int .i64 k ∧ p = .int .i64 g ∧ g = leastL (l.take k)) (fun _ i => n - (intOf i).toNat)
  case atStart => exact ⟨1, g0, Nat.le_refl _, h0, rfl, rfl, H1.out.symm⟩
  case round =>
    obtain ⟨k, g, hk1, hk, rfl, rfl, hg⟩ := hrel
    have HG := Lib.hid hg
    clear hg hc0 H1
    by_cases hlt : k < n
    · have hl : k < l.length := by have := HN.out; omega
      obtain ⟨b', off', e, hc⟩ := toI_at HX.out hl
      simp only [Option.some.injEq, Addr.mk.injEq, and_true] at e
      obtain ⟨rfl, rfl⟩ := e
      have HT : Hid (leastL (l.take (k + 1)) = min g l[k]) := Lib.hid (by
        rw [List.take_succ_eq_append_getElem hl, leastL_snoc (take_ne hk1 hl), HG.out])
      generalize l[k] = z at *
      go_wp2
      go_round
      case rel => exact ⟨k + 1, min g z, by omega, by omega, by go_num, by rw [mn_nat], HT.out.symm⟩
      case measure => simp [intOf]; omega
    · have hf : leastL l = g := by rw [HG.out, List.take_of_length_le (by have := HN.out; omega)]
      have HF := Lib.hid hf
      clear hf
      go_wp2
      go_ret
      exact ⟨ret_int (by rw [HF.out]), rfl⟩

set_option maxHeartbeats 400000 in
theorem min_any (A : Option Addr) (n c : Nat) (l : List Nat) (w : World) (hn : l.length = n) (h0 : 0 < n) (hbig : n ≤ 1000000) (hx : Ints w A (toI l)) :
    Calls Tryz.prog 28 #[.slice A n c] w fun e w' => e = .returned (.int .i64 (leastL l)) ∧ w = w' := by
  obtain ⟨b, off, rfl, hc0⟩ := toI_head hx (by omega)
  have HN := Lib.hid hn
  have HX := Lib.hid hx
  have H1 : Hid (leastL (l.take 1) = l[0]'(by omega)) := by
    refine Lib.hid ?_
    rw [List.take_one]
    cases l with
    | nil => simp at hn; omega
    | cons a r => simp [leastL]
  clear hx
  generalize (l[0]'(by omega)) = g0 at *
  clear hn
  go_enter Tryz.func28, Tryz.ntmps28
  go_wp2
  go_loop [3, 4] (fun p i => ∃ k g : Nat, 1 ≤ k ∧ k ≤ n ∧ i = .int .i64 k ∧ p = .int .i64 g ∧ g = leastL (l.take k)) (fun _ i => n - (intOf i).toNat)
  case atStart => exact ⟨1, g0, Nat.le_refl _, h0, rfl, rfl, H1.out.symm⟩
  case round =>
    obtain ⟨k, g, hk1, hk, rfl, rfl, hg⟩ := hrel
    have HG := Lib.hid hg
    clear hg hc0 H1
    by_cases hlt : k < n
    · have hl : k < l.length := by have := HN.out; omega
      obtain ⟨b', off', e, hc⟩ := toI_at HX.out hl
      simp only [Option.some.injEq, Addr.mk.injEq, and_true] at e
      obtain ⟨rfl, rfl⟩ := e
      have HT : Hid (leastL (l.take (k + 1)) = min g l[k]) := Lib.hid (by
        rw [List.take_succ_eq_append_getElem hl, leastL_snoc (take_ne hk1 hl), HG.out])
      generalize l[k] = z at *
      go_wp2
      go_round
      case rel => exact ⟨k + 1, min g z, by omega, by omega, by go_num, by rw [mn_nat], HT.out.symm⟩
      case measure => simp [intOf]; omega
    · have hf : leastL l = g := by rw [HG.out, List.take_of_length_le (by have := HN.out; omega)]
      have HF := Lib.hid hf
      clear hf
      go_wp2
      go_ret
      exact ⟨ret_int (by rw [HF.out]), rfl⟩

set_option maxHeartbeats 400000 in
theorem max_any (A : Option Addr) (n c : Nat) (l : List Nat) (w : World) (hn : l.length = n) (h0 : 0 < n) (hbig : n ≤ 1000000) (hx : Ints w A (toI l)) :
    Calls Tryz.prog 30 #[.slice A n c] w fun e w' => e = .returned (.int .i64 (mostL l)) ∧ w = w' := by
  obtain ⟨b, off, rfl, hc0⟩ := toI_head hx (by omega)
  have HN := Lib.hid hn
  have HX := Lib.hid hx
  have H1 : Hid (mostL (l.take 1) = l[0]'(by omega)) := by
    refine Lib.hid ?_
    rw [List.take_one]
    cases l with
    | nil => simp at hn; omega
    | cons a r => simp [mostL]
  clear hx
  generalize (l[0]'(by omega)) = g0 at *
  clear hn
  go_enter Tryz.func30, Tryz.ntmps30
  go_wp2
  go_loop [3, 4] (fun p i => ∃ k g : Nat, 1 ≤ k ∧ k ≤ n ∧ i = .int .i64 k ∧ p = .int .i64 g ∧ g = mostL (l.take k)) (fun _ i => n - (intOf i).toNat)
  case atStart => exact ⟨1, g0, Nat.le_refl _, h0, rfl, rfl, H1.out.symm⟩
  case round =>
    obtain ⟨k, g, hk1, hk, rfl, rfl, hg⟩ := hrel
    have HG := Lib.hid hg
    clear hg hc0 H1
    by_cases hlt : k < n
    · have hl : k < l.length := by have := HN.out; omega
      obtain ⟨b', off', e, hc⟩ := toI_at HX.out hl
      simp only [Option.some.injEq, Addr.mk.injEq, and_true] at e
      obtain ⟨rfl, rfl⟩ := e
      have HT : Hid (mostL (l.take (k + 1)) = max g l[k]) := Lib.hid (by rw [List.take_succ_eq_append_getElem hl, mostL_snoc, HG.out])
      generalize l[k] = z at *
      go_wp2
      go_round
      case rel => exact ⟨k + 1, max g z, by omega, by omega, by go_num, by rw [mx_nat], HT.out.symm⟩
      case measure => simp [intOf]; omega
    · have hf : mostL l = g := by rw [HG.out, List.take_of_length_le (by have := HN.out; omega)]
      have HF := Lib.hid hf
      clear hf
      go_wp2
      go_ret
      exact ⟨ret_int (by rw [HF.out]), rfl⟩

end Go.Proofs.YthboolnacmpmlaaGreatDoor
