/- Bags: whole.Apery and whole.Frobenius. -/
import Derived.Test.YthboolnacmpmlaaGreatDoorBagRef
namespace Go.Proofs.YthboolnacmpmlaaGreatDoor
open Go.RowKit Go.Sort Bag
attribute [local go_sem ↓] run_min_mn run_max_mx

/-- More than all totals. -/
def top : Nat := 1099511627776

theorem sizes_nat {xs : List Int} (h : sizesB xs = true) : ∃ l : List Nat, xs = toI l ∧ 1 ≤ l.length ∧ l.length ≤ 8 ∧ ∀ x ∈ l, 1 ≤ x ∧ x ≤ 2000 := by
  unfold sizesB at h
  rw [Bool.and_eq_true, decide_eq_true_eq] at h
  obtain ⟨⟨h1, h2⟩, h3⟩ := h
  have h4 : ∀ x ∈ xs, 1 ≤ x ∧ x ≤ 2000 := fun x hx => by
    have : anyB xs = false := by simpa using h3
    unfold anyB at this
    rw [List.any_eq_false] at this
    have := this x hx
    unfold wrongB at this
    simp at this
    omega
  refine ⟨xs.map Int.toNat, ?_, by simpa using h1, by simpa using h2, fun x hx => ?_⟩
  · unfold toI
    rw [List.map_map]
    symm
    calc xs.map (Int.ofNat ∘ Int.toNat) = xs.map id := List.map_congr_left fun x hx => by
          have := h4 x hx
          simp; omega
      _ = xs := List.map_id xs
  · obtain ⟨y, hy, rfl⟩ := List.mem_map.1 hx
    have := h4 y hy
    omega
theorem sizes_ok {l : List Nat} (h1 : 1 ≤ l.length) (h2 : l.length ≤ 8) (h3 : ∀ x ∈ l, 1 ≤ x ∧ x ≤ 2000) : sizesB (toI l) = true := by
  unfold sizesB
  rw [Bool.and_eq_true, decide_eq_true_eq, toI_length]
  refine ⟨⟨h1, h2⟩, ?_⟩
  rw [Bool.not_eq_true']
  unfold anyB
  rw [List.any_eq_false]
  intro x hx
  simp only [toI, List.mem_map] at hx
  obtain ⟨y, hy, rfl⟩ := hx
  have := h3 y hy
  unfold wrongB
  simp
  omega

theorem gcdL_pos {l : List Nat} (h0 : 1 ≤ l.length) (h : ∀ x ∈ l, 1 ≤ x) : 1 ≤ gcdL l := by
  have key : ∀ (l : List Nat) (a : Nat), 1 ≤ a → 1 ≤ l.foldl Nat.gcd a := by
    intro l
    induction l with
    | nil => intro a ha; exact ha
    | cons y l ih => intro a ha; exact ih _ (Nat.gcd_pos_of_pos_left _ ha)
  cases l with
  | nil => simp at h0
  | cons a l => exact key l _ (by rw [Nat.gcd_zero_left]; exact h a (by simp))
theorem gcdL_le {l : List Nat} {b : Nat} (h : ∀ x ∈ l, x ≤ b) (h1 : ∀ x ∈ l, 1 ≤ x) (k : Nat) : gcdL (l.take k) ≤ b := by
  have key : ∀ (l : List Nat) (a : Nat), a ≤ b → (∀ x ∈ l, x ≤ b) → (∀ x ∈ l, 1 ≤ x) → l.foldl Nat.gcd a ≤ b := by
    intro l
    induction l with
    | nil => intro a ha _ _; exact ha
    | cons y l ih =>
      intro a ha hx hy
      refine ih _ ?_ (fun x hx' => hx x (by simp [hx'])) fun x hx' => hy x (by simp [hx'])
      exact Nat.le_trans (Nat.le_of_dvd (hy y (by simp)) (Nat.gcd_dvd_right a y)) (hx y (by simp))
  exact key _ 0 (Nat.zero_le _) (fun x hx => h x (List.mem_of_mem_take hx)) fun x hx => h1 x (List.mem_of_mem_take hx)

/-- No sizes. -/
theorem apery_bad (A : Option Addr) (n c : Nat) (xs : List Int) (w : World) (hn : xs.length = n) (hbig : n ≤ 1000) (hx : Ints w A xs) (hs : sizesB xs = false) :
    Calls Tryz.prog 13 #[.slice A n c] w fun e w' => e = .returned (.tuple #[.slice none 0 0, .int .i64 1]) ∧ Below w.heap.size w w' := by
  have K := Lib.hid (areSizes_any A n c xs w hn (by omega) hx)
  have HS := Lib.hid hs
  clear hn hx hs
  go_enter Tryz.func13, Tryz.ntmps13
  go_wp2_with (go_at_call 21; refine ((K).out).mono ?_; rintro e w' ⟨rfl, rfl⟩; rw [HS.out])
  go_ret2
  exact ⟨rfl, Below.refl _ _⟩

/-- What Apery leaves. -/
def AperyTo (w : World) (l : List Nat) (e : Ending) (w' : World) : Prop :=
  ∃ (g : Nat) (L : List Nat), e = .returned (.tuple #[.slice (some ⟨g, 0, none⟩) (leastL l) (leastL l), .int .i64 0]) ∧ Aperys (leastL l) l L ∧ w.heap.size ≤ g ∧ Blk w' g 3 (cellsOf (toI L)) ∧ Below w.heap.size w w'

set_option maxHeartbeats 1000000 in
theorem apery_none (A : Option Addr) (n c : Nat) (l : List Nat) (w : World) (hn : l.length = n) (h0 : 1 ≤ n) (h8 : n ≤ 8) (hx : Ints w A (toI l)) (hs : ∀ x ∈ l, 1 ≤ x ∧ x ≤ 2000) (hg : 1 < gcdL l) :
    Calls Tryz.prog 13 #[.slice A n c] w fun e w' => e = .returned (.tuple #[.slice none 0 0, .int .i64 6]) ∧ Below w.heap.size w w' := by
  have K := Lib.hid (areSizes_any A n c (toI l) w (by rw [toI_length]; exact hn) (by omega) hx)
  have HS := Lib.hid (sizes_ok (by omega) (by omega) hs)
  have HN := Lib.hid hn
  have HX := Lib.hid hx
  have HSS := Lib.hid hs
  have HG := Lib.hid hg
  clear hn hx hs hg
  go_enter Tryz.func13, Tryz.ntmps13
  go_wp2_with (go_at_call 21; refine ((K).out).mono ?_; rintro e w' ⟨rfl, rfl⟩; rw [HS.out])
  go_loopw [4, 16] (fun p i wr => ∃ k g : Nat, k ≤ n ∧ i = .int .i64 k ∧ p = .int .i64 g ∧ g = gcdL (l.take k) ∧ g ≤ 2000 ∧ Below w.heap.size w wr) (fun _ i _ => n - (intOf i).toNat)
  case atStart => exact ⟨0, 0, Nat.zero_le _, rfl, rfl, rfl, by omega, Below.refl _ _⟩
  case round =>
    obtain ⟨k, g, hk, rfl, rfl, hgm, hgb, hbw⟩ := hrel
    have HGM := Lib.hid hgm
    clear hgm
    by_cases hlt : k < n
    · have hl : k < l.length := by have := HN.out; omega
      obtain ⟨b', off', rfl, hc⟩ := toI_at (HX.out.below hbw) hl
      have hz := (HSS.out _ (List.getElem_mem hl)).2
      have HT : Hid (gcdL (l.take (k + 1)) = Nat.gcd g l[k]) := Lib.hid (by rw [List.take_succ_eq_append_getElem hl, gcdL_snoc, HGM.out])
      have HB : Hid (gcdL (l.take (k + 1)) ≤ 2000) := Lib.hid (gcdL_le (fun x hx => (HSS.out x hx).2) (fun x hx => (HSS.out x hx).1) _)
      generalize l[k] = z at *
      have KD := fun w => Lib.hid (divisor_any g z w (by omega) (by omega))
      have HBW := Lib.hid hbw
      clear hbw
      go_wp2_with (go_at_call 27; refine ((KD _).out).mono ?_; rintro e w1 ⟨rfl, hb1⟩; have HB1 := Lib.hid hb1; clear hb1)
      go_roundw
      case rel => exact ⟨k + 1, Nat.gcd g z, by omega, by go_num, rfl, HT.out.symm, by rw [← HT.out]; exact HB.out, HBW.out.trans (HB1.out.mono HBW.out.size)⟩
      case measure => simp [intOf]; omega
    · have hgt : 1 < g := by
        have h := HG.out
        rw [HGM.out, List.take_of_length_le (by have := HN.out; omega)]
        exact h
      go_wp2_with fail
      go_ret2
      exact ⟨rfl, hbw⟩

theorem start_cells (m : Nat) (hm : 1 ≤ m) : (cellsOf (List.replicate m 1099511627776)).setIfInBounds 0 (.int .i64 0) = cellsOf (toI (0 :: List.replicate (m - 1) 1099511627776)) := by
  rw [cellsOf_set]
  congr 1
  obtain ⟨k, rfl⟩ : ∃ k, m = k + 1 := ⟨m - 1, by omega⟩
  rw [List.replicate_succ, List.set_cons_zero]
  simp [toI]

theorem rep_head {w : World} {g m : Nat} {v : Int} (h : Blk w g 3 (cellsOf (List.replicate m v))) (hm : 1 ≤ m) : w.cell? ⟨g, 0, none⟩ = some (.int .i64 v) := by
  rw [h.cell, cellsOf_get, List.getElem?_replicate, if_pos (by omega)]; rfl

set_option maxHeartbeats 2000000 in
set_option maxRecDepth 100000 in
theorem apery_any (A : Option Addr) (n c : Nat) (l : List Nat) (w : World) (hn : l.length = n) (h0 : 1 ≤ n) (h8 : n ≤ 8) (hx : Ints w A (toI l)) (hs : ∀ x ∈ l, 1 ≤ x ∧ x ≤ 2000) (hg : gcdL l = 1) :
    Calls Tryz.prog 13 #[.slice A n c] w (AperyTo w l) := by
  have hne : l ≠ [] := by intro e; subst e; simp at hn; omega
  have hm1 : 1 ≤ leastL l := (hs _ (leastL_mem hne)).1
  have hm2 : leastL l ≤ 2000 := (hs _ (leastL_mem hne)).2
  have K := Lib.hid (areSizes_any A n c (toI l) w (by rw [toI_length]; exact hn) (by omega) hx)
  have HS := Lib.hid (sizes_ok (by omega) (by omega) hs)
  have HN := Lib.hid hn
  have HX := Lib.hid hx
  have HSS := Lib.hid hs
  have HG := Lib.hid hg
  have HDone : Hid (∀ B, Ok (leastL l) 1099511627776 l B → Aperys (leastL l) l B) := Lib.hid fun B h =>
    h.done (b := 2000) hm1 hg (fun s hs' => (hs s hs').2) (by
      have : (leastL l - 1) * 2000 ≤ 1999 * 2000 := Nat.mul_le_mul_right _ (by omega)
      omega)
  have HStep : Hid (∀ k B C s, l[k]? = some s → Ok (leastL l) 1099511627776 (l.take k) B → Low (leastL l) B C s → Ok (leastL l) 1099511627776 (l.take (k + 1)) C) := Lib.hid fun k B C s hk h1 h2 => by
    have hl : k < l.length := (List.getElem?_eq_some_iff.1 hk).1
    have e : l[k] = s := (List.getElem?_eq_some_iff.1 hk).2
    rw [List.take_succ_eq_append_getElem hl, e]
    exact h1.next hm1 h2 (by rw [← e]; exact (hs _ (List.getElem_mem hl)).1)
  have HTop : Hid (∀ k B, Ok (leastL l) 1099511627776 (l.take k) B → B.length = leastL l ∧ ∀ r, at_ B r ≤ 1099511627776) := Lib.hid fun k B h => ⟨h.len, fun r => by
    rcases Nat.lt_or_ge r (leastL l) with h1 | h1
    · exact h.top r h1
    · have : at_ B r = 0 := by
        unfold at_
        rw [List.getD_eq_getElem?_getD, List.getElem?_eq_none (by rw [h.len]; exact h1)]
        rfl
      omega⟩
  have HStart := Lib.hid (Ok.start (top := 1099511627776) hm1)
  have KM := fun w (hx : Ints w A (toI l)) => Lib.hid (min_any A n c l w hn (by omega) (by omega) hx)
  clear hn hx hs hg hne
  generalize hml : leastL l = m at *
  have HML := Lib.hid hml
  clear hml
  go_enter Tryz.func13, Tryz.ntmps13
  go_wp2_with (go_at_call 21; refine ((K).out).mono ?_; rintro e w' ⟨rfl, rfl⟩; rw [HS.out])
  go_loopw [4, 16] (fun p i wr => ∃ k g : Nat, k ≤ n ∧ i = .int .i64 k ∧ p = .int .i64 g ∧ g = gcdL (l.take k) ∧ g ≤ 2000 ∧ Below w.heap.size w wr) (fun _ i _ => n - (intOf i).toNat)
  case atStart => exact ⟨0, 0, Nat.zero_le _, rfl, rfl, rfl, by omega, Below.refl _ _⟩
  case round =>
    obtain ⟨k, g, hk, rfl, rfl, hgm, hgb, hbw⟩ := hrel
    have HGM := Lib.hid hgm
    clear hgm
    by_cases hlt : k < n
    · have hl : k < l.length := by have := HN.out; omega
      obtain ⟨b', off', rfl, hc⟩ := toI_at (HX.out.below hbw) hl
      have hz := (HSS.out _ (List.getElem_mem hl)).2
      have HT : Hid (gcdL (l.take (k + 1)) = Nat.gcd g l[k]) := Lib.hid (by rw [List.take_succ_eq_append_getElem hl, gcdL_snoc, HGM.out])
      have HB : Hid (gcdL (l.take (k + 1)) ≤ 2000) := Lib.hid (gcdL_le (fun x hx => (HSS.out x hx).2) (fun x hx => (HSS.out x hx).1) _)
      generalize l[k] = z at *
      have KD := fun w => Lib.hid (divisor_any g z w (by omega) (by omega))
      have HBW := Lib.hid hbw
      clear hbw KM
      go_wp2_with (go_at_call 27; refine ((KD _).out).mono ?_; rintro e w1 ⟨rfl, hb1⟩; have HB1 := Lib.hid hb1; clear hb1)
      go_roundw
      case rel => exact ⟨k + 1, Nat.gcd g z, by omega, by go_num, rfl, HT.out.symm, by rw [← HT.out]; exact HB.out, HBW.out.trans (HB1.out.mono HBW.out.size)⟩
      case measure => simp [intOf]; omega
    · have hgt : g = 1 := by
        have h := HG.out
        rw [HGM.out, List.take_of_length_le (by have := HN.out; omega)]
        exact h
      subst hgt
      have KM1 := KM wr (HX.out.below hbw)
      have KR := Lib.hid (repeat_any wr.heap.size 0 1 1099511627776 m (wr.alloc (.cells #[.int .i64 1099511627776] 3)) ⟨hm1, by omega⟩ (by
        rw [(Blk.new wr 3 _).cell]; rfl) (by simp))
      have HBW := Lib.hid hbw
      clear hbw KM
      go_wp2_with (first | (go_at_call 28; refine ((KM1).out).mono ?_; rintro e w' ⟨rfl, rfl⟩) | (go_at_call 22; refine ((KR).out).mono ?_; rintro e w2 ⟨g2, rfl, hge, hBk, hb2⟩; have c0 : w2.cell? ⟨g2, 0, none⟩ = some (.int .i64 1099511627776) := (rep_head hBk hm1); have f0 : w2.frozen? ⟨g2, 0, none⟩ = false := hBk.frozen 0; have HGE := Lib.hid hge; have HBk := Lib.hid hBk; have HB2 := Lib.hid hb2; clear hge hBk hb2; rw [List.length_replicate]))
      have hsz1 : w.heap.size ≤ wr.heap.size := HBW.out.size
      have hg2 : w.heap.size ≤ g2 := by have := HGE.out; simp at this; omega
      have BL0 : Hid (Blk (w2.setCell ⟨g2, 0, none⟩ (.int .i64 0)) g2 3 (cellsOf (toI (0 :: List.replicate (m - 1) 1099511627776)))) := Lib.hid (by
        rw [← start_cells m hm1]; exact HBk.out.set_ _ _)
      have BE0 : Hid (Below w.heap.size w (w2.setCell ⟨g2, 0, none⟩ (.int .i64 0))) := Lib.hid
        (((HBW.out.alloc hsz1 _).trans (HB2.out.mono (by simp; omega))).setCell hg2 _)
      clear HBk HB2 HBW HGE c0 f0
      obtain ⟨wo, rfl⟩ : ∃ wo : World, wo = wr := ⟨_, rfl⟩
      go_loopw [35] (fun i wq => ∃ (k2 : Nat) (B : List Nat), k2 ≤ n ∧ i = .int .i64 k2 ∧ Ok m 1099511627776 (l.take k2) B ∧ Blk wq g2 3 (cellsOf (toI B)) ∧ Below w.heap.size w wq) (fun i _ => n - (intOf i).toNat)
      case atStart =>
        refine ⟨0, _, Nat.zero_le _, rfl, ?_, BL0.out, BE0.out⟩
        rw [List.take_zero]; exact HStart.out
      case round =>
        clear BL0 BE0
        obtain ⟨k2, B, hk2, rfl, hok, hBq, hbq⟩ := hrel
        have HOK := Lib.hid hok
        have HBQ := Lib.hid hBq
        have HBE := Lib.hid hbq
        have hin := HX.out.below hbq
        clear hok hBq hbq
        by_cases hlt : k2 < n
        · have hl : k2 < l.length := by have := HN.out; omega
          obtain ⟨b', off', rfl, hc⟩ := toI_at hin hl
          have hz1 := (HSS.out _ (List.getElem_mem hl)).1
          have hz2 := (HSS.out _ (List.getElem_mem hl)).2
          have hget : Hid (l[k2]? = some l[k2]) := Lib.hid (List.getElem?_eq_getElem hl)
          obtain ⟨hbl, hbt⟩ := HTop.out k2 B HOK.out
          generalize l[k2] = z at *
          have KL := Lib.hid (lower_any g2 m z B wr HBQ.out hbl ⟨hm1, hm2⟩ ⟨hz1, hz2⟩ hbt)
          clear hbl hbt hin
          go_wp2_with (go_at_call 29; refine ((KL).out).mono ?_; rintro e w3 ⟨C, rfl, hlow, hBC, hb3⟩; have HLow := Lib.hid hlow; have HBC := Lib.hid hBC; have HB3 := Lib.hid hb3; clear hlow hBC hb3)
          go_roundw
          case rel => exact ⟨k2 + 1, C, by omega, by go_num, HStep.out k2 B C z hget.out HOK.out HLow.out, HBC.out, HBE.out.trans (HB3.out.mono hg2)⟩
          case measure => simp [intOf]; omega
        · have hdone : Hid (Aperys m l B) := Lib.hid (HDone.out B (by
            have := HOK.out
            rw [List.take_of_length_le (by have := HN.out; omega)] at this
            exact this))
          clear hin
          go_wp2_with fail
          go_ret2
          exact ⟨g2, B, by rw [HML.out]; rfl, by rw [HML.out]; exact hdone.out, hg2, HBQ.out, HBE.out⟩

/-- What Frobenius leaves. -/
theorem frob_bad (A : Option Addr) (n c : Nat) (xs : List Int) (w : World) (hn : xs.length = n) (hbig : n ≤ 1000) (hx : Ints w A xs) (hs : sizesB xs = false) :
    Calls Tryz.prog 14 #[.slice A n c] w fun e w' => e = .returned (.tuple #[.int .i64 0, .int .i64 1]) ∧ Below w.heap.size w w' := by
  have K := Lib.hid (apery_bad A n c xs w hn hbig hx hs)
  clear hn hx hs
  go_enter Tryz.func14, Tryz.ntmps14
  go_wp2_with (go_at_call 13; refine ((K).out).mono ?_; rintro e w' ⟨rfl, hb⟩; have HB := Lib.hid hb; clear hb)
  go_ret2
  exact ⟨rfl, HB.out⟩
theorem frob_none (A : Option Addr) (n c : Nat) (l : List Nat) (w : World) (hn : l.length = n) (h0 : 1 ≤ n) (h8 : n ≤ 8) (hx : Ints w A (toI l)) (hs : ∀ x ∈ l, 1 ≤ x ∧ x ≤ 2000) (hg : 1 < gcdL l) :
    Calls Tryz.prog 14 #[.slice A n c] w fun e w' => e = .returned (.tuple #[.int .i64 0, .int .i64 6]) ∧ Below w.heap.size w w' := by
  have K := Lib.hid (apery_none A n c l w hn h0 h8 hx hs hg)
  clear hn hx hs
  go_enter Tryz.func14, Tryz.ntmps14
  go_wp2_with (go_at_call 13; refine ((K).out).mono ?_; rintro e w' ⟨rfl, hb⟩; have HB := Lib.hid hb; clear hb)
  go_ret2
  exact ⟨rfl, HB.out⟩
def FrobTo (w : World) (l : List Nat) (e : Ending) (w' : World) : Prop :=
  ∃ L : List Nat, e = .returned (.tuple #[.int .i64 ((mostL L : Nat) - (leastL l : Nat) : Int), .int .i64 0]) ∧ Aperys (leastL l) l L ∧ Below w.heap.size w w'
theorem Aperys.most {m : Nat} {l L : List Nat} (hm : 1 ≤ m ∧ m ≤ 2000) (hs : ∀ x ∈ l, x ≤ 2000) (h : Aperys m l L) : mostL L ≤ 4000000 := mostL_bound fun x hx => by
  obtain ⟨i, hi, rfl⟩ := List.mem_iff_getElem.1 hx
  have e : at_ L i = L[i] := by simp [at_, List.getD, hi]
  rw [← e]
  refine Nat.le_trans (h.bound (b := 2000) (by omega) hs i (by rw [← h.len]; exact hi)) ?_
  exact Nat.le_trans (Nat.mul_le_mul_right 2000 (show m - 1 ≤ 2000 by omega)) (by omega)
theorem frob_any (A : Option Addr) (n c : Nat) (l : List Nat) (w : World) (hn : l.length = n) (h0 : 1 ≤ n) (h8 : n ≤ 8) (hx : Ints w A (toI l)) (hs : ∀ x ∈ l, 1 ≤ x ∧ x ≤ 2000) (hg : gcdL l = 1) :
    Calls Tryz.prog 14 #[.slice A n c] w (FrobTo w l) := by
  have hne : l ≠ [] := by intro e; subst e; simp at hn; omega
  have hm1 : 1 ≤ leastL l := (hs _ (leastL_mem hne)).1
  have hm2 : leastL l ≤ 2000 := (hs _ (leastL_mem hne)).2
  have K := Lib.hid (apery_any A n c l w hn h0 h8 hx hs hg)
  have HSS := Lib.hid hs
  clear hn hx hs hg hne
  generalize hml : leastL l = m at *
  have HML := Lib.hid hml
  clear hml
  go_enter Tryz.func14, Tryz.ntmps14
  go_wp2_with fail
  refine ((K).out).mono ?_
  rintro e w1 ⟨g, L, rfl, hap, hge, hB, hb⟩
  have hap' : Aperys m l L := by rw [HML.out] at hap; exact hap
  have hmo := Aperys.most ⟨hm1, hm2⟩ (fun x hx => (HSS.out x hx).2) hap'
  have HAP := Lib.hid hap'
  have HBL := Lib.hid hB
  have HB := Lib.hid hb
  clear hap hap' hge hB hb
  have KM := Lib.hid (max_any (some ⟨g, 0, none⟩) m m L w1 HAP.out.len (by omega) (by omega) HBL.out.ints)
  simp only [HML.out]
  go_wp2_with (go_at_call 30; refine ((KM).out).mono ?_; rintro e w' ⟨rfl, rfl⟩)
  go_ret2
  exact ⟨L, by rw [HML.out]; rfl, by rw [HML.out]; exact HAP.out, HB.out⟩

end Go.Proofs.YthboolnacmpmlaaGreatDoor
