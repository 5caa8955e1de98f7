/- Bags: the reference's Bags, which calls itself. -/
import Derived.Shelf.RegionOpenPlain
import Derived.Test.YthboolnacmpmlaaGreatDoorTimes
import Derived.Test.YthboolnacmpmlaaGreatDoorMadeLaw
namespace Go.Proofs.YthboolnacmpmlaaGreatDoor
open Go.RowKit Go.Sort Bag

def RefBagsTo (w : World) (l : List Nat) (t : Nat) (e : Ending) (w' : World) : Prop :=
  Below w.heap.size w w' ∧ ∃ (v : Value) (ok : Bool), e = .returned (.tuple #[v, .bool ok]) ∧ (ok = true → best l t < never ∧ Own w' w.heap.size v (toI (counts l t))) ∧ (ok = false → ¬ best l t < never)

theorem best_nil_iff (t : Nat) : best [] t < never ↔ t = 0 := by
  rw [best_nil]
  split
  · rename_i h; subst h; simp [never]
  · rename_i h; simp [h]

set_option maxRecDepth 100000 in
theorem refBags_nil (A : Option Addr) (c t : Nat) (w : World) :
    Calls Tryz.prog 11 #[.slice A 0 c, .int .i64 t] w (RefBagsTo w [] t) := by
  have h := best_nil_iff t
  have O := Own.empty w
  by_cases ht : t = 0
  · subst ht
    have HF := Lib.hid (h.2 rfl)
    have HO := Lib.hid O
    clear h O
    go_enter Tryz.func11, Tryz.ntmps11
    go_wp2
    go_ret2
    exact ⟨(Below.refl _ _).alloc (Nat.le_refl _) _, _, true, rfl, fun _ => ⟨HF.out, HO.out⟩, fun h => by cases h⟩
  · have HF : Hid (¬ best [] t < never) := Lib.hid fun k => ht (h.1 k)
    have hd : ((t : Int) == 0) = false := by simp; omega
    clear h O
    go_enter Tryz.func11, Tryz.ntmps11
    go_wp2
    go_ret2
    exact ⟨(Below.refl _ _).alloc (Nat.le_refl _) _, _, false, rfl, fun h => (by cases h), fun _ => HF.out⟩

theorem ints_tail {w : World} {b off : Nat} {s : Nat} {l : List Nat} (h : Ints w (some ⟨b, off, none⟩) (toI (s :: l))) : Ints w.drew (some ⟨b, off + 1, none⟩) (toI l) := fun _ => by
  obtain ⟨b', off', e, hlt, hc⟩ := h (by simp [toI])
  simp only [Option.some.injEq, Addr.mk.injEq, and_true] at e
  obtain ⟨rfl, rfl⟩ := e
  refine ⟨b, off + 1, rfl, hlt, fun i x hx => ?_⟩
  have := hc (i + 1) x (by simpa [toI] using hx)
  rw [show off + 1 + i = off + (i + 1) by omega]
  exact this

/-- What was found among the first k counts of the first size. -/
def Found1 (w : World) (s : Nat) (l : List Nat) (t k : Nat) (bv fd fw : Value) (wr : World) : Prop :=
  (fd = .bool false ∧ fw = .int .i64 0 ∧ ∀ c, c < k → ¬ best l (t - c * s) < never) ∨
    ∃ c0, fd = .bool true ∧ fw = .int .i64 (c0 + best l (t - c0 * s) : Nat) ∧ c0 < k ∧ best l (t - c0 * s) < never ∧ Own wr w.heap.size bv (toI (c0 :: counts l (t - c0 * s))) ∧
      (∀ c, c < k → best l (t - c * s) < never → c0 + best l (t - c0 * s) ≤ c + best l (t - c * s)) ∧ ∀ c, c < c0 → best l (t - c * s) < never → c0 + best l (t - c0 * s) < c + best l (t - c * s)

theorem Own.one (w : World) (x : Int) : Own (w.alloc (.cells #[.int .i64 x] 3)) w.heap.size (.slice (some ⟨w.heap.size, 0, none⟩) 1 1) [x] :=
  ⟨by simp [ints], .inr ⟨w.heap.size, 1, #[.int .i64 x], rfl, Nat.le_refl _, heap_alloc_new w _, Nat.le_refl _, by simp [maxLen], rfl, rfl⟩⟩
theorem wpList_app2 {w : World} {ops : Array Oper} {rest : List Oper} {o : Oper} {a : Act} {Q : Exit → Act → World → Prop} (hgd : o.guard = none) (s x : Operand)
    (ho : o.op = .call { callee := .builtin .append, args := #[s, x], argTypes := #[22, 22] }) (base base' : Nat) (v u : Value) (xs ys : List Int)
    (hs : a.eval s = v) (hx : a.eval x = u) (hown : Own w base v xs) (hu : Own w base' u ys) (hlen : xs.length + ys.length ≤ 100000) (hb : base ≤ w.heap.size)
    (h : ∀ v' w', Own w' base v' (xs ++ ys) → w.grownBy w' v.ownBlock → (v'.ownBlock = v.ownBlock ∨ v'.ownBlock = some w.heap.size) → wpList Tryz.prog ops Q rest (a.put o.dst v') w') : wpList Tryz.prog ops Q (o :: rest) a w := by
  obtain ⟨A, c, rfl, _, hin, _⟩ := hu.slice
  exact wpList_app hgd s x ho base v xs ys A ys.length c hs hx hown rfl hin hlen hb h
theorem sum_own {w : World} {base : Nat} {v : Value} {l : List Nat} (h : Own w base v (toI l)) (hbig : l.length ≤ 1000) (hs : l.sum ≤ 1000000000) :
    Calls Tryz.prog 20 #[v] w fun e w' => e = .returned (.int .i64 (l.sum : Nat)) ∧ w = w' := by
  obtain ⟨A, c, rfl, _, hin, _⟩ := h.slice
  rw [toI_length]
  exact sum_any A l.length c l w rfl hbig (fun x hx => Nat.le_trans (sum_mem hx) hs) hin
theorem found_skip {w wr w2 : World} {s t k : Nat} {l : List Nat} {bv fd fw : Value} (h : Found1 w s l t k bv fd fw wr) (hn : ¬ best l (t - k * s) < never) (hb : Below wr.heap.size wr w2) : Found1 w s l t (k + 1) bv fd fw w2 := by
  rcases h with ⟨a, b, c⟩ | ⟨c0, a, b, c, d, e, f, g⟩
  · refine .inl ⟨a, b, fun c' hc => ?_⟩
    rcases Nat.lt_or_eq_of_le (Nat.le_of_lt_succ hc) with h | rfl
    · exact c c' h
    · exact hn
  · refine .inr ⟨c0, a, b, by omega, d, e.belows hb (Nat.le_refl _), fun c' hc hf => ?_, g⟩
    rcases Nat.lt_or_eq_of_le (Nat.le_of_lt_succ hc) with h | rfl
    · exact f c' h hf
    · exact absurd hf hn
theorem found_first {w w2 : World} {s t k : Nat} {l : List Nat} {v : Value} (h : ∀ c, c < k → ¬ best l (t - c * s) < never) (hn : best l (t - k * s) < never) (ho : Own w2 w.heap.size v (toI (k :: counts l (t - k * s)))) :
    Found1 w s l t (k + 1) v (.bool true) (.int .i64 (k + best l (t - k * s) : Nat)) w2 := by
  refine .inr ⟨k, rfl, rfl, by omega, hn, ho, fun c' hc hf => ?_, fun c' hc hf => absurd hf (h c' hc)⟩
  rcases Nat.lt_or_eq_of_le (Nat.le_of_lt_succ hc) with h' | rfl
  · exact absurd hf (h c' h')
  · exact Nat.le_refl _
theorem found_less {w w2 : World} {s t k c0 : Nat} {l : List Nat} {v : Value} (f : ∀ c, c < k → best l (t - c * s) < never → c0 + best l (t - c0 * s) ≤ c + best l (t - c * s)) (hl : k + best l (t - k * s) < c0 + best l (t - c0 * s)) (hn : best l (t - k * s) < never) (ho : Own w2 w.heap.size v (toI (k :: counts l (t - k * s)))) :
    Found1 w s l t (k + 1) v (.bool true) (.int .i64 (k + best l (t - k * s) : Nat)) w2 := by
  refine .inr ⟨k, rfl, rfl, by omega, hn, ho, fun c' hc hf => ?_, fun c' hc hf => ?_⟩
  · rcases Nat.lt_or_eq_of_le (Nat.le_of_lt_succ hc) with h' | rfl
    · have := f c' h' hf; omega
    · exact Nat.le_refl _
  · have := f c' hc hf; omega
theorem found_keep {w wr w2 : World} {s t k c0 : Nat} {l : List Nat} {bv : Value} (c : c0 < k) (d : best l (t - c0 * s) < never) (e : Own wr w.heap.size bv (toI (c0 :: counts l (t - c0 * s)))) (f : ∀ c, c < k → best l (t - c * s) < never → c0 + best l (t - c0 * s) ≤ c + best l (t - c * s))
    (g : ∀ c, c < c0 → best l (t - c * s) < never → c0 + best l (t - c0 * s) < c + best l (t - c * s)) (hl : ¬ k + best l (t - k * s) < c0 + best l (t - c0 * s)) (hb : Below wr.heap.size wr w2) :
    Found1 w s l t (k + 1) bv (.bool true) (.int .i64 (c0 + best l (t - c0 * s) : Nat)) w2 := by
  refine .inr ⟨c0, rfl, rfl, by omega, d, e.belows hb (Nat.le_refl _), fun c' hc hf => ?_, g⟩
  rcases Nat.lt_or_eq_of_le (Nat.le_of_lt_succ hc) with h' | rfl
  · exact f c' h' hf
  · omega

set_option maxHeartbeats 4000000 in
set_option maxRecDepth 100000 in
theorem refBags_any : ∀ (l : List Nat) (A : Option Addr) (n c t : Nat) (w : World), l.length = n → n ≤ c → n ≤ 8 → (∀ x ∈ l, 1 ≤ x ∧ x ≤ 2000) → t ≤ 1000 → Ints w A (toI l) →
    Calls Tryz.prog 11 #[.slice A n c, .int .i64 t] w (RefBagsTo w l t)
  | [], A, n, c, t, w, hn, _, _, _, _, _ => by subst hn; exact refBags_nil A c t w
  | s :: l, A, n, c, t, w, hn, hc, h8, hs, ht, hx => by
    have ih := Lib.hid fun (A : Option Addr) (n c t : Nat) (w : World) h1 h2 h3 h5 h6 => refBags_any l A n c t w h1 h2 h3 (fun x hx => hs x (by simp [hx])) h5 h6
    have h1 := hs s (by simp)
    have hl1 : Hid (∀ x ∈ l, 1 ≤ x) := Lib.hid fun x hx => (hs x (by simp [hx])).1
    have hn1 : 1 ≤ n := by rw [← hn]; simp
    have HN : Hid (l.length = n - 1) := Lib.hid (by rw [← hn]; simp)
    have HX := Lib.hid hx
    obtain ⟨b, off, e, hblt, hcs⟩ := hx (by simp [toI])
    subst e
    have HC := Lib.hid hcs
    have hc0 : w.cell? ⟨b, off, none⟩ = some (.int .i64 (s : Nat)) := by simpa using hcs 0 (s : Nat) (by simp [toI])
    clear hn hs hx hcs
    go_enter Tryz.func11, Tryz.ntmps11
    have hz1 : (((n : Nat) : Int) == 0) = false := by rw [beq_eq_false_iff_ne]; omega
    have hz2 : (n == 0) = false := by rw [beq_eq_false_iff_ne]; omega
    go_wp2_with fail
    go_loopw [6, 7, 8, 9] (fun bv fd fw i wr => ∃ k : Nat, i = .int .i64 k ∧ k * s ≤ t + s ∧ Below w.heap.size w wr ∧ Found1 w s l t k bv fd fw wr) (fun _ _ _ i _ => t + 1 - (intOf i).toNat)
    case atStart => exact ⟨0, rfl, by omega, Below.refl _ _, .inl ⟨rfl, rfl, fun c h => by omega⟩⟩
    case round =>
      obtain ⟨k, rfl, hks, hbw, hfd⟩ := hrel
      have HF := Lib.hid hfd
      have HBW := Lib.hid hbw
      have hk1 : k ≤ t + 1 := by
        have : k ≤ k * s := Nat.le_mul_of_pos_right k h1.1
        rcases Nat.lt_or_ge (t + 1) k with h | h
        · have h3 : (t + 2) * s ≤ k * s := Nat.mul_le_mul_right s h
          have h4 : (t + 2) * s = t * s + 2 * s := Nat.add_mul _ _ _
          have h5 : t ≤ t * s := Nat.le_mul_of_pos_right t h1.1
          omega
        · exact h
      have hc1 : wr.cell? ⟨b, off, none⟩ = some (.int .i64 (s : Nat)) := (hbw.cell (p := ⟨b, off, none⟩) hblt).trans hc0
      have hmul : ((k : Nat) : Int) * (s : Nat) = ((k * s : Nat) : Int) := by push_cast; rfl
      clear hfd hbw hc0
      have hkq : k ≤ k * s := Nat.le_mul_of_pos_right k h1.1
      generalize hq : k * s = q at *
      have HQ := Lib.hid hq
      clear hq
      by_cases hle : q ≤ t
      · have hkt : k ≤ t := Nat.le_trans hkq hle
        have hc1d : wr.drew.cell? ⟨b, off, none⟩ = some (.int .i64 (s : Nat)) := hc1
        have hsub : ((t : Nat) : Int) - (q : Nat) = ((t - q : Nat) : Int) := by omega
        go_wp2_with fail
        have hwq : IntKind.i64.wrap ((q : Nat) : Int) = ((q : Nat) : Int) := by rw [IntKind.wrap_i64]; omega
        have hwt : IntKind.i64.wrap (((t : Nat) : Int) - (q : Nat)) = ((t - q : Nat) : Int) := by rw [IntKind.wrap_i64]; omega
        have hwu : IntKind.i64.wrap (((t - q : Nat) : Int)) = ((t - q : Nat) : Int) := by rw [IntKind.wrap_i64]; omega
        have hmx : Tryz.prog.follows .mixedOrders = true := by kernel_rfl
        by_cases hcc : c = 1
        · subst hcc
          have HN1 : Hid (n = 1) := Lib.hid (by omega)
          have hl0 : Hid (l = []) := Lib.hid (List.eq_nil_of_length_eq_zero (by have := HN.out; have := HN1.out; omega))
          have K := Lib.hid (ih.out (some ⟨b, off, none⟩) 0 0 (t - q) wr.drew (by have := HN.out; have := HN1.out; omega) (by omega) (by omega) (by omega) (by rw [hl0.out]; exact Ints.nil _ _))
          go_region_with_o (go_at_call 11; (with_reducible refine ((K).out).mono ?_); rintro e w2 ⟨hb2, v2, ok, rfl, hok1, hok2⟩; have HB2 := Lib.hid hb2; have HK1 := Lib.hid hok1; have HK2 := Lib.hid hok2; clear hb2 hok1 hok2)
          all_goals
            have HBR : Hid (Below wr.heap.size wr w2) := Lib.hid ((Below.refl _ wr).drew.trans HB2.out)
            have HBW2 := Lib.hid (HBW.out.trans (HBR.out.mono HBW.out.size))
            have hs2 := HBW2.out.size
            have hq2 : (k + 1) * s ≤ t + s := by rw [Nat.add_mul]; have := HQ.out; omega
            clear HB2 hc1 hc1d K
            cases ok with
            | false =>
              have HN2 := Lib.hid (HK2.out rfl)
              have HFS : Hid (∀ W, Below wr.heap.size wr W → Found1 w s l t (k + 1) u6 u7 u8 W) := Lib.hid fun W hb => found_skip HF.out (by rw [HQ.out]; exact HN2.out) hb
              clear HK1 HK2
              go_wp2_with fail
              go_roundw
              case rel => exact ⟨k + 1, by go_num, hq2, HBW2.out, HFS.out _ HBR.out⟩
              case measure => simp [intOf]; omega
            | true =>
              obtain ⟨hf2, ho2⟩ := HK1.out rfl
              have HF2 := Lib.hid hf2
              have HO2 := Lib.hid ho2
              have hsm := best_small hl1.out hf2
              have hcl := counts_length l (t - q)
              have HCS : Hid ((k :: counts l (t - q)).sum = k + best l (t - q)) := Lib.hid (by rw [List.sum_cons, (counts_sum l (t - q) hl1.out hf2).1])
              have HLN : Hid ((counts l (t - q)).length ≤ 8) := Lib.hid (by rw [hcl, HN.out]; omega)
              clear hf2 ho2 HK1 HK2 hcl
              go_wp2_with (at_builtin; refine wpList_app2 rfl (.tmp 45) (.tmp 46) rfl w2.heap.size _ (.slice (some ⟨w2.heap.size, 0, none⟩) 1 1) v2 [(k : Int)] (toI (counts l (t - q))) rfl rfl (Own.one w2 k) (HO2.out.alloc _) (by rw [toI_length]; have := HLN.out; simp; omega) (by simp) ?_; intro v3 w3 ho hg hat; have HO3 := Lib.hid ho; have HG3 := Lib.hid hg; clear ho hg hat)
              have HO4 : Hid (Own w3 w2.heap.size v3 (toI (k :: counts l (t - q)))) := Lib.hid HO3.out
              have HB3 : Hid (Below w2.heap.size w2 w3) := Lib.hid (((Below.refl _ w2).alloc (Nat.le_refl _) _).grown HG3.out (by simp) (fun k hk => by simp [Value.ownBlock] at hk; omega))
              have HBW3 := Lib.hid (HBW2.out.trans (HB3.out.mono hs2))
              have HBR3 := Lib.hid (HBR.out.trans (HB3.out.mono HBR.out.size))
              have KS := Lib.hid (sum_own HO4.out (by have := HLN.out; simp; omega) (by rw [HCS.out]; omega))
              rw [HCS.out] at KS
              have HOW : Hid (Own w3 w.heap.size v3 (toI (k :: counts l (t - q)))) := Lib.hid (HO4.out.low hs2)
              clear HO3 HG3 HO4 HCS HB3 HBR
              refine (KS.out).mono ?_
              rintro e w4 ⟨rfl, rfl⟩
              rcases HF.out with ⟨rfl, rfl, hno⟩ | ⟨c0, rfl, rfl, hc0k, hfc, hoc, hmin, hfst⟩
              · have HFS : Hid (Found1 w s l t (k + 1) v3 (.bool true) (.int .i64 (k + best l (t - q) : Nat)) w3) := Lib.hid (by
                  have := found_first (w := w) (w2 := w3) (v := v3) hno (by rw [HQ.out]; exact HF2.out) (by rw [HQ.out]; exact HOW.out)
                  rw [HQ.out] at this
                  exact this)
                clear hno HF HF2
                generalize best l (t - q) = bb at *
                go_wp2_with fail
                go_roundw
                case rel => exact ⟨k + 1, by go_num, hq2, HBW3.out, HFS.out⟩
                case measure => simp [intOf]; omega
              · have hsm0 := best_small hl1.out hfc
                by_cases hl : k + best l (t - q) < c0 + best l (t - c0 * s)
                · have HFS : Hid (Found1 w s l t (k + 1) v3 (.bool true) (.int .i64 (k + best l (t - q) : Nat)) w3) := Lib.hid (by
                    have := found_less (w := w) (w2 := w3) (v := v3) hmin (by rw [HQ.out]; exact hl) (by rw [HQ.out]; exact HF2.out) (by rw [HQ.out]; exact HOW.out)
                    rw [HQ.out] at this
                    exact this)
                  clear hc0k hfc hoc hmin hfst HF HF2
                  generalize best l (t - q) = bb at *
                  generalize c0 + best l (t - c0 * s) = ff at *
                  go_wp2_with fail
                  go_roundw
                  case rel => exact ⟨k + 1, by go_num, hq2, HBW3.out, HFS.out⟩
                  case measure => simp [intOf]; omega
                · have HFS : Hid (Found1 w s l t (k + 1) u6 (.bool true) (.int .i64 (c0 + best l (t - c0 * s) : Nat)) w3) := Lib.hid (found_keep hc0k hfc hoc hmin hfst (by rw [HQ.out]; exact hl) HBR3.out)
                  clear hc0k hfc hoc hmin hfst HF HF2
                  generalize best l (t - q) = bb at *
                  generalize c0 + best l (t - c0 * s) = ff at *
                  go_wp2_with fail
                  go_roundw
                  case rel => exact ⟨k + 1, by go_num, hq2, HBW3.out, HFS.out⟩
                  case measure => simp [intOf]; omega
        · have hcm : ¬ (c = 1) := hcc
          have K := Lib.hid (ih.out (some ⟨b, off + 1, none⟩) (n - 1) (c - 1) (t - q) wr.drew HN.out (by omega) (by omega) (by omega) (ints_tail (HX.out.below HBW.out)))
          go_region_with_o (go_at_call 11; (with_reducible refine ((K).out).mono ?_); rintro e w2 ⟨hb2, v2, ok, rfl, hok1, hok2⟩; have HB2 := Lib.hid hb2; have HK1 := Lib.hid hok1; have HK2 := Lib.hid hok2; clear hb2 hok1 hok2)
          all_goals
            have HBR : Hid (Below wr.heap.size wr w2) := Lib.hid ((Below.refl _ wr).drew.trans HB2.out)
            have HBW2 := Lib.hid (HBW.out.trans (HBR.out.mono HBW.out.size))
            have hs2 := HBW2.out.size
            have hq2 : (k + 1) * s ≤ t + s := by rw [Nat.add_mul]; have := HQ.out; omega
            clear HB2 hc1 hc1d K
            cases ok with
            | false =>
              have HN2 := Lib.hid (HK2.out rfl)
              have HFS : Hid (∀ W, Below wr.heap.size wr W → Found1 w s l t (k + 1) u6 u7 u8 W) := Lib.hid fun W hb => found_skip HF.out (by rw [HQ.out]; exact HN2.out) hb
              clear HK1 HK2
              go_wp2_with fail
              go_roundw
              case rel => exact ⟨k + 1, by go_num, hq2, HBW2.out, HFS.out _ HBR.out⟩
              case measure => simp [intOf]; omega
            | true =>
              obtain ⟨hf2, ho2⟩ := HK1.out rfl
              have HF2 := Lib.hid hf2
              have HO2 := Lib.hid ho2
              have hsm := best_small hl1.out hf2
              have hcl := counts_length l (t - q)
              have HCS : Hid ((k :: counts l (t - q)).sum = k + best l (t - q)) := Lib.hid (by rw [List.sum_cons, (counts_sum l (t - q) hl1.out hf2).1])
              have HLN : Hid ((counts l (t - q)).length ≤ 8) := Lib.hid (by rw [hcl, HN.out]; omega)
              clear hf2 ho2 HK1 HK2 hcl
              go_wp2_with (at_builtin; refine wpList_app2 rfl (.tmp 45) (.tmp 46) rfl w2.heap.size _ (.slice (some ⟨w2.heap.size, 0, none⟩) 1 1) v2 [(k : Int)] (toI (counts l (t - q))) rfl rfl (Own.one w2 k) (HO2.out.alloc _) (by rw [toI_length]; have := HLN.out; simp; omega) (by simp) ?_; intro v3 w3 ho hg hat; have HO3 := Lib.hid ho; have HG3 := Lib.hid hg; clear ho hg hat)
              have HO4 : Hid (Own w3 w2.heap.size v3 (toI (k :: counts l (t - q)))) := Lib.hid HO3.out
              have HB3 : Hid (Below w2.heap.size w2 w3) := Lib.hid (((Below.refl _ w2).alloc (Nat.le_refl _) _).grown HG3.out (by simp) (fun k hk => by simp [Value.ownBlock] at hk; omega))
              have HBW3 := Lib.hid (HBW2.out.trans (HB3.out.mono hs2))
              have HBR3 := Lib.hid (HBR.out.trans (HB3.out.mono HBR.out.size))
              have KS := Lib.hid (sum_own HO4.out (by have := HLN.out; simp; omega) (by rw [HCS.out]; omega))
              rw [HCS.out] at KS
              have HOW : Hid (Own w3 w.heap.size v3 (toI (k :: counts l (t - q)))) := Lib.hid (HO4.out.low hs2)
              clear HO3 HG3 HO4 HCS HB3 HBR
              refine (KS.out).mono ?_
              rintro e w4 ⟨rfl, rfl⟩
              rcases HF.out with ⟨rfl, rfl, hno⟩ | ⟨c0, rfl, rfl, hc0k, hfc, hoc, hmin, hfst⟩
              · have HFS : Hid (Found1 w s l t (k + 1) v3 (.bool true) (.int .i64 (k + best l (t - q) : Nat)) w3) := Lib.hid (by
                  have := found_first (w := w) (w2 := w3) (v := v3) hno (by rw [HQ.out]; exact HF2.out) (by rw [HQ.out]; exact HOW.out)
                  rw [HQ.out] at this
                  exact this)
                clear hno HF HF2
                generalize best l (t - q) = bb at *
                go_wp2_with fail
                go_roundw
                case rel => exact ⟨k + 1, by go_num, hq2, HBW3.out, HFS.out⟩
                case measure => simp [intOf]; omega
              · have hsm0 := best_small hl1.out hfc
                by_cases hl : k + best l (t - q) < c0 + best l (t - c0 * s)
                · have HFS : Hid (Found1 w s l t (k + 1) v3 (.bool true) (.int .i64 (k + best l (t - q) : Nat)) w3) := Lib.hid (by
                    have := found_less (w := w) (w2 := w3) (v := v3) hmin (by rw [HQ.out]; exact hl) (by rw [HQ.out]; exact HF2.out) (by rw [HQ.out]; exact HOW.out)
                    rw [HQ.out] at this
                    exact this)
                  clear hc0k hfc hoc hmin hfst HF HF2
                  generalize best l (t - q) = bb at *
                  generalize c0 + best l (t - c0 * s) = ff at *
                  go_wp2_with fail
                  go_roundw
                  case rel => exact ⟨k + 1, by go_num, hq2, HBW3.out, HFS.out⟩
                  case measure => simp [intOf]; omega
                · have HFS : Hid (Found1 w s l t (k + 1) u6 (.bool true) (.int .i64 (c0 + best l (t - c0 * s) : Nat)) w3) := Lib.hid (found_keep hc0k hfc hoc hmin hfst (by rw [HQ.out]; exact hl) HBR3.out)
                  clear hc0k hfc hoc hmin hfst HF HF2
                  generalize best l (t - q) = bb at *
                  generalize c0 + best l (t - c0 * s) = ff at *
                  go_wp2_with fail
                  go_roundw
                  case rel => exact ⟨k + 1, by go_num, hq2, HBW3.out, HFS.out⟩
                  case measure => simp [intOf]; omega
      · rcases HF.out with ⟨rfl, rfl, hno⟩ | ⟨c0, rfl, rfl, hc0k, hfc, hoc, hmin, hfst⟩
        · have HFin : Hid (¬ best (s :: l) t < never) := Lib.hid (times_none h1.1 fun c hc => hno c (by
            have : c * s < k * s := by rw [HQ.out]; omega
            exact Nat.lt_of_mul_lt_mul_right this))
          clear hno HF
          go_wp2_with fail
          go_ret2
          exact ⟨HBW.out, _, false, rfl, fun h => (by cases h), fun _ => HFin.out⟩
        · have hck : ∀ c, c * s ≤ t → c < k := fun c hc => by
            have : c * s < k * s := by rw [HQ.out]; omega
            exact Nat.lt_of_mul_lt_mul_right this
          have hc0 : c0 * s ≤ t := by
            have h := Nat.mul_le_mul_right s (show c0 + 1 ≤ k by omega)
            rw [Nat.add_mul, HQ.out] at h
            omega
          obtain ⟨e1, e2, e3⟩ := times_pick h1.1 hl1.out (by omega) hc0 hfc (fun c hc hf => hmin c (hck c hc) hf) hfst
          have HFin : Hid (best (s :: l) t < never ∧ Own wr w.heap.size u6 (toI (counts (s :: l) t))) := Lib.hid ⟨e3, by
            rw [show counts (s :: l) t = times s l t :: counts l (t - times s l t * s) from rfl, e1]; exact hoc⟩
          clear hc0k hfc hoc hmin hfst HF e1 e2 e3 hck hc0
          generalize c0 + best l (t - c0 * s) = ff at *
          go_wp2_with fail
          go_ret2
          exact ⟨HBW.out, _, true, rfl, fun _ => HFin.out, fun h => by cases h⟩

end Go.Proofs.YthboolnacmpmlaaGreatDoor
