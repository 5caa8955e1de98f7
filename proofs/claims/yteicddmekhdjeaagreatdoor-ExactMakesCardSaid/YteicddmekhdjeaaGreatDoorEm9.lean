/- Parts of the proof, one after the other: BigW, BigDiv. -/
import Derived.Test.YteicddmekhdjeaaGreatDoorEm7
/- Integers of package number of which one word is too great for an int64: 2^63 and its negative. -/
namespace Go.Proofs.YteicddmekhdjeaaGreatDoor
open Go.RowKit Go.Sort

/-- A slice of one word: 2^63. -/
def BigAt (w : World) (A : Option Addr) (c : Nat) : Prop := ∃ b off, A = some ⟨b, off, none⟩ ∧ 1 ≤ c ∧ c ≤ 1000000000 ∧ w.cell? ⟨b, off, none⟩ = some (.int .u64 9223372036854775808)
theorem BigAt.below {w w' : World} {A : Option Addr} {c : Nat} (h : BigAt w A c) (hb : Below w.heap.size w w') : BigAt w' A c := by
  obtain ⟨b, off, e, h1, h2, h3⟩ := h
  exact ⟨b, off, e, h1, h2, (hb.cell (p := ⟨b, off, none⟩) (World.block_lt_of_cell? w _ h3)).trans h3⟩
theorem BigAt.nat {w : World} {A : Option Addr} {c : Nat} (h : BigAt w A c) : NatAt w ⟨A, 1, c⟩ 9223372036854775808 := by
  obtain ⟨b, off, rfl, h1, h2, h3⟩ := h
  exact NatAt.one (x := 9223372036854775808) (by unfold Word; omega) (by omega) ⟨h1, h2⟩ h3
theorem BigAt.of {w : World} {s : Sl} (h : NatAt w s 9223372036854775808) : s.n = 1 ∧ BigAt w s.A s.c := by
  obtain ⟨xs, hc, hv, hn, ⟨h1, h2⟩, hcl⟩ := h
  rcases Canon.small hc (by rw [hv]; unfold B64; omega) with e | e
  · rw [e] at hv; exact absurd hv (by decide)
  · rw [hv] at e
    have hn1 : s.n = 1 := by rw [hn, e]; rfl
    obtain ⟨b, off, ea, hx⟩ := hcl (by rw [e]; simp)
    exact ⟨hn1, b, off, ea, by omega, h2, by have := hx 0 9223372036854775808 (by rw [e]; rfl); simpa using this⟩

/-- An integer's struct in a block. -/
def IBox (w : World) (g : Nat) (s : Int) (v : Value) : Prop := w.heap[g]? = some (.cells #[.int .i64 s, v] 39 (0, 0))
section
variable {w w' : World} {g : Nat} {s : Int} {v : Value}
theorem IBox.lt (h : IBox w g s v) : g < w.heap.size := (Array.getElem?_eq_some_iff.1 h).1
theorem IBox.new (w : World) (s : Int) (v : Value) : IBox (w.alloc (.cells #[.int .i64 s, v] 39)) w.heap.size s v := heap_alloc_new _ _
theorem IBox.alloc (h : IBox w g s v) (o : Obj) : IBox (w.alloc o) g s v := (Below.heap_alloc w o g h.lt).trans h
theorem IBox.below (h : IBox w g s v) {B : Nat} (hb : Below B w w') (hg : g < B) : IBox w' g s v := (hb.block g hg).trans h
theorem IBox.cells (h : IBox w g s v) : w.cell? ⟨g, 0, none⟩ = some (.int .i64 s) ∧ w.cell? ⟨g, 1, none⟩ = some v := by
  constructor
  · rw [cell_of_row w g 0 _ _ (0, 0) h]; rfl
  · rw [cell_of_row w g 1 _ _ (0, 0) h]; rfl
theorem IBox.frozen (h : IBox w g s v) (i : Nat) : w.frozen? ⟨g, i, none⟩ = false := by simp [World.frozen?, show w.heap[g]? = _ from h]
theorem IBox.far (h : IBox w g s v) {p : Addr} (hp : g ≠ p.block) (u : Value) : IBox (w.setCell p u) g s v := (Below.heap_setCell w p u g hp).trans h
end
/-- A store of an integer: what lies in its cells; words elsewhere stay. -/
theorem IBox.put {w : World} {g n d : Nat} {s : Int} {B : Option Addr} (h : IBox w g s (.slice B n d)) (s' : Int) (u : Value) :
    IBox ((w.setCell ⟨g, 0, none⟩ (.int .i64 s')).setCell ⟨g, 1, none⟩ u) g s' u ∧
    (∀ {b off : Nat} {x : Int}, w.cell? ⟨b, off, none⟩ = some (.int .u64 x) → ((w.setCell ⟨g, 0, none⟩ (.int .i64 s')).setCell ⟨g, 1, none⟩ u).cell? ⟨b, off, none⟩ = some (.int .u64 x)) ∧
    (∀ {w0 : World} {k : Nat}, Below k w0 w → k ≤ g → Below k w0 ((w.setCell ⟨g, 0, none⟩ (.int .i64 s')).setCell ⟨g, 1, none⟩ u)) := by
  refine ⟨?_, fun {b off x} hc => ?_, fun hb hk => (hb.setCell (p := ⟨g, 0, none⟩) hk _).setCell (p := ⟨g, 1, none⟩) hk _⟩
  · have e : w.heap[g]? = _ := h
    unfold IBox
    simp [World.setCell, Array.getElem?_modify, e]
  · have hb : b ≠ g := by
      rintro rfl
      rw [cell_of_row w b off _ _ (0, 0) h] at hc
      rcases Nat.lt_or_ge off 2 with q | q
      · rcases (show off = 0 ∨ off = 1 by omega) with rfl | rfl <;> simp at hc
      · rw [Array.getElem?_eq_none (by simp; omega)] at hc
        cases hc
    have hx : ∀ i, (⟨g, i, none⟩ : Addr) ≠ ⟨b, off, none⟩ := fun i e => hb (congrArg Addr.block e).symm
    rw [World.cell?_setCell_other _ _ _ _ (hx 1), World.cell?_setCell_other _ _ _ _ (hx 0)]
    exact hc
theorem BigAt.put {w w' : World} {A : Option Addr} {c : Nat} (h : BigAt w A c) (hp : ∀ {b off : Nat} {x : Int}, w.cell? ⟨b, off, none⟩ = some (.int .u64 x) → w'.cell? ⟨b, off, none⟩ = some (.int .u64 x)) : BigAt w' A c := by
  obtain ⟨b, off, e, h1, h2, h3⟩ := h
  exact ⟨b, off, e, h1, h2, hp h3⟩

theorem of_min (w : World) : Calls Tryz.prog 10 #[.int .i64 (-9223372036854775808)] w fun e w' => ∃ A c, e = .returned (.agg #[.int .i64 (-1), .slice A 1 c]) ∧ BigAt w' A c ∧ Below w.heap.size w w' := by
  have W := fun V => Lib.hid (word_any 9223372036854775808 (by unfold Word; omega) V)
  have z0 := IBox.new w 0 (.slice none 0 0)
  have HB0 := Lib.hid ((Below.refl w.heap.size w).alloc (Nat.le_refl _) (.cells #[.int .i64 0, .slice none 0 0] 39))
  go_enter Tryz.func10, Tryz.ntmps10
  go_upto_region 2 with (fail)
  generalize w.alloc (.cells #[.int .i64 0, .slice none 0 0] 39) = w0 at *
  have HZ := Lib.hid z0
  have hs0 := z0.lt
  clear z0
  go_wp2_with (go_at_call 21; refine ((W _).out).mono ?_; rintro e w1 ⟨⟨A, n, c⟩, rfl, hat, hb1⟩; obtain ⟨hn1, hbig⟩ := BigAt.of hat; simp only at hn1 hbig; subst hn1; have z1 := HZ.out.below hb1 hs0; obtain ⟨r0, r1⟩ := z1.cells; have f0 := z1.frozen 0; have f1 := z1.frozen 1; have HZ1 := Lib.hid z1; have HBG := Lib.hid hbig; have HB1 := Lib.hid (HB0.out.trans (hb1.mono HB0.out.size)); clear hat hbig hb1 z1)
  obtain ⟨pz, pu, pb⟩ := HZ1.out.put (-1) (.slice A 1 c)
  obtain ⟨p0, p1⟩ := pz.cells
  refine bodyPost_ret (v := .agg #[.int .i64 (-1), .slice A 1 c]) (by simp [results, Tryz.results10, go_sem, p0, p1]) rfl ?_
  exact ⟨A, c, rfl, HBG.out.put pu, pb HB1.out (Nat.le_refl _)⟩

/-- A great integer's value: its sign, its word. -/
def BI (s : Int) (A : Option Addr) (c : Nat) : Value := .agg #[.int .i64 s, .slice A 1 c]
theorem bSmall_any (s : Int) (b off c : Nat) (w : World) : Calls Tryz.prog 44 #[BI s (some ⟨b, off, none⟩) c] w fun e w' => e = .returned (.bool false) ∧ Below w.heap.size w w' := by
  unfold BI
  have hnil : ∀ W, (binOp .eql 37 (.slice (some ⟨b, off, none⟩) 1 c) (.slice none 0 0)).run Tryz.prog W = .ok (.bool false) W := fun W => Lib.run_eql_slice_nil W _ _ (some ⟨b, off, none⟩) 1 c 0 0 Tryz.underlying37
  go_enter Tryz.func44, Tryz.ntmps44
  go_wp2
  go_ret
  exact ⟨rfl, by go_grown⟩
theorem bZero_any (s : Int) (A : Option Addr) (c : Nat) (w : World) : Calls Tryz.prog 43 #[BI s A c] w fun e w' => e = .returned (.bool (s == 0)) ∧ Below w.heap.size w w' := by
  unfold BI
  go_enter Tryz.func43, Tryz.ntmps43
  go_wp2
  go_ret
  exact ⟨rfl, by go_grown⟩
theorem bSign_any (s : Int) (A : Option Addr) (c : Nat) (w : World) : Calls Tryz.prog 38 #[BI s A c] w fun e w' => e = .returned (.int .i64 (cmpI s 0)) ∧ Below w.heap.size w w' := by
  have C := fun V => Lib.hid (cmp_any s 0 V)
  have HB0 := Lib.hid ((Below.refl w.heap.size w).alloc (Nat.le_refl _) (.cells #[.int .i64 s, .slice A 1 c] 39))
  unfold BI
  go_enter Tryz.func38, Tryz.ntmps38
  go_wp2_with (go_at_call 74; refine (C _).out.mono ?_; rintro e w1 ⟨rfl, hb1⟩; have HB1 := Lib.hid (HB0.out.trans (hb1.mono HB0.out.size)); clear hb1)
  go_ret
  exact ⟨rfl, HB1.out⟩
theorem bNeg_any (s : Int) (hs : s = 1 ∨ s = -1) (A : Option Addr) (c : Nat) (w : World) : Calls Tryz.prog 39 #[BI s A c] w fun e w' => e = .returned (BI (-s) A c) ∧ Below w.heap.size w w' := by
  unfold BI
  have e1 : IntKind.i64.wrap (-s) = -s := IntWalk.i64_in _ (by omega)
  have hs1 : -10 < s := by omega
  have hs2 : s < 10 := by omega
  go_enter Tryz.func39, Tryz.ntmps39
  go_wp2
  go_returns
  exact ⟨rfl, by go_grown⟩
theorem bOne_any (s : Int) (b off c : Nat) (w : World) : Calls Tryz.prog 41 #[BI s (some ⟨b, off, none⟩) c] w fun e w' => e = .returned (.bool false) ∧ Below w.heap.size w w' := by
  have hS : ∀ W : World, Calls Tryz.prog 44 #[.agg #[.int .i64 s, .slice (some ⟨b, off, none⟩) 1 c]] W fun e w' => e = .returned (.bool false) ∧ Below W.heap.size W w' := fun W => bSmall_any s b off c W
  unfold BI
  cases h : s == 1
  · go_enter Tryz.func41, Tryz.ntmps41
    go_wp2
    go_ret
    exact ⟨rfl, by go_grown⟩
  · go_enter Tryz.func41, Tryz.ntmps41
    go_wp2_with fail
    refine (hS _).mono ?_
    rintro e w' ⟨rfl, hb⟩
    go_wp2_with fail
    go_ret
    exact ⟨rfl, ((Below.refl _ w).alloc (Nat.le_refl _) _).trans (hb.mono (by simp))⟩
end Go.Proofs.YteicddmekhdjeaaGreatDoor

/- Divisors where a number is 2^63 or its negative. -/
namespace Go.Proofs.YteicddmekhdjeaaGreatDoor
open Go.RowKit Go.Sort

theorem mag_small (z : Int) (hz : Small z) (w : World) : Calls Tryz.prog 49 #[SI z] w (RetNat z.natAbs w) := by
  have z0 := IBox.new w z (.slice none 0 0)
  have HB0 := Lib.hid ((Below.refl w.heap.size w).alloc (Nat.le_refl _) (.cells #[.int .i64 z, .slice none 0 0] 39))
  have IS := fun V => Lib.hid (isSmall_any z V)
  have SS := fun V => Lib.hid (smallSize_any z hz V)
  have W := fun V => Lib.hid (word_any z.natAbs (by unfold Word; unfold Small at hz; omega) V)
  unfold SI at IS SS
  unfold SI
  generalize z.natAbs = m at *
  clear hz
  go_enter Tryz.func49, Tryz.ntmps49
  go_upto_region 1 with (fail)
  generalize w.alloc (.cells #[.int .i64 z, .slice none 0 0] 39) = w0 at *
  have HZ := Lib.hid z0
  have hs0 := z0.lt
  obtain ⟨c0, c1⟩ := z0.cells
  clear z0
  go_wp2_with (first | (go_at_call 44; refine (IS _).out.mono ?_; rintro e w1 ⟨rfl, hb1⟩; have HB1 := Lib.hid (HB0.out.trans (hb1.mono HB0.out.size)); clear c0 c1; obtain ⟨c0, c1⟩ := (HZ.out.below hb1 hs0).cells; clear hb1) | (go_at_call 46; refine (SS _).out.mono ?_; rintro e w2 ⟨rfl, hb2⟩; have HB2 := Lib.hid (HB1.out.trans (hb2.mono HB1.out.size)); clear hb2) | (go_at_call 21; refine ((W _).out).mono ?_; rintro e w3 ⟨⟨A, n, c⟩, rfl, hat, hb3⟩; have HAT := Lib.hid hat; have HB3 := Lib.hid (HB2.out.trans (hb3.mono HB2.out.size)); clear hat hb3))
  go_ret
  exact ⟨⟨A, n, c⟩, rfl, by simpa using HAT.out, HB3.out⟩
theorem mag_big (s : Int) (A : Option Addr) (c : Nat) (w : World) (hA : BigAt w A c) : Calls Tryz.prog 49 #[BI s A c] w (RetNat 9223372036854775808 w) := by
  have z0 := IBox.new w s (.slice A 1 c)
  have hb0 := (Below.refl w.heap.size w).alloc (Nat.le_refl _) (.cells #[.int .i64 s, .slice A 1 c] 39)
  have HB0 := Lib.hid hb0
  have HA := Lib.hid hA
  obtain ⟨b, off, rfl, -⟩ := hA
  have IS := fun V => Lib.hid (bSmall_any s b off c V)
  unfold BI at IS
  unfold BI
  go_enter Tryz.func49, Tryz.ntmps49
  go_upto_region 1 with (fail)
  generalize w.alloc (.cells #[.int .i64 s, .slice (some ⟨b, off, none⟩) 1 c] 39) = w0 at *
  have HZ := Lib.hid z0
  have hs0 := z0.lt
  obtain ⟨c0, c1⟩ := z0.cells
  clear z0 hb0
  go_wp2_with (go_at_call 44; refine (IS _).out.mono ?_; rintro e w1 ⟨rfl, hb1⟩; have HB1 := Lib.hid (HB0.out.trans (hb1.mono HB0.out.size)); clear c0 c1; obtain ⟨c0, c1⟩ := (HZ.out.below hb1 hs0).cells; clear hb1)
  go_ret
  exact ⟨⟨some ⟨b, off, none⟩, 1, c⟩, rfl, (HA.out.below HB1.out).nat, HB1.out⟩

theorem rest_one (b off c : Nat) (x y : Int) (hx : Word x) (hy : Word y) (h0 : 0 < y) (w : World) (hc : w.cell? ⟨b, off, none⟩ = some (.int .u64 x)) :
    Calls Tryz.prog 101 #[.slice (some ⟨b, off, none⟩) 1 c, .int .u64 y] w fun e w' => e = .returned (.int .u64 (x % y)) ∧ Below w.heap.size w w' := by
  have D := fun W => Lib.hid (div64_zero x y hx hy h0 W)
  have HC := Lib.hid hc
  go_enter Tryz.func101, Tryz.ntmps101
  go_wp2_with fail
  refine wp_loop_rounds 2 ?_
  rw [rounds_succ]
  go_wp2_with fail
  refine ((D _).out).mono ?_
  rintro e w1 ⟨rfl, hb⟩
  have HB := Lib.hid hb
  clear hb hc
  go_wp2_with fail
  rw [rounds_succ]
  go_wp2_with fail
  go_ret
  exact ⟨rfl, HB.out⟩

theorem rest_nat (s : Sl) (m : Nat) (y : Nat) (hm : m < B64) (hy : y < B64) (h0 : 0 < y) (w : World) (h : NatAt w s m) :
    Calls Tryz.prog 101 #[.slice s.A s.n s.c, .int .u64 (y : Int)] w fun e w' => e = .returned (.int .u64 ((m % y : Nat) : Int)) ∧ Below w.heap.size w w' := by
  unfold B64 at hm hy
  rcases h.cases_small hm with ⟨rfl, hn⟩ | ⟨hm0, hn, b, off, hA, hcell⟩
  · obtain ⟨A, n, c⟩ := s
    simp only at hn
    subst hn
    have e : ((0 % y : Nat) : Int) = 0 := by simp
    rw [e]
    clear h
    go_enter Tryz.func101, Tryz.ntmps101
    go_wp2_with fail
    refine wp_loop_rounds 1 ?_
    rw [rounds_succ]
    go_wp2_with fail
    go_ret
    exact ⟨rfl, Below.refl _ _⟩
  · obtain ⟨A, n, c⟩ := s
    simp only at hn hA
    subst hn hA
    have h := rest_one b off c (m : Int) (y : Int) (by unfold Word; omega) (by unfold Word; omega) (by omega) w hcell
    rw [← Int.natCast_emod] at h
    exact h

/-- Two naturals of a word each at most, the greater one first. -/
def DvTo (w : World) (G : Nat) (a b : Value) (wx : World) : Prop := ∃ (s t : Sl) (m k : Nat), a = .slice s.A s.n s.c ∧ b = .slice t.A t.n t.c ∧ NatAt wx s m ∧ NatAt wx t k ∧ m < B64 ∧ k < B64 ∧ Nat.gcd m k = G ∧ Below w.heap.size w wx
set_option maxRecDepth 100000 in
set_option maxHeartbeats 4000000 in
theorem ndivisor_any (s t : Sl) (m k : Nat) (w : World) (h1 : NatAt w s m) (h2 : NatAt w t k) (hm : m < B64) (hk : k < B64) : Calls Tryz.prog 76 #[.slice s.A s.n s.c, .slice t.A t.n t.c] w (RetNat (Nat.gcd m k) w) := by
  have CP := Lib.hid (compare_any s t m k w h1 h2)
  have HDV := Lib.hid (show ∀ wx, Below w.heap.size w wx → DvTo w (Nat.gcd m k) (.slice s.A s.n s.c) (.slice t.A t.n t.c) wx ∧ DvTo w (Nat.gcd m k) (.slice t.A t.n t.c) (.slice s.A s.n s.c) wx from fun wx hb => ⟨⟨s, t, m, k, rfl, rfl, h1.below hb, h2.below hb, hm, hk, rfl, hb⟩, ⟨t, s, k, m, rfl, rfl, h2.below hb, h1.below hb, hk, hm, Nat.gcd_comm _ _, hb⟩⟩)
  generalize Nat.gcd m k = G at *
  obtain ⟨A, n, c⟩ := s
  obtain ⟨A', n', c'⟩ := t
  clear h1 h2 hm hk
  go_enter Tryz.func76, Tryz.ntmps76
  go_upto_if 8 with (go_at_call 84; refine (CP.out).mono ?_; rintro e w1 ⟨rfl, hb1⟩; have HB1 := Lib.hid hb1; clear hb1)
  go_cut [0, 1] from 9 to 10 (fun a b wx => DvTo w G a b wx)
  case first =>
    by_cases hc : cmpN m k < 0
    · go_wp2_with fail
      go_meet
      exact (HDV.out _ HB1.out).2
    · go_wp2_with fail
      go_meet
      exact (HDV.out _ HB1.out).1
  case rest =>
    clear HDV CP HB1
    obtain ⟨⟨A, n, c⟩, ⟨A', n', c'⟩, m, k, rfl, rfl, h1, h2, hm, hk, hG, hb⟩ := hcut
    have HG := Lib.hid hG
    have HB := Lib.hid hb
    have H1 := Lib.hid h1
    rcases h2.cases_small hk with ⟨rfl, hn⟩ | ⟨hk0, hn, b, off, hA, hcell⟩
    · simp only at hn
      subst hn
      have HE : Hid (NatAt wc ⟨A, n, c⟩ G) := Lib.hid (by rw [← hG, Nat.gcd_zero_right]; exact h1)
      clear h1 h2 hG hb H1 HG
      go_wp2_with fail
      go_ret
      exact ⟨⟨A, n, c⟩, rfl, HE.out, HB.out⟩
    · simp only at hn hA
      subst hn hA
      have RS := fun V (hV : Below wc.heap.size wc V) => Lib.hid (rest_nat ⟨A, n, c⟩ m k hm hk (by omega) V (h1.below hV))
      have hmk : m % k < k := Nat.mod_lt _ (by omega)
      have WD := fun V => wordDivisor_any (k : Int) ((m % k : Nat) : Int) (by unfold Word; unfold B64 at hk; omega) (by unfold Word; unfold B64 at hk; omega) V
      have hg2 : Nat.gcd k (m % k) = G := by rw [Nat.gcd_comm k, ← Nat.gcd_rec, Nat.gcd_comm]; exact hG
      simp only [Int.toNat_natCast, hg2] at WD
      have WD := fun V => Lib.hid (WD V)
      have hGk : G ≤ k := by rw [← hG]; exact Nat.gcd_le_right _ (by omega)
      have WW := fun V => Lib.hid (word_any (G : Int) (by unfold Word; unfold B64 at hk; omega) V)
      have cc := cell_regrown hcell
      have hcap := h2.cap
      simp only at hcap
      clear h1 h2 hG hm hk hk0 hmk hg2 hGk H1 hb
      generalize m % k = r at *
      go_upto_region 7 with (fail)
      go_region_with (first | (go_at_call 101; (with_reducible refine ((RS _ ?_).out).mono ?_); (first | exact Below.refl _ _ | exact (Below.refl _ _).drew); rintro e w2 ⟨rfl, hb2⟩; have hcell2 := (hb2.cell (p := ⟨b, off, none⟩) (World.block_lt_of_cell? _ _ hcell)).trans hcell; have HB2 : Hid (Below w.heap.size w w2) := Lib.hid (by first | exact HB.out.trans (hb2.mono HB.out.size) | exact HB.out.drew.trans (hb2.mono HB.out.size))) | (go_at_call 75; refine (WD _).out.mono ?_; rintro e w3 ⟨rfl, hb3⟩; have HB3 : Hid (Below w.heap.size w w3) := Lib.hid (by first | exact HB2.out.trans (hb3.mono HB2.out.size) | exact HB2.out.drew.trans (hb3.mono HB2.out.size))) | (go_at_call 21; refine ((WW _).out).mono ?_; rintro e w4 ⟨⟨A4, n4, c4⟩, rfl, hat, hb4⟩; have HAT := Lib.hid hat; have HB4 : Hid (Below w.heap.size w w4) := Lib.hid (by first | exact HB3.out.trans (hb4.mono HB3.out.size) | exact HB3.out.drew.trans (hb4.mono HB3.out.size))))
      all_goals go_wp2_with fail
      all_goals go_ret
      all_goals first | exact ⟨⟨A4, n4, c4⟩, rfl, by simpa using HAT.out, HB4.out⟩ | exact ⟨⟨A4, n4, c4⟩, rfl, by simpa using HAT.out, HB4.out.drew⟩

/-- An integer of a word at most, by value: small, or 2^63 or its negative. -/
def ZW (w : World) (v : Value) (z : Int) : Prop := (Small z ∧ v = SI z) ∨ (z.natAbs = 9223372036854775808 ∧ ∃ A c, v = BI (if z < 0 then -1 else 1) A c ∧ BigAt w A c)
theorem ZW.below {w w' : World} {v : Value} {z : Int} (h : ZW w v z) (hb : Below w.heap.size w w') : ZW w' v z := by
  rcases h with h | ⟨h1, A, c, h2, h3⟩
  · exact .inl h
  · exact .inr ⟨h1, A, c, h2, h3.below hb⟩
def RetZW (z : Int) (w : World) (e : Ending) (w' : World) : Prop := ∃ v, e = .returned v ∧ ZW w' v z ∧ Below w.heap.size w w'
theorem mag_any (z : Int) (v : Value) (w : World) (h : ZW w v z) : Calls Tryz.prog 49 #[v] w (RetNat z.natAbs w) := by
  rcases h with ⟨h1, rfl⟩ | ⟨h1, A, c, rfl, h3⟩
  · exact mag_small z h1 w
  · rw [h1]; exact mag_big _ A c w h3
theorem neg_zw (z : Int) (v : Value) (w : World) (h : ZW w v z) : Calls Tryz.prog 39 #[v] w (RetZW (-z) w) := by
  rcases h with ⟨h1, rfl⟩ | ⟨h1, A, c, rfl, h3⟩
  · exact (negated_any z h1 w).mono fun e w' ⟨he, hb⟩ => ⟨_, he, .inl ⟨small_neg h1, rfl⟩, hb⟩
  · refine (bNeg_any (if z < 0 then -1 else 1) (by split <;> simp) A c w).mono fun e w' ⟨he, hb⟩ => ⟨_, he, .inr ⟨by rw [Int.natAbs_neg]; exact h1, A, c, ?_, h3.below hb⟩, hb⟩
    congr 1
    split <;> split <;> omega
theorem one_zw (z : Int) (v : Value) (w : World) (h : ZW w v z) : Calls Tryz.prog 41 #[v] w fun e w' => e = .returned (.bool (z == 1)) ∧ Below w.heap.size w w' := by
  rcases h with ⟨h1, rfl⟩ | ⟨h1, A, c, rfl, b, off, rfl, -⟩
  · exact isOne_any z w
  · have e : (z == 1) = false := beq_eq_false_iff_ne.2 (by omega)
    rw [e]
    exact bOne_any _ b off c w
theorem sign_zw (z : Int) (v : Value) (w : World) (h : ZW w v z) : Calls Tryz.prog 38 #[v] w fun e w' => e = .returned (.int .i64 (cmpI z 0)) ∧ Below w.heap.size w w' := by
  rcases h with ⟨h1, rfl⟩ | ⟨h1, A, c, rfl, -⟩
  · exact sign_any z w
  · have e : cmpI z 0 = cmpI (if z < 0 then -1 else 1) 0 := by
      unfold cmpI
      by_cases hz : z < 0
      · rw [if_pos hz, if_pos hz]; rfl
      · rw [if_neg hz, if_neg hz, if_pos (by omega)]; rfl
    rw [e]
    exact bSign_any _ A c w
theorem zero_zw (z : Int) (v : Value) (w : World) (h : ZW w v z) : Calls Tryz.prog 43 #[v] w fun e w' => e = .returned (.bool (z == 0)) ∧ Below w.heap.size w w' := by
  rcases h with ⟨h1, rfl⟩ | ⟨h1, A, c, rfl, -⟩
  · exact isZero_any z w
  · have e : (z == 0) = ((if z < 0 then -1 else (1 : Int)) == 0) := by
      rw [show (z == 0) = false from beq_eq_false_iff_ne.2 (by omega)]
      split <;> rfl
    rw [e]
    exact bZero_any _ A c w
theorem of_zw (z : Int) (w : World) (hz : -9223372036854775808 ≤ z ∧ z ≤ 9223372036854775807) : Calls Tryz.prog 10 #[.int .i64 z] w (RetZW z w) := by
  by_cases h : Small z
  · exact (of_small z h w).mono fun e w' ⟨he, hb⟩ => ⟨_, he, .inl ⟨h, rfl⟩, hb⟩
  · have e : z = -9223372036854775808 := by unfold Small at h; omega
    subst e
    exact (of_min w).mono fun e w' ⟨A, c, he, hA, hb⟩ => ⟨_, he, .inr ⟨rfl, A, c, rfl, hA⟩, hb⟩
end Go.Proofs.YteicddmekhdjeaaGreatDoor
