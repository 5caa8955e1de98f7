/- Parts of the proof, one after the other: BigNew. -/
import Derived.Test.YteicddmekhdjeaaGreatDoorEm9
/- Integers of a word at most: made of naturals, divisors, quotients. -/
namespace Go.Proofs.YteicddmekhdjeaaGreatDoor
open Go.RowKit Go.Sort

set_option maxRecDepth 100000 in
set_option maxHeartbeats 4000000 in
theorem newInt_any (neg : Bool) (s : Sl) (m : Nat) (hm : m ≤ 9223372036854775808) (w : World) (h : NatAt w s m) : Calls Tryz.prog 48 #[.bool neg, .slice s.A s.n s.c] w (RetZW (if neg then -(m : Int) else (m : Int)) w) := by
  have z0 := IBox.new w 0 (.slice none 0 0)
  have hb0 := (Below.refl w.heap.size w).alloc (Nat.le_refl _) (.cells #[.int .i64 0, .slice none 0 0] 39)
  have hcap := h.cap
  rcases h.cases_small (by unfold B64; omega) with ⟨rfl, hn⟩ | ⟨hm0, hn, b, off, hA, hcell⟩
  · obtain ⟨A, n, c⟩ := s
    simp only at hn
    subst hn
    have hz : (if neg then -((0 : Nat) : Int) else ((0 : Nat) : Int)) = 0 := by split <;> rfl
    rw [hz]
    clear h hcap hz
    go_enter Tryz.func48, Tryz.ntmps48
    go_upto_region 1 with (fail)
    generalize w.alloc (.cells #[.int .i64 0, .slice none 0 0] 39) = w0 at *
    obtain ⟨c0, c1⟩ := z0.cells
    have f0 := z0.frozen 0
    have f1 := z0.frozen 1
    obtain ⟨pz, pu, pb⟩ := z0.put 0 (.slice none 0 0)
    obtain ⟨p0, p1⟩ := pz.cells
    have HB := Lib.hid (pb hb0 (Nat.le_refl _))
    clear z0 pz pu pb
    go_wp2_with fail
    refine bodyPost_ret (v := .agg #[.int .i64 0, .slice none 0 0]) (by simp [results, Tryz.results48, go_sem, p0, p1]) rfl ?_
    exact ⟨_, rfl, .inl ⟨by unfold Small; omega, rfl⟩, HB.out⟩
  · obtain ⟨A, n, c⟩ := s
    simp only at hn hA hcap
    subst hn hA
    have hc1 := (hb0.cell (p := ⟨b, off, none⟩) (World.block_lt_of_cell? w _ hcell)).trans hcell
    by_cases hbig : m = 9223372036854775808
    · subst hbig
      have HA : Hid (BigAt w (some ⟨b, off, none⟩) c) := Lib.hid ⟨b, off, rfl, by omega, hcap.2, hcell⟩
      have HC : Hid (w.cell? ⟨b, off, none⟩ = some (.int .u64 9223372036854775808)) := Lib.hid hcell
      have hc2 : (w.alloc (.cells #[.int .i64 0, .slice none 0 0] 39)).cell? ⟨b, off, none⟩ = some (.int .u64 9223372036854775808) := hc1
      clear h hcell hc1
      go_enter Tryz.func48, Tryz.ntmps48
      go_upto_region 1 with (fail)
      generalize w.alloc (.cells #[.int .i64 0, .slice none 0 0] 39) = w0 at *
      obtain ⟨c0, c1⟩ := z0.cells
      have f0 := z0.frozen 0
      have f1 := z0.frozen 1
      have HA0 := Lib.hid (HA.out.below hb0)
      cases neg with
      | true =>
        obtain ⟨pz, pu, pb⟩ := z0.put (-1) (.slice (some ⟨b, off, none⟩) 1 c)
        obtain ⟨p0, p1⟩ := pz.cells
        have HB := Lib.hid (pb hb0 (Nat.le_refl _))
        have HA1 := Lib.hid (HA0.out.put pu)
        clear z0 pz pu pb
        go_wp2_with fail
        refine bodyPost_ret (v := .agg #[.int .i64 (-1), .slice (some ⟨b, off, none⟩) 1 c]) (by simp [results, Tryz.results48, go_sem, p0, p1]) rfl ?_
        exact ⟨_, rfl, .inr ⟨rfl, _, c, rfl, HA1.out⟩, HB.out⟩
      | false =>
        obtain ⟨pz, pu, pb⟩ := z0.put 1 (.slice (some ⟨b, off, none⟩) 1 c)
        obtain ⟨p0, p1⟩ := pz.cells
        have HB := Lib.hid (pb hb0 (Nat.le_refl _))
        have HA1 := Lib.hid (HA0.out.put pu)
        clear z0 pz pu pb
        go_wp2_with fail
        refine bodyPost_ret (v := .agg #[.int .i64 1, .slice (some ⟨b, off, none⟩) 1 c]) (by simp [results, Tryz.results48, go_sem, p0, p1]) rfl ?_
        exact ⟨_, rfl, .inr ⟨rfl, _, c, rfl, HA1.out⟩, HB.out⟩
    · have hlt : m < 9223372036854775808 := by omega
      have e2 : IntKind.i64.wrap (m : Int) = m := IntWalk.i64_in _ (by omega)
      have e3 : IntKind.i64.wrap (-(m : Int)) = -(m : Int) := IntWalk.i64_in _ (by omega)
      have hd : decide ((9223372036854775807 : Int) < (m : Int)) = false := decide_eq_false (by omega)
      have HSM : Hid (Small (m : Int) ∧ Small (-(m : Int))) := Lib.hid ⟨by unfold Small; omega, by unfold Small; omega⟩
      clear h hcell hbig
      go_enter Tryz.func48, Tryz.ntmps48
      go_upto_region 1 with (fail)
      generalize w.alloc (.cells #[.int .i64 0, .slice none 0 0] 39) = w0 at *
      obtain ⟨c0, c1⟩ := z0.cells
      have f0 := z0.frozen 0
      have f1 := z0.frozen 1
      cases neg with
      | true =>
        obtain ⟨pz, pu, pb⟩ := z0.put (-(m : Int)) (.slice none 0 0)
        obtain ⟨p0, p1⟩ := pz.cells
        have HB := Lib.hid (pb hb0 (Nat.le_refl _))
        clear z0 pz pu pb
        go_wp2_with fail
        refine bodyPost_ret (v := .agg #[.int .i64 (-(m : Int)), .slice none 0 0]) (by simp [results, Tryz.results48, go_sem, p0, p1]) rfl ?_
        exact ⟨_, rfl, .inl ⟨HSM.out.2, rfl⟩, HB.out⟩
      | false =>
        obtain ⟨pz, pu, pb⟩ := z0.put (m : Int) (.slice none 0 0)
        obtain ⟨p0, p1⟩ := pz.cells
        have HB := Lib.hid (pb hb0 (Nat.le_refl _))
        clear z0 pz pu pb
        go_wp2_with fail
        refine bodyPost_ret (v := .agg #[.int .i64 (m : Int), .slice none 0 0]) (by simp [results, Tryz.results48, go_sem, p0, p1]) rfl ?_
        exact ⟨_, rfl, .inl ⟨HSM.out.1, rfl⟩, HB.out⟩

theorem ZW.form {w : World} {v : Value} {z : Int} (h : ZW w v z) : ∃ s A n c, v = .agg #[.int .i64 s, .slice A n c] := by
  rcases h with ⟨-, rfl⟩ | ⟨-, A, c, rfl, -⟩
  · exact ⟨z, none, 0, 0, rfl⟩
  · exact ⟨_, A, 1, c, rfl⟩
theorem ZW.put {w w' : World} {v : Value} {z : Int} (h : ZW w v z) (hp : ∀ {b off : Nat} {x : Int}, w.cell? ⟨b, off, none⟩ = some (.int .u64 x) → w'.cell? ⟨b, off, none⟩ = some (.int .u64 x)) : ZW w' v z := by
  rcases h with h | ⟨h1, A, c, h2, h3⟩
  · exact .inl h
  · exact .inr ⟨h1, A, c, h2, h3.put hp⟩
/-- Whether an integer is small. -/
def smB (z : Int) : Bool := decide (z.natAbs < 9223372036854775808)
theorem small_zw (z : Int) (v : Value) (w : World) (h : ZW w v z) : Calls Tryz.prog 44 #[v] w fun e w' => e = .returned (.bool (smB z)) ∧ Below w.heap.size w w' := by
  rcases h with ⟨h1, rfl⟩ | ⟨h1, A, c, rfl, b, off, rfl, -⟩
  · rw [show smB z = true from decide_eq_true (by unfold Small at h1; omega)]
    exact isSmall_any z w
  · rw [show smB z = false from decide_eq_false (by omega)]
    exact bSmall_any _ b off c w
/-- Two integers and a result in their boxes. -/
structure OI (w w' : World) (g : Nat) (s : Int) (A : Option Addr) (n c : Nat) (x : Int) (t : Int) (A' : Option Addr) (m c' : Nat) (y : Int) : Prop where
  bA : IBox w' g s (.slice A n c)
  bB : IBox w' (g + 1) t (.slice A' m c')
  R : ∃ r B k d, IBox w' (g + 1 + 1) r (.slice B k d)
  zA : ZW w' (.agg #[.int .i64 s, .slice A n c]) x
  zB : ZW w' (.agg #[.int .i64 t, .slice A' m c']) y
  bel : Below g w w'
section
variable {w w1 w2 : World} {g n c m c' : Nat} {s t x y : Int} {A A' : Option Addr}
theorem OI.below (h : OI w w1 g s A n c x t A' m c' y) (hb : Below w1.heap.size w1 w2) : OI w w2 g s A n c x t A' m c' y := by
  obtain ⟨r, B, k, d, hr⟩ := h.R
  have := hr.lt
  exact ⟨h.bA.below hb (by omega), h.bB.below hb (by omega), ⟨r, B, k, d, hr.below hb hr.lt⟩, h.zA.below hb, h.zB.below hb, h.bel.trans (hb.mono (by omega))⟩
theorem OI.drew (h : OI w w1 g s A n c x t A' m c' y) : OI w w1.drew g s A n c x t A' m c' y := ⟨h.bA, h.bB, h.R, h.zA, h.zB, h.bel.drew⟩
theorem OI.held (h : OI w w1 g s A n c x t A' m c' y) : w1.cell? ⟨g, 0, none⟩ = some (.int .i64 s) ∧ w1.cell? ⟨g, 1, none⟩ = some (.slice A n c) ∧ w1.cell? ⟨g + 1, 0, none⟩ = some (.int .i64 t) ∧ w1.cell? ⟨g + 1, 1, none⟩ = some (.slice A' m c') := ⟨h.bA.cells.1, h.bA.cells.2, h.bB.cells.1, h.bB.cells.2⟩
end
theorem OI.new {w : World} {g n c m c' : Nat} {s t x y : Int} {A A' : Option Addr} (hg : w.heap.size = g) (hx : ZW w (.agg #[.int .i64 s, .slice A n c]) x) (hy : ZW w (.agg #[.int .i64 t, .slice A' m c']) y) :
    OI w (((w.alloc (.cells #[.int .i64 s, .slice A n c] 39)).alloc (.cells #[.int .i64 t, .slice A' m c'] 39)).alloc (.cells #[.int .i64 0, .slice none 0 0] 39)) g s A n c x t A' m c' y := by
  have hb := (((Below.refl w.heap.size w).alloc (Nat.le_refl _) (.cells #[.int .i64 s, .slice A n c] 39)).alloc (by simp) (.cells #[.int .i64 t, .slice A' m c'] 39)).alloc (by simp; omega) (.cells #[.int .i64 0, .slice none 0 0] 39)
  refine ⟨((IBox.new w s (.slice A n c)).alloc _).alloc _ |> fun h => by rwa [hg] at h, ?_, ⟨0, none, 0, 0, ?_⟩, hx.below hb, hy.below hb, by rwa [hg] at hb⟩
  · have h := (IBox.new (w.alloc (.cells #[.int .i64 s, .slice A n c] 39)) t (.slice A' m c')).alloc (.cells #[.int .i64 0, .slice none 0 0] 39)
    rw [World.size_alloc, hg] at h
    exact h
  · have h := IBox.new ((w.alloc (.cells #[.int .i64 s, .slice A n c] 39)).alloc (.cells #[.int .i64 t, .slice A' m c'] 39)) 0 (.slice none 0 0)
    rw [World.size_alloc, World.size_alloc, hg] at h
    exact h

set_option maxRecDepth 100000 in
set_option maxHeartbeats 4000000 in
theorem zdivisor_big (x y : Int) (v u : Value) (w : World) (hx : ZW w v x) (hy : ZW w u y) (hn : smB x = false ∨ smB y = false) (hxl : x.natAbs ≤ 9223372036854775808) (hyl : y.natAbs ≤ 9223372036854775808) :
    Calls Tryz.prog 40 #[v, u] w (RetZW (Nat.gcd x.natAbs y.natAbs : Nat) w) := by
  obtain ⟨s, A, n, c, rfl⟩ := hx.form
  obtain ⟨t, A', m, c', rfl⟩ := hy.form
  generalize hg : w.heap.size = g
  have O0 := OI.new hg hx hy
  have SA := fun V (h : ZW V (.agg #[.int .i64 s, .slice A n c]) x) => small_zw x _ V h
  have SB := fun V (h : ZW V (.agg #[.int .i64 t, .slice A' m c']) y) => small_zw y _ V h
  have MA := fun V (h : ZW V (.agg #[.int .i64 s, .slice A n c]) x) => Lib.hid (mag_any x _ V h)
  have MB := fun V (h : ZW V (.agg #[.int .i64 t, .slice A' m c']) y) => Lib.hid (mag_any y _ V h)
  have hgl : Nat.gcd x.natAbs y.natAbs ≤ 9223372036854775808 := by
    rcases Nat.eq_zero_or_pos x.natAbs with e | e
    · rw [e, Nat.gcd_zero_left]; exact hyl
    · exact Nat.le_trans (Nat.gcd_le_left _ e) hxl
  have ND := fun V S T h1 h2 => Lib.hid (ndivisor_any S T x.natAbs y.natAbs V h1 h2 (by unfold B64; omega) (by unfold B64; omega))
  have NI := fun V S (h : NatAt V S (Nat.gcd x.natAbs y.natAbs)) => newInt_any false S (Nat.gcd x.natAbs y.natAbs) hgl V h
  simp only [Bool.false_eq_true, if_false] at NI
  have NI := fun V S h => Lib.hid (NI V S h)
  generalize Nat.gcd x.natAbs y.natAbs = G at *
  generalize x.natAbs = N at *
  generalize y.natAbs = M at *
  clear hx hy hgl
  have hbb : ∃ p q, smB x = p ∧ smB y = q ∧ (p && q) = false := ⟨_, _, rfl, rfl, by rcases hn with h | h <;> rw [h] <;> simp⟩
  obtain ⟨p, q, hp, hq, hpq⟩ := hbb
  rw [hp] at SA
  rw [hq] at SB
  have SA := fun V h => Lib.hid (SA V h)
  have SB := fun V h => Lib.hid (SB V h)
  clear hn hp hq hxl hyl
  go_enter Tryz.func40, Tryz.ntmps40
  go_upto_region 1 with (fail)
  generalize ((w.alloc (.cells #[.int .i64 s, .slice A n c] 39)).alloc (.cells #[.int .i64 t, .slice A' m c'] 39)).alloc (.cells #[.int .i64 0, .slice none 0 0] 39) = w0 at *
  have HO0 := Lib.hid O0
  obtain ⟨c0, c1, c2, c3⟩ := O0.held
  clear O0
  go_cut [10] from 5 to 9 (fun b wx => b = .bool false ∧ OI w wx g s A n c x t A' m c' y)
  case first =>
    cases p with
    | false =>
      go_wp2_with (go_at_call 44; refine ((SA _ HO0.out.zA).out).mono ?_; rintro e w1 ⟨rfl, hb1⟩; have HO1 := Lib.hid (HO0.out.below hb1); clear hb1)
      go_meet
      exact ⟨rfl, HO1.out⟩
    | true =>
      have hq0 : q = false := by simpa using hpq
      subst hq0
      go_wp2_with (first | (go_at_call 44; (with_reducible refine ((SB _ HO1.out.zB).out).mono ?_); rintro e w2 ⟨rfl, hb2⟩; have HO2 := Lib.hid (HO1.out.below hb2); clear hb2) | (go_at_call 44; (with_reducible refine ((SA _ HO0.out.zA).out).mono ?_); rintro e w1 ⟨rfl, hb1⟩; have HO1 := Lib.hid (HO0.out.below hb1); clear c0 c1 c2 c3; obtain ⟨c0, c1, c2, c3⟩ := HO1.out.held; clear hb1))
      go_meet
      exact ⟨rfl, HO2.out⟩
  case rest =>
    clear HO0 c0 c1 c2 c3 SA SB
    obtain ⟨rfl, hO⟩ := hcut
    have HO0 := Lib.hid hO
    obtain ⟨c0, c1, c2, c3⟩ := hO.held
    clear hO
    go_upto_region 3 with (fail)
    go_region_with (first | (go_at_call 49; (with_reducible refine ((MB _ ?_).out).mono ?_); (first | exact HO1.out.zB | exact HO1.out.drew.zB); rintro e w3 ⟨⟨B2, m2, k2⟩, rfl, hat2, hb2⟩; have HO2 : Hid (OI w w3 g s A n c x t A' m c' y) := Lib.hid (by first | exact HO1.out.below hb2 | exact HO1.out.drew.below hb2); have HAT2 := Lib.hid hat2; have HAT12 : Hid (NatAt w3 ⟨B1, m1, k1⟩ N) := Lib.hid (by first | exact HAT1.out.below hb2 | exact NatAt.below (show NatAt (World.drew _) _ _ from HAT1.out) hb2); clear c0 c1 c2 c3; obtain ⟨c0, c1, c2, c3⟩ := HO2.out.held; clear hat2 hb2) | (go_at_call 49; (with_reducible refine ((MA _ ?_).out).mono ?_); (first | exact HO0.out.zA | exact HO0.out.drew.zA); rintro e w2 ⟨⟨B1, m1, k1⟩, rfl, hat1, hb1⟩; have HO1 : Hid (OI w w2 g s A n c x t A' m c' y) := Lib.hid (by first | exact HO0.out.below hb1 | exact HO0.out.drew.below hb1); have HAT1 := Lib.hid hat1; clear c0 c1 c2 c3; obtain ⟨c0, c1, c2, c3⟩ := HO1.out.held; clear hat1 hb1) | (go_at_call 76; refine ((ND _ ⟨B1, m1, k1⟩ ⟨B2, m2, k2⟩ (by first | exact HAT12.out | exact (show NatAt (World.drew _) _ _ from HAT12.out)) (by first | exact HAT2.out | exact (show NatAt (World.drew _) _ _ from HAT2.out))).out).mono ?_; rintro e w4 ⟨⟨B3, m3, k3⟩, rfl, hat3, hb3⟩; have HO3 : Hid (OI w w4 g s A n c x t A' m c' y) := Lib.hid (by first | exact HO2.out.below hb3 | exact HO2.out.drew.below hb3); have HAT3 := Lib.hid hat3; clear c0 c1 c2 c3; obtain ⟨c0, c1, c2, c3⟩ := HO3.out.held; clear hat3 hb3) | (go_at_call 48; refine ((NI _ ⟨B3, m3, k3⟩ (by first | exact HAT3.out | exact (show NatAt (World.drew _) _ _ from HAT3.out))).out).mono ?_; rintro e w5 ⟨v5, rfl, hz5, hb5⟩; have HO4 : Hid (OI w w5 g s A n c x t A' m c' y) := Lib.hid (by first | exact HO3.out.below hb5 | exact HO3.out.drew.below hb5); obtain ⟨s5, A5, n5, c5, rfl⟩ := hz5.form; have HZ5 := Lib.hid hz5; clear c0 c1 c2 c3; obtain ⟨c0, c1, c2, c3⟩ := HO4.out.held; obtain ⟨r5, B5, k5, d5, hr5⟩ := HO4.out.R; have HR5 := Lib.hid hr5; obtain ⟨r0, r1⟩ := hr5.cells; have f0 := hr5.frozen 0; have f1 := hr5.frozen 1; clear hz5 hb5 hr5))
    all_goals (obtain ⟨pz, pu, pb⟩ := HR5.out.put s5 (.slice A5 n5 c5); obtain ⟨p0, p1⟩ := pz.cells)
    all_goals go_wp2_with fail
    all_goals (refine bodyPost_ret (v := .agg #[.int .i64 s5, .slice A5 n5 c5]) (by simp [results, Tryz.results40, go_sem, p0, p1]) rfl ?_)
    all_goals exact ⟨_, rfl, HZ5.out.put pu, by rw [hg]; exact pb HO4.out.bel (by omega)⟩
end Go.Proofs.YteicddmekhdjeaaGreatDoor
