/- Parts of the proof, one after the other: BigQuo. -/
import Derived.Test.YteicddmekhdjeaaGreatDoorEm10
/- Quotients of integers of a word at most. -/
namespace Go.Proofs.YteicddmekhdjeaaGreatDoor
open Go.RowKit Go.Sort

theorem zw_sign {w : World} {s z : Int} {A : Option Addr} {n c : Nat} (h : ZW w (.agg #[.int .i64 s, .slice A n c]) z) : decide (s < 0) = decide (z < 0) := by
  rcases h with ⟨-, e⟩ | ⟨h1, A', c', e, -⟩
  · unfold SI at e
    obtain ⟨rfl, -⟩ : s = z ∧ _ := by simpa using e
    rfl
  · unfold BI at e
    obtain ⟨rfl, -⟩ : s = _ ∧ _ := by simpa using e
    apply decide_eq_decide.2
    split <;> omega
theorem tdiv_sg (x y : Int) : (if (decide (x < 0) != decide (y < 0)) then -((x.natAbs / y.natAbs : Nat) : Int) else ((x.natAbs / y.natAbs : Nat) : Int)) = x.tdiv y := by
  have h := sg_tdiv (decide (x < 0)) (decide (y < 0)) x.natAbs y.natAbs
  have e : ∀ z : Int, sg (decide (z < 0)) z.natAbs = z := fun z => by
    unfold sg
    by_cases hz : z < 0
    · rw [if_pos (decide_eq_true hz)]; omega
    · rw [if_neg (by simpa using hz)]; omega
  rw [e, e] at h
  rw [← h]
  rfl
/-- What the quotient is behind the region. -/
def QTo (w : World) (g : Nat) (s : Int) (A : Option Addr) (n c : Nat) (x : Int) (t : Int) (A' : Option Addr) (m c' : Nat) (y : Int) (k : Nat) (v : Value) (wx : World) : Prop := ∃ S : Sl, v = .slice S.A S.n S.c ∧ NatAt wx S k ∧ OI w wx g s A n c x t A' m c' y

set_option maxRecDepth 100000 in
set_option maxHeartbeats 4000000 in
theorem zdivided_big (x y : Int) (v u : Value) (w : World) (hx : ZW w v x) (hy : ZW w u y) (hn : smB x = false ∨ smB y = false) (hxl : x.natAbs ≤ 9223372036854775808) (hyl : y.natAbs ≤ 9223372036854775808) (h0 : y ≠ 0) :
    Calls Tryz.prog 42 #[v, u] w (RetZW (x.tdiv y) w) := by
  obtain ⟨s, A, n, c, rfl⟩ := hx.form
  obtain ⟨t, A', m, c', rfl⟩ := hy.form
  generalize hg : w.heap.size = g
  have O0 := OI.new hg hx hy
  have SA := fun V (h : ZW V (.agg #[.int .i64 s, .slice A n c]) x) => small_zw x _ V h
  have SB := fun V (h : ZW V (.agg #[.int .i64 t, .slice A' m c']) y) => small_zw y _ V h
  have ON := fun V (h : ZW V (.agg #[.int .i64 t, .slice A' m c']) y) => one_zw y _ V h
  have MA := fun V (h : ZW V (.agg #[.int .i64 s, .slice A n c]) x) => Lib.hid (mag_any x _ V h)
  have MB := fun V (h : ZW V (.agg #[.int .i64 t, .slice A' m c']) y) => Lib.hid (mag_any y _ V h)
  have hql : x.natAbs / y.natAbs ≤ 9223372036854775808 := Nat.le_trans (Nat.div_le_self _ _) hxl
  have OV := fun V S T h1 h2 => Lib.hid (over_small S T x.natAbs y.natAbs V h1 h2 (by unfold B64; omega) (by omega))
  have NI := fun V S (h : NatAt V S (x.natAbs / y.natAbs)) => newInt_any (decide (x < 0) != decide (y < 0)) S (x.natAbs / y.natAbs) hql V h
  rw [tdiv_sg] at NI
  have NI := fun V S h => Lib.hid (NI V S h)
  have e1 := zw_sign hx
  have e2 := zw_sign hy
  have HT1 : Hid (y = 1 → x.tdiv y = x) := Lib.hid (fun e => by rw [e, Int.tdiv_one])
  have hbb : ∃ p q, smB x = p ∧ smB y = q ∧ (p && q) = false := ⟨_, _, rfl, rfl, by rcases hn with h | h <;> rw [h] <;> simp⟩
  obtain ⟨p, q, hp, hq, hpq⟩ := hbb
  rw [hp] at SA
  rw [hq] at SB
  have SA := fun V h => Lib.hid (SA V h)
  have SB := fun V h => Lib.hid (SB V h)
  generalize x.tdiv y = Q at *
  generalize x.natAbs / y.natAbs = K at *
  generalize x.natAbs = N at *
  generalize y.natAbs = M at *
  clear hx hy hql hn hp hq hxl hyl h0
  go_enter Tryz.func42, Tryz.ntmps42
  go_upto_region 1 with (fail)
  generalize ((w.alloc (.cells #[.int .i64 s, .slice A n c] 39)).alloc (.cells #[.int .i64 t, .slice A' m c'] 39)).alloc (.cells #[.int .i64 0, .slice none 0 0] 39) = w0 at *
  have HO0 := Lib.hid O0
  obtain ⟨c0, c1, c2, c3⟩ := O0.held
  clear O0
  go_cut [12] from 7 to 11 (fun b wx => b = .bool false ∧ OI w wx g s A n c x t A' m c' y)
  case first =>
    cases p with
    | false =>
      go_wp2_with (go_at_call 44; refine ((SA _ HO0.out.zA).out).mono ?_; rintro e w1 ⟨rfl, hb1⟩; have HO1 := Lib.hid (HO0.out.below hb1); clear hb1)
      go_meet
      exact ⟨rfl, HO1.out⟩
    | true =>
      have hq0 : q = false := by simpa using hpq
      subst hq0
      go_wp2_with (first | (go_at_call 44; (with_reducible refine ((SB _ HO1.out.zB).out).mono ?_); rintro e w2 ⟨rfl, hb2⟩; have HO2 := Lib.hid (HO1.out.below hb2); clear hb2) | (go_at_call 44; (with_reducible refine ((SA _ HO0.out.zA).out).mono ?_); rintro e w1 ⟨rfl, hb1⟩; have HO1 := Lib.hid (HO0.out.below hb1); clear c0 c1 c2 c3; obtain ⟨c0, c1, c2, c3⟩ := HO1.out.held; clear hb1))
      go_meet
      exact ⟨rfl, HO2.out⟩
  case rest =>
    clear HO0 c0 c1 c2 c3 SA SB
    obtain ⟨rfl, hO⟩ := hcut
    have HOA := Lib.hid hO
    obtain ⟨c0, c1, c2, c3⟩ := hO.held
    clear hO
    by_cases hy1 : y = 1
    · have e3 : (y == 1) = true := beq_iff_eq.2 hy1
      have HQ : Hid (Q = x) := Lib.hid (HT1.out hy1)
      have ON := fun V h => Lib.hid (ON V h)
      rw [e3] at ON
      clear hy1
      go_wp2_with (go_at_call 41; refine ((ON _ HOA.out.zB).out).mono ?_; rintro e w1 ⟨rfl, hb1⟩; have HO1 := Lib.hid (HOA.out.below hb1); clear c0 c1 c2 c3; obtain ⟨c0, c1, c2, c3⟩ := HO1.out.held; obtain ⟨r5, B5, k5, d5, hr5⟩ := HO1.out.R; have HR5 := Lib.hid hr5; obtain ⟨r0, r1⟩ := hr5.cells; have f0 := hr5.frozen 0; have f1 := hr5.frozen 1; clear hb1 hr5)
      obtain ⟨pz, pu, pb⟩ := HR5.out.put s (.slice A n c)
      obtain ⟨p0, p1⟩ := pz.cells
      refine bodyPost_ret (v := .agg #[.int .i64 s, .slice A n c]) (by simp [results, Tryz.results42, go_sem, p0, p1]) rfl ?_
      exact ⟨_, rfl, by rw [HQ.out]; exact HO1.out.zA.put pu, by rw [hg]; exact pb HO1.out.bel (by omega)⟩
    · have e3 : (y == 1) = false := beq_eq_false_iff_ne.2 hy1
      rw [e3] at ON
      have ON := fun V h => Lib.hid (ON V h)
      clear hy1 HT1
      go_upto_region 5 with (go_at_call 41; refine ((ON _ HOA.out.zB).out).mono ?_; rintro e w1 ⟨rfl, hb1⟩; have HO0 := Lib.hid (HOA.out.below hb1); clear c0 c1 c2 c3; obtain ⟨c0, c1, c2, c3⟩ := HO0.out.held; clear hb1)
      go_cut [5] from 6 to 29 (fun b wx => QTo w g s A n c x t A' m c' y K b wx)
      case first =>
        go_region_with (first | (go_at_call 49; (with_reducible refine ((MB _ ?_).out).mono ?_); (first | exact HO1.out.zB | exact HO1.out.drew.zB); rintro e w3 ⟨⟨B2, m2, k2⟩, rfl, hat2, hb2⟩; have HO2 : Hid (OI w w3 g s A n c x t A' m c' y) := Lib.hid (by first | exact HO1.out.below hb2 | exact HO1.out.drew.below hb2); have HAT2 := Lib.hid hat2; have HAT12 : Hid (NatAt w3 ⟨B1, m1, k1⟩ N) := Lib.hid (by first | exact HAT1.out.below hb2 | exact NatAt.below (show NatAt (World.drew _) _ _ from HAT1.out) hb2); clear c0 c1 c2 c3; obtain ⟨c0, c1, c2, c3⟩ := HO2.out.held; clear hat2 hb2) | (go_at_call 49; (with_reducible refine ((MA _ ?_).out).mono ?_); (first | exact HO0.out.zA | exact HO0.out.drew.zA); rintro e w2 ⟨⟨B1, m1, k1⟩, rfl, hat1, hb1⟩; have HO1 : Hid (OI w w2 g s A n c x t A' m c' y) := Lib.hid (by first | exact HO0.out.below hb1 | exact HO0.out.drew.below hb1); have HAT1 := Lib.hid hat1; clear c0 c1 c2 c3; obtain ⟨c0, c1, c2, c3⟩ := HO1.out.held; clear hat1 hb1) | (go_at_call 77; refine ((OV _ ⟨B1, m1, k1⟩ ⟨B2, m2, k2⟩ (by first | exact HAT12.out | exact (show NatAt (World.drew _) _ _ from HAT12.out)) (by first | exact HAT2.out | exact (show NatAt (World.drew _) _ _ from HAT2.out))).out).mono ?_; rintro e w4 ⟨⟨B3, m3, k3⟩, ⟨B4, m4, k4⟩, rfl, hat3, -, hb3⟩; have HO3 : Hid (OI w w4 g s A n c x t A' m c' y) := Lib.hid (by first | exact HO2.out.below hb3 | exact HO2.out.drew.below hb3); have HAT3 := Lib.hid hat3; clear c0 c1 c2 c3; obtain ⟨c0, c1, c2, c3⟩ := HO3.out.held; clear hat3 hb3))
        all_goals (go_wp2_with fail; go_meet)
        all_goals first | exact ⟨⟨B3, m3, k3⟩, rfl, HAT3.out, HO3.out⟩ | exact ⟨⟨B3, m3, k3⟩, rfl, (show NatAt (World.drew _) _ _ from HAT3.out), HO3.out.drew⟩
      case rest =>
        clear HO0 c0 c1 c2 c3
        obtain ⟨S, rfl, hat, hO⟩ := hcut
        have HAT := Lib.hid hat
        have HO3 := Lib.hid hO
        obtain ⟨c0, c1, c2, c3⟩ := hO.held
        rw [← e1, ← e2] at NI
        obtain ⟨σ, hσ⟩ : ∃ b, decide (s < 0) = b := ⟨_, rfl⟩
        obtain ⟨τ, hτ⟩ : ∃ b, decide (t < 0) = b := ⟨_, rfl⟩
        rw [hσ, hτ] at NI
        clear hat hO e1 e2
        cases σ <;> cases τ
        all_goals simp only [bne_self_eq_false, Bool.true_bne, Bool.false_bne, Bool.not_true, Bool.not_false, Bool.bne_true, Bool.bne_false] at NI
        · go_wp2_with (go_at_call 48; refine ((NI _ S HAT.out).out).mono ?_; rintro e w5 ⟨v5, rfl, hz5, hb5⟩; have HO4 := Lib.hid (HO3.out.below hb5); obtain ⟨s5, A5, n5, c5, rfl⟩ := hz5.form; have HZ5 := Lib.hid hz5; obtain ⟨r5, B5, k5, d5, hr5⟩ := HO4.out.R; have HR5 := Lib.hid hr5; obtain ⟨r0, r1⟩ := hr5.cells; have f0 := hr5.frozen 0; have f1 := hr5.frozen 1; clear hz5 hb5 hr5)
          obtain ⟨pz, pu, pb⟩ := HR5.out.put s5 (.slice A5 n5 c5)
          obtain ⟨p0, p1⟩ := pz.cells
          refine bodyPost_ret (v := .agg #[.int .i64 s5, .slice A5 n5 c5]) (by simp [results, Tryz.results42, go_sem, p0, p1]) rfl ?_
          exact ⟨_, rfl, HZ5.out.put pu, by rw [hg]; exact pb HO4.out.bel (by omega)⟩
        · go_wp2_with (go_at_call 48; refine ((NI _ S HAT.out).out).mono ?_; rintro e w5 ⟨v5, rfl, hz5, hb5⟩; have HO4 := Lib.hid (HO3.out.below hb5); obtain ⟨s5, A5, n5, c5, rfl⟩ := hz5.form; have HZ5 := Lib.hid hz5; obtain ⟨r5, B5, k5, d5, hr5⟩ := HO4.out.R; have HR5 := Lib.hid hr5; obtain ⟨r0, r1⟩ := hr5.cells; have f0 := hr5.frozen 0; have f1 := hr5.frozen 1; clear hz5 hb5 hr5)
          obtain ⟨pz, pu, pb⟩ := HR5.out.put s5 (.slice A5 n5 c5)
          obtain ⟨p0, p1⟩ := pz.cells
          refine bodyPost_ret (v := .agg #[.int .i64 s5, .slice A5 n5 c5]) (by simp [results, Tryz.results42, go_sem, p0, p1]) rfl ?_
          exact ⟨_, rfl, HZ5.out.put pu, by rw [hg]; exact pb HO4.out.bel (by omega)⟩
        · go_wp2_with (go_at_call 48; refine ((NI _ S HAT.out).out).mono ?_; rintro e w5 ⟨v5, rfl, hz5, hb5⟩; have HO4 := Lib.hid (HO3.out.below hb5); obtain ⟨s5, A5, n5, c5, rfl⟩ := hz5.form; have HZ5 := Lib.hid hz5; obtain ⟨r5, B5, k5, d5, hr5⟩ := HO4.out.R; have HR5 := Lib.hid hr5; obtain ⟨r0, r1⟩ := hr5.cells; have f0 := hr5.frozen 0; have f1 := hr5.frozen 1; clear hz5 hb5 hr5)
          obtain ⟨pz, pu, pb⟩ := HR5.out.put s5 (.slice A5 n5 c5)
          obtain ⟨p0, p1⟩ := pz.cells
          refine bodyPost_ret (v := .agg #[.int .i64 s5, .slice A5 n5 c5]) (by simp [results, Tryz.results42, go_sem, p0, p1]) rfl ?_
          exact ⟨_, rfl, HZ5.out.put pu, by rw [hg]; exact pb HO4.out.bel (by omega)⟩
        · go_wp2_with (go_at_call 48; refine ((NI _ S HAT.out).out).mono ?_; rintro e w5 ⟨v5, rfl, hz5, hb5⟩; have HO4 := Lib.hid (HO3.out.below hb5); obtain ⟨s5, A5, n5, c5, rfl⟩ := hz5.form; have HZ5 := Lib.hid hz5; obtain ⟨r5, B5, k5, d5, hr5⟩ := HO4.out.R; have HR5 := Lib.hid hr5; obtain ⟨r0, r1⟩ := hr5.cells; have f0 := hr5.frozen 0; have f1 := hr5.frozen 1; clear hz5 hb5 hr5)
          obtain ⟨pz, pu, pb⟩ := HR5.out.put s5 (.slice A5 n5 c5)
          obtain ⟨p0, p1⟩ := pz.cells
          refine bodyPost_ret (v := .agg #[.int .i64 s5, .slice A5 n5 c5]) (by simp [results, Tryz.results42, go_sem, p0, p1]) rfl ?_
          exact ⟨_, rfl, HZ5.out.put pu, by rw [hg]; exact pb HO4.out.bel (by omega)⟩
end Go.Proofs.YteicddmekhdjeaaGreatDoor
