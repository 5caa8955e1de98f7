/- Parts of the proof, one after the other: SumsLaw, HullsSort. -/
import Derived.Test.YtlmdmgbhfoehgaaSu6
import Derived.Test.YtlmdmgbhfoehgaaShelf
import Derived.Test.YtlmdmgbhfoehgaaSu4
/- ShapeSums: the law's walk. -/
namespace Go.Proofs.Ytlmdmgbhfoehgaa
open Go.RowKit Go.Sort

theorem polys2 {w : World} {A A' : Option Addr} {n c m d : Nat} {p q : List Pt} (hl : p.length = n) (hm : q.length = m) (hn : n ≤ 1000000) (hm' : m ≤ 1000000) (hx : PtsAt w A p) (hy : PtsAt w A' q) :
    PolysIn (w.alloc (.cells #[.slice A n c, .slice A' m d] 22)) w.heap.size 0 [p, q] := by
  have hb1 : Below w.heap.size w (w.alloc (.cells #[.slice A n c, .slice A' m d] 22)) := (Below.refl _ _).alloc (Nat.le_refl _) _
  intro i l hi
  match i, hi with
  | 0, hi =>
    obtain rfl : p = l := by simpa using hi
    exact ⟨A, n, c, by simp [World.cell?_alloc_new], hl, hn, hx.below hb1⟩
  | 1, hi =>
    obtain rfl : q = l := by simpa using hi
    exact ⟨A', m, d, by simp [World.cell?_alloc_new], hm, hm', hy.below hb1⟩
theorem polys1 {w : World} {A : Option Addr} {n c : Nat} {p : List Pt} (hl : p.length = n) (hn : n ≤ 1000000) (hx : PtsAt w A p) :
    PolysIn (w.alloc (.cells #[.slice A n c] 22)) w.heap.size 0 [p] := by
  have hb1 : Below w.heap.size w (w.alloc (.cells #[.slice A n c] 22)) := (Below.refl _ _).alloc (Nat.le_refl _) _
  intro i l hi
  match i, hi with
  | 0, hi =>
    obtain rfl : p = l := by simpa using hi
    exact ⟨A, n, c, by simp [World.cell?_alloc_new], hl, hn, hx.below hb1⟩

/-- Sum of what is not convex. -/
theorem sumBad_any (A : Option Addr) (n c : Nat) (A' : Option Addr) (m d : Nat) (p q : List Pt) (r : Int) (w : World) (hl : p.length = n) (hm : q.length = m) (hn' : n ≤ 1000000) (hm' : m ≤ 1000000) (hx : PtsAt w A p) (hy : PtsAt w A' q)
    (hr : convsE [p, q] = r) (h0 : r ≠ 0) :
    Calls Try.prog 9 #[.slice A n c, .slice A' m d] w fun e w' => e = .returned (.tuple #[.slice none 0 0, .int .i64 r]) ∧ Below w.heap.size w w' := by
  have K1 := Lib.hid (checkConvex_any w.heap.size 0 2 2 [p, q] _ rfl (by omega) (polys2 (c := c) (d := d) hl hm hn' hm' hx hy) (by simp))
  rw [hr] at K1
  have HB1 : Hid (Below w.heap.size w (w.alloc (.cells #[.slice A n c, .slice A' m d] 22))) := Lib.hid ((Below.refl _ _).alloc (Nat.le_refl _) _)
  clear hx hy hl hm hr
  go_enter Try.func9, Try.ntmps9
  go_wp2_with fail
  refine (K1.out).mono ?_
  rintro e w1 ⟨rfl, hb2⟩
  have HB2 := Lib.hid (HB1.out.trans (hb2.mono HB1.out.size))
  clear hb2
  go_wp2_with fail
  go_ret2
  exact ⟨rfl, HB2.out⟩
/-- Negative of what is not convex. -/
theorem negBad_any (A : Option Addr) (n c : Nat) (p : List Pt) (r : Int) (w : World) (hl : p.length = n) (hn' : n ≤ 1000000) (hx : PtsAt w A p) (hr : conE p = r) (h0 : r ≠ 0) :
    Calls Try.prog 10 #[.slice A n c] w fun e w' => e = .returned (.tuple #[.slice none 0 0, .int .i64 r]) ∧ Below w.heap.size w w' := by
  have K1 := Lib.hid (checkConvex_any w.heap.size 0 1 1 [p] _ rfl (by omega) (polys1 (c := c) hl hn' hx) (by simp))
  have e1 : convsE [p] = r := by
    show (if conE p = 0 then 0 else conE p) = r
    rw [if_neg (by rw [hr]; exact h0)]; exact hr
  rw [e1] at K1
  have HB1 : Hid (Below w.heap.size w (w.alloc (.cells #[.slice A n c] 22))) := Lib.hid ((Below.refl _ _).alloc (Nat.le_refl _) _)
  clear hx hl hr e1
  go_enter Try.func10, Try.ntmps10
  go_wp2_with fail
  refine (K1.out).mono ?_
  rintro e w1 ⟨rfl, hb2⟩
  have HB2 := Lib.hid (HB1.out.trans (hb2.mono HB1.out.size))
  clear hb2
  go_wp2_with fail
  go_ret2
  exact ⟨rfl, HB2.out⟩

theorem conE_conv {a : List Pt} (h : conE a = 0) : Conv a (gt a 0) ∧ a.all okP = true ∧ a.length ≤ 32 := by
  obtain ⟨h1, h2⟩ := conE_zero h
  unfold polyB at h1
  rw [Bool.and_eq_true, inB_true] at h1
  exact ⟨conv_of_convexB (by omega) h2, h1.1, by omega⟩
theorem cut_twelve {xs : List Pt} {n : Nat} (h : xs.length = n) (h2 : (xs.take (cutN n 12)).length ≤ 32) : (xs.take (cutN n 12)).length ≤ 12 := by
  rw [List.length_take] at *
  unfold cutN at *
  split at h2 <;> split <;> omega

set_option maxHeartbeats 8000000 in
set_option maxRecDepth 100000 in
theorem sums_law (hS : SortsPts) (hR : ReversesPts) (A0 : Option Addr) (n0 c0 : Nat) (xs0 : List Pt) (A1 : Option Addr) (n1 c1 : Nat) (xs1 : List Pt) (w : World)
    (hn0 : xs0.length = n0) (hc0 : n0 ≤ c0) (hbig0 : n0 ≤ 9223372036854775807) (hx0 : PtsAt w A0 xs0) (hn1 : xs1.length = n1) (hc1 : n1 ≤ c1) (hbig1 : n1 ≤ 9223372036854775807) (hx1 : PtsAt w A1 xs1) :
    Calls Try.prog 3 #[.slice A0 n0 c0, .slice A1 n1 c1] w fun e w' => e = .returned (.bool true) ∧ Below w.heap.size w w' := by
  have KA := Lib.hid (pcut_any A0 n0 c0 12 xs0 w hn0 hc0 hbig0 (by omega) hx0)
  have KB := fun W (hW : Below w.heap.size w W) => Lib.hid (pcut_any A1 n1 c1 12 xs1 W hn1 hc1 hbig1 (by omega) (hx1.below hW))
  have hlA := take_len (k := 12) hn0
  have hlB := take_len (k := 12) hn1
  have h12A := Lib.hid (cut_twelve hn0)
  have h12B := Lib.hid (cut_twelve hn1)
  have LV := fun W => Lib.hid (lives4_any W)
  generalize xs0.take (cutN n0 12) = a at *
  generalize xs1.take (cutN n1 12) = b at *
  clear hn0 hc0 hbig0 hx0 hn1 hc1 hbig1 hx1
  have hAB : convsE [a, b] = if conE a = 0 then conE b else conE a := convs_two a b
  have ra := conE_rng a
  have rb := conE_rng b
  go_enter Try.func3, Try.ntmps3
  go_wp2_with fail
  refine (KA.out).mono ?_
  rintro e w1 ⟨va, rfl, hoa, hb1⟩
  clear KA
  go_wp2_with fail
  refine ((KB _ hb1).out).mono ?_
  rintro e w2 ⟨vb, rfl, hob, hb2⟩
  obtain ⟨ga, ca, rfl, -, ata⟩ := hoa.slice_n (n := a.length) rfl
  obtain ⟨gb, cb, rfl, -, atb⟩ := hob.slice_n (n := b.length) rfl
  have Ha := Lib.hid (ata.below hb2)
  have Hb := Lib.hid atb
  have HB2 := Lib.hid (hb1.trans (hb2.mono hb1.size))
  clear KB hoa hob ata atb hb1 hb2
  have KCA := fun W (h : PtsAt W ga a) => Lib.hid (lawConvex_any ga a.length ca a W rfl (by omega) h)
  have KCB := fun W (h : PtsAt W gb b) => Lib.hid (lawConvex_any gb b.length cb b W rfl (by omega) h)
  by_cases ha : conE a = 0
  · obtain ⟨cva, oka, la32⟩ := conE_conv ha
    have la := h12A.out la32
    have ta := cva.three
    rw [ha] at KCA
    rw [if_pos ha] at hAB
    have KN := fun W h => Lib.hid (negX_any hS hR ga a.length ca a (gt a 0) W rfl (by omega) h oka cva)
    have NEG : Hid (∀ s, s.Perm (a.map negP) → s.Pairwise leP → (hullL s).length ≤ 12 ∧ ∀ W (h : PtsAt W ga a), Calls Try.prog 14 #[.slice ga a.length ca] W (RefMovedTo (hullL s) W)) := Lib.hid fun s h1 h2 => by
      obtain ⟨k0, h3, h4, h5⟩ := neg_conv cva h1 h2
      refine ⟨by omega, fun W h => ?_⟩
      obtain ⟨b1, o1, rfl, g1, g2⟩ := h (by intro e; rw [e] at ta; simp at ta)
      refine refNeg_any b1 o1 a.length ca a (hullL s) k0 W rfl (by omega) (by omega) g2 g1 oka h3 (fun x hx => ?_) h4.three
      obtain ⟨f1, f2⟩ := hull_both (l := a.map negP) (s := s) (by rw [List.length_map]; omega) h1 h2
      have hf : flatTo (a.map negP) (a.map negP).length = false := by
        cases q : flatTo (a.map negP) (a.map negP).length
        · rfl
        · have := f1.1 q; have := h4.three; omega
      have hh := f2 hf
      have ek : k0 = lowTo (a.map negP) (a.map negP).length := h3.first.symm.trans hh.first
      rw [ek]
      exact low_le hx
    by_cases hb : conE b = 0
    · obtain ⟨cvb, okb, lb32⟩ := conE_conv hb
      have lb := h12B.out lb32
      have tb := cvb.three
      rw [hb] at KCB
      obtain ⟨K, hK, cK⟩ := conv_sums cva cvb
      have lK : K.length ≤ 24 := by have := sum_len cva cvb hK cK; omega
      have KS := fun W h h' => Lib.hid (sumX_any ga a.length ca gb b.length cb a b K (gt a 0) (gt b 0) W rfl rfl (by omega) (by omega) h h' oka okb cva cvb hK cK)
      have KR : ∀ W, PtsAt W ga a → PtsAt W gb b → Hid (Calls Try.prog 15 #[.slice ga a.length ca, .slice gb b.length cb] W (RefMovedTo K W)) := fun W h h' => Lib.hid (by
        obtain ⟨b1, o1, rfl, g1, g2⟩ := h (by intro e; rw [e] at ta; simp at ta)
        obtain ⟨b2, o2, rfl, f1, f2⟩ := h' (by intro e; rw [e] at tb; simp at tb)
        exact refSum_any b1 o1 a.length ca b2 o2 b.length cb a b K (sumP (gt a 0) (gt b 0)) W rfl rfl (by omega) (by omega) la lb g2 g1 f2 f1 oka okb hK (sumP_low cva cvb) cK.three)
      have SK := fun g k g' k' W h h' => Lib.hid (same_any g g' K.length K.length k k' K K W rfl (by omega) h rfl (by omega) h')
      rw [decide_eq_true rfl] at SK
      clear hAB hK cK cva cvb oka okb la32 lb32 h12A h12B hlA hlB
      -- Sum
      go_wp2_with fail
      refine ((KS _ Ha.out Hb.out).out).mono ?_
      rintro e w3 ⟨v, rfl, ho, hb3⟩
      have HB3 := Lib.hid (HB2.out.trans (hb3.mono HB2.out.size))
      replace Ha := Lib.hid (Ha.out.below hb3)
      replace Hb := Lib.hid (Hb.out.below hb3)
      obtain ⟨g1, k1, rfl, -, at1⟩ := ho.slice_n (n := K.length) rfl
      have H1 := Lib.hid at1
      clear ho at1 hb3 HB2 KS
      -- Negative
      go_wp2_with fail
      refine ((KN _ Ha.out).out).mono ?_
      rintro e w4 ⟨s, v, hp, hs, rfl, ho, hb4⟩
      obtain ⟨ln, KRN⟩ := NEG.out s hp hs
      have HB4 := Lib.hid (HB3.out.trans (hb4.mono HB3.out.size))
      replace Ha := Lib.hid (Ha.out.below hb4)
      replace Hb := Lib.hid (Hb.out.below hb4)
      replace H1 := Lib.hid (H1.out.below hb4)
      clear hp hs hb4 HB3 NEG KN
      generalize hullL s = M at *
      obtain ⟨g2, k2, rfl, -, at2⟩ := ho.slice_n (n := M.length) rfl
      have H2 := Lib.hid at2
      have SM := fun g k g' k' W h h' => Lib.hid (same_any g g' M.length M.length k k' M M W rfl (by omega) h rfl (by omega) h')
      rw [decide_eq_true rfl] at SM
      have KRN' := fun W h => Lib.hid (KRN W h)
      clear ho at2 KRN
      -- convex(a)
      go_wp2_with fail
      refine ((KCA _ Ha.out).out).mono ?_
      rintro e w5 ⟨rfl, hb5⟩
      have HB5 := Lib.hid (HB4.out.trans (hb5.mono HB4.out.size))
      replace Ha := Lib.hid (Ha.out.below hb5)
      replace Hb := Lib.hid (Hb.out.below hb5)
      replace H1 := Lib.hid (H1.out.below hb5)
      replace H2 := Lib.hid (H2.out.below hb5)
      clear hb5 HB4 KCA
      -- the reference's Negative
      go_wp2_with fail
      refine ((KRN' _ Ha.out).out).mono ?_
      rintro e w6 ⟨v, rfl, ho, hb6⟩
      have HB6 := Lib.hid (HB5.out.trans (hb6.mono HB5.out.size))
      replace Ha := Lib.hid (Ha.out.below hb6)
      replace Hb := Lib.hid (Hb.out.below hb6)
      replace H1 := Lib.hid (H1.out.below hb6)
      replace H2 := Lib.hid (H2.out.below hb6)
      obtain ⟨g3, k3, rfl, -, at3⟩ := ho.slice_n (n := M.length) rfl
      have H3 := Lib.hid at3
      clear ho at3 hb6 HB5 KRN'
      go_wp2_with fail
      refine ((SM _ _ _ _ _ H2.out H3.out).out).mono ?_
      rintro e w7 ⟨rfl, hb7⟩
      have HB7 := Lib.hid (HB6.out.trans (hb7.mono HB6.out.size))
      replace Ha := Lib.hid (Ha.out.below hb7)
      replace Hb := Lib.hid (Hb.out.below hb7)
      replace H1 := Lib.hid (H1.out.below hb7)
      clear hb7 HB6 H2 H3 SM
      go_wp2_with fail
      refine ((LV _).out).mono ?_
      rintro e w8 ⟨rfl, hb8⟩
      have HB8 := Lib.hid (HB7.out.trans (hb8.mono HB7.out.size))
      replace Ha := Lib.hid (Ha.out.below hb8)
      replace Hb := Lib.hid (Hb.out.below hb8)
      replace H1 := Lib.hid (H1.out.below hb8)
      clear hb8 HB7
      go_wp2_with fail
      refine ((KCB _ Hb.out).out).mono ?_
      rintro e w9 ⟨rfl, hb9⟩
      have HB9 := Lib.hid (HB8.out.trans (hb9.mono HB8.out.size))
      replace Ha := Lib.hid (Ha.out.below hb9)
      replace Hb := Lib.hid (Hb.out.below hb9)
      replace H1 := Lib.hid (H1.out.below hb9)
      clear hb9 HB8 KCB
      -- the reference's Sum
      go_wp2_with fail
      refine ((KR _ Ha.out Hb.out).out).mono ?_
      rintro e w10 ⟨v, rfl, ho, hb10⟩
      have HB10 := Lib.hid (HB9.out.trans (hb10.mono HB9.out.size))
      replace H1 := Lib.hid (H1.out.below hb10)
      obtain ⟨g4, k4, rfl, -, at4⟩ := ho.slice_n (n := K.length) rfl
      have H4 := Lib.hid at4
      clear ho at4 hb10 HB9 KR
      go_wp2_with fail
      refine ((SK _ _ _ _ _ H1.out H4.out).out).mono ?_
      rintro e w11 ⟨rfl, hb11⟩
      have HB11 := Lib.hid (HB10.out.trans (hb11.mono HB10.out.size))
      go_wp2_with fail
      go_ret
      exact ⟨rfl, HB11.out⟩
    · have KS := fun W h h' => Lib.hid (sumBad_any ga a.length ca gb b.length cb a b (conE b) W rfl rfl (by omega) (by omega) h h' hAB hb)
      generalize conE b = r at *
      clear hAB cva oka la32 h12A h12B hlA
      go_wp2_with fail
      refine ((KS _ Ha.out Hb.out).out).mono ?_
      rintro e w3 ⟨rfl, hb3⟩
      have HB3 := Lib.hid (HB2.out.trans (hb3.mono HB2.out.size))
      replace Ha := Lib.hid (Ha.out.below hb3)
      replace Hb := Lib.hid (Hb.out.below hb3)
      clear hb3 HB2 KS
      go_wp2_with fail
      refine ((KN _ Ha.out).out).mono ?_
      rintro e w4 ⟨s, v, hp, hs, rfl, ho, hb4⟩
      obtain ⟨ln, KRN⟩ := NEG.out s hp hs
      have HB4 := Lib.hid (HB3.out.trans (hb4.mono HB3.out.size))
      replace Ha := Lib.hid (Ha.out.below hb4)
      replace Hb := Lib.hid (Hb.out.below hb4)
      clear hp hs hb4 HB3 NEG KN
      generalize hullL s = M at *
      obtain ⟨g2, k2, rfl, -, at2⟩ := ho.slice_n (n := M.length) rfl
      have H2 := Lib.hid at2
      have SM := fun g k g' k' W h h' => Lib.hid (same_any g g' M.length M.length k k' M M W rfl (by omega) h rfl (by omega) h')
      rw [decide_eq_true rfl] at SM
      have KRN' := fun W h => Lib.hid (KRN W h)
      clear ho at2 KRN
      go_wp2_with fail
      refine ((KCA _ Ha.out).out).mono ?_
      rintro e w5 ⟨rfl, hb5⟩
      have HB5 := Lib.hid (HB4.out.trans (hb5.mono HB4.out.size))
      replace Ha := Lib.hid (Ha.out.below hb5)
      replace Hb := Lib.hid (Hb.out.below hb5)
      replace H2 := Lib.hid (H2.out.below hb5)
      clear hb5 HB4 KCA
      go_wp2_with fail
      refine ((KRN' _ Ha.out).out).mono ?_
      rintro e w6 ⟨v, rfl, ho, hb6⟩
      have HB6 := Lib.hid (HB5.out.trans (hb6.mono HB5.out.size))
      replace Hb := Lib.hid (Hb.out.below hb6)
      replace H2 := Lib.hid (H2.out.below hb6)
      obtain ⟨g3, k3, rfl, -, at3⟩ := ho.slice_n (n := M.length) rfl
      have H3 := Lib.hid at3
      clear ho at3 hb6 HB5 KRN'
      go_wp2_with fail
      refine ((SM _ _ _ _ _ H2.out H3.out).out).mono ?_
      rintro e w7 ⟨rfl, hb7⟩
      have HB7 := Lib.hid (HB6.out.trans (hb7.mono HB6.out.size))
      replace Hb := Lib.hid (Hb.out.below hb7)
      clear hb7 HB6 H2 H3 SM
      go_wp2_with fail
      refine ((LV _).out).mono ?_
      rintro e w8 ⟨rfl, hb8⟩
      have HB8 := Lib.hid (HB7.out.trans (hb8.mono HB7.out.size))
      replace Hb := Lib.hid (Hb.out.below hb8)
      clear hb8 HB7
      go_wp2_with fail
      refine ((KCB _ Hb.out).out).mono ?_
      rintro e w9 ⟨rfl, hb9⟩
      have HB9 := Lib.hid (HB8.out.trans (hb9.mono HB8.out.size))
      clear hb9 HB8 KCB
      go_wp2_with fail
      go_ret
      exact ⟨rfl, HB9.out⟩
  · rw [if_neg ha] at hAB
    have KS := fun W h h' => Lib.hid (sumBad_any ga a.length ca gb b.length cb a b (conE a) W rfl rfl (by omega) (by omega) h h' hAB ha)
    have KN := fun W h => Lib.hid (negBad_any ga a.length ca a (conE a) W rfl (by omega) h rfl ha)
    generalize conE a = r at *
    clear hAB h12A h12B
    go_wp2_with fail
    refine ((KS _ Ha.out Hb.out).out).mono ?_
    rintro e w3 ⟨rfl, hb3⟩
    have HB3 := Lib.hid (HB2.out.trans (hb3.mono HB2.out.size))
    replace Ha := Lib.hid (Ha.out.below hb3)
    clear hb3 HB2 KS
    go_wp2_with fail
    refine ((KN _ Ha.out).out).mono ?_
    rintro e w4 ⟨rfl, hb4⟩
    have HB4 := Lib.hid (HB3.out.trans (hb4.mono HB3.out.size))
    replace Ha := Lib.hid (Ha.out.below hb4)
    clear hb4 HB3 KN
    go_wp2_with fail
    refine ((KCA _ Ha.out).out).mono ?_
    rintro e w5 ⟨rfl, hb5⟩
    have HB5 := Lib.hid (HB4.out.trans (hb5.mono HB4.out.size))
    clear hb5 HB4 KCA
    go_wp2_with fail
    refine ((LV _).out).mono ?_
    rintro e w6 ⟨rfl, hb6⟩
    have HB6 := Lib.hid (HB5.out.trans (hb6.mono HB5.out.size))
    go_wp2_with fail
    go_ret
    exact ⟨rfl, HB6.out⟩
end Go.Proofs.Ytlmdmgbhfoehgaa

/- The library's sort and reverse at points. -/
namespace Go.Proofs.Ytlmdmgbhfoehgaa
open Go.RowKit Go.Sort

theorem ltOf_cmpQ (x y : Pt) : ltOf cmpQ x y = firstP x y := cmpQ_first x y
theorem ltP_iff {a b : Pt} : firstP a b = true ↔ ltP a b := by
  unfold firstP firstB ltP
  simp only [Bool.or_eq_true, Bool.and_eq_true, decide_eq_true_eq, beq_iff_eq]
theorem swoPts : SWO (ltOf cmpQ) where
  irrefl x := by
    rw [ltOf_cmpQ]
    cases h : firstP x x
    · rfl
    · exact absurd (ltP_iff.1 h) (ltP_irrefl x)
  trans x y z h1 h2 := by
    rw [ltOf_cmpQ] at *
    exact ltP_iff.2 (ltP_trans (ltP_iff.1 h1) (ltP_iff.1 h2))
  ntrans x y z h1 h2 := by
    rw [ltOf_cmpQ] at *
    have k1 : leP y x := by
      rcases leP_total y x with g | g
      · exact g
      · rw [ltP_iff.2 g] at h1; cases h1
    have k2 : leP z y := by
      rcases leP_total z y with g | g
      · exact g
      · rw [ltP_iff.2 g] at h2; cases h2
    cases h : firstP x z
    · rfl
    · exact absurd (leP_ltP (leP_trans k2 k1) (ltP_iff.1 h)) (ltP_irrefl z)

theorem encP_one (x : Pt) : ∀ v ∈ encP x, v.oneCell' = true := fun v hv => by
  simp [encP] at hv; rcases hv with rfl | rfl <;> rfl

theorem sortsPts : SortsPts := fun blk off cap d w hH hblk hsz => by
  have eg : ∀ args w, (callFunc 78 args).run Try.prog w = .ok (.enter 78 args) w := enters_of Try.func78 (by kernel_rfl) rfl
  have h := AnyQ.slices_SortFunc Try.sortPt 2 Try.isAgg38 Try.sizeOf38 encP (fun _ => rfl) encP_one cmpQ swoPts 78 #[] blk off cap d w eg (fun _ _ _ _ x y => compare_lays x.1 x.2 y.1 y.2 _) hH hblk hsz
  exact h

theorem reversesPts : ReversesPts := fun blk off cap d w hH hsz h0 => by
  have h := AnyQ.slices_Reverse Try.reversePt 2 Try.isAgg38 Try.sizeOf38 encP (fun _ => rfl) encP_one blk off cap d w hH (by omega)
  exact h
end Go.Proofs.Ytlmdmgbhfoehgaa
