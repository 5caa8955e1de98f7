/- Parts of the proof, one after the other: Corners, PlSame, PickDev. -/
import Derived.Test.YtffjonpajjioaaaTp4
import Derived.Test.YtffjonpajjioaaaTp2
import Derived.Test.YtffjonpajjioaaaTp6
import Derived.Deep.CutBlock
import Derived.Test.YtffjonpajjioaaaTp5
import Derived.Laws.StructEq
import Derived.BigQuiet
import Derived.Lib.QuietBelow
/- TopPlaced: its corners, convex polygons made of any points. -/
namespace Go.Proofs.Ytffjonpajjioaaa
open Go.RowKit Go.Sort
attribute [local go_sem ↓] run_min_mn run_max_mx

def triC : List Pt := [(0, 0), (1, 0), (0, 1)]
def tm7 (p : Pt) : Pt := (p.1.tmod 7, p.2.tmod 7)
def fold7 (xs : List Pt) : List Pt := xs.map tm7
theorem fold7_length (xs : List Pt) : (fold7 xs).length = xs.length := by simp [fold7]
theorem tmod7_bd (x : Int) : -6 ≤ x.tmod 7 ∧ x.tmod 7 ≤ 6 := by
  have a := Int.tmod_lt_of_pos x (b := 7) (by omega)
  have b := Int.lt_tmod_of_pos x (b := 7) (by omega)
  omega
/-- A convex polygon of the law. -/
structure PolyC (H : List Pt) (h0 : Pt) : Prop where
  conv : Conv H h0
  bd : ∀ p ∈ H, (-6 ≤ p.1 ∧ p.1 ≤ 6) ∧ (-6 ≤ p.2 ∧ p.2 ≤ 6)
  len : H.length ≤ 11
theorem triOwn (w : World) : PtsOwn (w.alloc (.cells #[.int .i64 0, .int .i64 0, .int .i64 1, .int .i64 0, .int .i64 0, .int .i64 1] 27)) w.heap.size (.slice (some ⟨w.heap.size, 0, none⟩) 3 3) triC :=
  ⟨by simp [triC, ptsV], .inr ⟨w.heap.size, 3, _, rfl, Nat.le_refl _, heap_alloc_new w _, Nat.le_refl _, by simp [maxLen], by simp, by simp [triC, ptsV]⟩⟩
def CornersTo (w : World) (e : Ending) (w' : World) : Prop := ∃ v H h0, e = .returned v ∧ PtsOwn w' w.heap.size v H ∧ PolyC H h0 ∧ Below w.heap.size w w'

set_option maxRecDepth 100000 in
set_option maxHeartbeats 4000000 in
theorem corners_any (hS : SortsPts) (hR : ReversesPts) (A : Option Addr) (n c : Nat) (xs : List Pt) (w : World) (hn : xs.length = n) (hbig : n ≤ 9223372036854775807) (hx : PtsAt w A xs) (hw : ∀ x ∈ xs, (-9223372036854775808 ≤ x.1 ∧ x.1 ≤ 9223372036854775807) ∧ (-9223372036854775808 ≤ x.2 ∧ x.2 ≤ 9223372036854775807)) :
    Calls Try.prog 4 #[.slice A n c] w (CornersTo w) := by
  have HN := Lib.hid hn
  have HX := Lib.hid hx
  have HW := Lib.hid hw
  clear hn hx hw
  have hf1 : ∀ k, (triC ++ fold7 (xs.take k)).length ≤ 3 + k := fun k => by
    rw [List.length_append, fold7_length, List.length_take]
    have : triC.length = 3 := rfl
    omega
  have HF1 := Lib.hid hf1
  clear hf1
  go_enter Try.func4, Try.ntmps4
  go_upto_block 0 with (fail)
  have O0 := triOwn w
  have hb0 : Below w.heap.size w (w.alloc (.cells #[.int .i64 0, .int .i64 0, .int .i64 1, .int .i64 0, .int .i64 0, .int .i64 1] 27)) := (Below.refl _ _).alloc (Nat.le_refl _) _
  generalize w.alloc (.cells #[.int .i64 0, .int .i64 0, .int .i64 1, .int .i64 0, .int .i64 0, .int .i64 1] 27) = w0 at *
  have HO0 := Lib.hid O0
  have HB0 := Lib.hid hb0
  clear O0 hb0
  go_cut [3] (fun v wx => ∃ l, v = v ∧ PtsOwn wx w.heap.size v (triC ++ fold7 l) ∧ (triC ++ fold7 l).length ≤ 11 ∧ Below w.heap.size w wx)
  case first =>
    go_wp2_with fail
    go_loopw [3, 4] (fun o i wr => ∃ k : Nat, k ≤ n ∧ k ≤ 8 ∧ i = .int .i64 k ∧ PtsOwn wr w.heap.size o (triC ++ fold7 (xs.take k)) ∧ Below w.heap.size w wr) (fun _ i _ => 8 - (intOf i).toNat)
    case atStart => exact ⟨0, Nat.zero_le _, by omega, rfl, HO0.out, HB0.out⟩
    case round =>
      clear HO0 HB0
      obtain ⟨k, hk, hk9, rfl, hown, hbr⟩ := hrel
      have HO := Lib.hid hown
      have HB := Lib.hid hbr
      have hsz := hbr.size
      clear hown
      by_cases hlt : k < n ∧ k < 8
      · obtain ⟨hlt, hlt2⟩ := hlt
        have hkl : k < xs.length := by rw [HN.out]; exact hlt
        obtain ⟨b, off, rfl, hb, hin⟩ := HX.out (by intro e; subst e; simp at hkl)
        obtain ⟨h1, h2⟩ := (hin.below hbr hb) k _ (List.getElem?_eq_getElem hkl)
        obtain ⟨⟨d3, d4⟩, d5, d6⟩ := HW.out _ (List.getElem_mem hkl)
        have HNX : Hid (triC ++ fold7 (xs.take (k + 1)) = (triC ++ fold7 (xs.take k)) ++ [tm7 xs[k]]) := Lib.hid (by
          rw [List.take_succ_eq_append_getElem hkl]; unfold fold7; rw [List.map_append, List.append_assoc]; rfl)
        have HLN : Hid ((triC ++ fold7 (xs.take k)).length ≤ 100) := Lib.hid (by have := HF1.out k; omega)
        have HTM : ∀ p : Pt, tm7 p = (p.1.tmod 7, p.2.tmod 7) := fun p => rfl
        rw [HTM] at HNX
        clear HTM
        generalize xs[k] = p at *
        generalize triC ++ fold7 (xs.take k) = cur at *
        obtain ⟨x, y⟩ := p
        replace d3 : -9223372036854775808 ≤ x := d3
        replace d4 : x ≤ 9223372036854775807 := d4
        replace d5 : -9223372036854775808 ≤ y := d5
        replace d6 : y ≤ 9223372036854775807 := d6
        have ne1 : u3.ownBlock ≠ some b := fun e => by have := (HO.out.base b e).1; omega
        have hB : b < wr.heap.size := by omega
        clear hin
        have l1 : b < (wr.alloc (.cells #[.int .i64 (x.tmod 7), .int .i64 (y.tmod 7)] 27)).drew.heap.size := by simp; omega
        have k1 : (wr.alloc (.cells #[.int .i64 (x.tmod 7), .int .i64 (y.tmod 7)] 27)).drew.cell? ⟨b, off + k * 2, none⟩ = some (.int .i64 x) := (World.cell?_alloc_lt wr _ ⟨b, _, none⟩ hB).trans h1
        have k2 : (wr.alloc (.cells #[.int .i64 (x.tmod 7), .int .i64 (y.tmod 7)] 27)).drew.cell? ⟨b, off + k * 2 + 1, none⟩ = some (.int .i64 y) := (World.cell?_alloc_lt wr _ ⟨b, _, none⟩ hB).trans h2
        have r1 : IntKind.i64.wrap (x.tmod 7) = x.tmod 7 := by have := tmod7_bd x; rw [IntKind.wrap_i64]; omega
        have r2 : IntKind.i64.wrap (y.tmod 7) = y.tmod 7 := by have := tmod7_bd y; rw [IntKind.wrap_i64]; omega
        go_wp2_with fail
        go_region_held3 (fun w' => w'.cell? ⟨b, off + k * 2, none⟩ = some (.int .i64 x) ∧ w'.cell? ⟨b, off + k * 2 + 1, none⟩ = some (.int .i64 y))
          (first
            | go_keep
            | exact ⟨(hgrow.cell_far _ l1 (Ne.symm ne1)).trans k1, (hgrow.cell_far _ l1 (Ne.symm ne1)).trans k2⟩)
          ((refine step_papp (by rfl) _ _ (by rfl) w.heap.size _ cur [(x.tmod 7, y.tmod 7)] (some ⟨wr.heap.size, 0, none⟩) 1 1 (by rfl) (by rfl) ((HO.out.alloc _).drew) rfl (PtsAt.one wr _ _) (by have := HLN.out; simp; omega) (by simp; omega) ?_; intro v1 w2 hown1 hgrow hat))
        have HO2 : Hid (PtsOwn w2 w.heap.size v1 (triC ++ fold7 (xs.take (k + 1)))) := Lib.hid (by rw [HNX.out]; exact hown1)
        have HB2 : Hid (Below w.heap.size w w2) := Lib.hid ((hbr.alloc (by omega) _).drew.grown hgrow (by simp; omega) (fun k hk => (HO.out.base k hk).1))
        clear hown1 hgrow hat k1 k2 l1 r1 r2
        go_wp2_with fail
        go_roundw
        case rel => exact ⟨k + 1, by omega, by omega, by go_num, HO2.out, HB2.out⟩
        case measure => simp [intOf]; omega
      · have HEND : Hid (∃ l, u3 = u3 ∧ PtsOwn wr w.heap.size u3 (triC ++ fold7 l) ∧ (triC ++ fold7 l).length ≤ 11 ∧ Below w.heap.size w wr) := Lib.hid ⟨_, rfl, HO.out, by have := HF1.out k; omega, HB.out⟩
        have h3 : k = n ∨ (k < n ∧ k = 8) := by omega
        rcases h3 with h3 | ⟨h3, h4⟩
        all_goals
          go_wp2_with fail
          go_meet
          exact HEND.out
  case rest =>
  obtain ⟨l0, -, ho, hlen, hb⟩ := hcut
  have hbd : ∀ p ∈ triC ++ fold7 l0, (-6 ≤ p.1 ∧ p.1 ≤ 6) ∧ (-6 ≤ p.2 ∧ p.2 ≤ 6) := fun p hp => by
    rcases List.mem_append.1 hp with hp | hp
    · simp only [triC, List.mem_cons, List.not_mem_nil, or_false] at hp
      rcases hp with rfl | rfl | rfl <;> simp only <;> omega
    · unfold fold7 at hp
      obtain ⟨q, _, rfl⟩ := List.mem_map.1 hp
      exact ⟨tmod7_bd q.1, tmod7_bd q.2⟩
  have t0 : (0, 0) ∈ triC ++ fold7 l0 := by simp [triC]
  have t1 : (1, 0) ∈ triC ++ fold7 l0 := by simp [triC]
  have t2 : (0, 1) ∈ triC ++ fold7 l0 := by simp [triC]
  generalize triC ++ fold7 l0 = l at *
  obtain ⟨A1, c1, rfl, -, hat, -⟩ := ho.slice
  have hpt : ptsB l 1 = true := by
    unfold ptsB
    have a : decide (1 ≤ l.length) = true := decide_eq_true (List.length_pos_of_mem t0)
    have b : decide (l.length ≤ 32) = true := decide_eq_true (by omega)
    have c : l.all okP = true := List.all_eq_true.2 fun p hp => by
      have := hbd p hp
      unfold okP validB
      rw [Bool.and_eq_true, inB_true, inB_true]
      omega
    rw [a, b, c]; rfl
  have HX1 := Lib.hid (hullX_any hS hR A1 l.length c1 l wc rfl (by omega) hat)
  have HBD := Lib.hid hbd
  have HT := Lib.hid (And.intro t0 (And.intro t1 t2))
  have HPT := Lib.hid hpt
  have HBW := Lib.hid hb
  have HLE := Lib.hid hlen
  clear hbd t0 t1 t2 hpt ho hat hb hlen HO0 HB0 HX HN HW HF1
  go_wp2_with fail
  refine (HX1.out).mono ?_
  rintro e w1 ⟨hb1, hc⟩
  obtain ⟨v, H, h0, rfl, ho1, hpoly⟩ : ∃ v H h0, e = .returned (.tuple #[v, .int .i64 0]) ∧ PtsOwn w1 wc.heap.size v H ∧ PolyC H h0 := by
    rcases hc with ⟨q, _⟩ | ⟨_, s, hp, hs, hc⟩
    · rw [HPT.out] at q; cases q
    · obtain ⟨h3, s0, hH, hlow⟩ := hull_facts hp hs HT.out.1 HT.out.2.1 HT.out.2.2
      rcases hc with ⟨q, _⟩ | ⟨_, v, he, ho⟩
      · omega
      · exact ⟨v, hullL s, s0, he, ho, conv_of hH hlow h3, fun p hp => HBD.out p (hull_sub hH hp), Nat.le_trans (hull_length hH) HLE.out⟩
  have HO1 := Lib.hid (ho1.low HBW.out.size)
  have HB1 := Lib.hid (HBW.out.trans (hb1.mono HBW.out.size))
  have HPO := Lib.hid hpoly
  clear hc ho1 hb1 hpoly HX1
  go_wp2_with fail
  go_ret
  exact ⟨v, H, h0, rfl, HO1.out, HPO.out, HB1.out⟩
end Go.Proofs.Ytffjonpajjioaaa

/- The law's placed: two lists of placed shapes that are the same. -/
namespace Go.Proofs.Ytffjonpajjioaaa
open Go.RowKit Go.Sort
attribute [local go_sem ↓] run_min_mn run_max_mx Go.wp_at_zero Go.wp_at_succ

/-- Placed shapes, one after the other. -/
def PlIn (w : World) (b : Nat) (l : List (Nat × Pt)) : Prop := ∀ (i : Nat) (x : Nat × Pt), l[i]? = some x → w.cell? ⟨b, i * 3, none⟩ = some (.int .i64 (x.1 : Nat)) ∧ w.cell? ⟨b, i * 3 + 1, none⟩ = some (.int .i64 x.2.1) ∧ w.cell? ⟨b, i * 3 + 2, none⟩ = some (.int .i64 x.2.2)
def PlAt (w : World) (A : Option Addr) (l : List (Nat × Pt)) : Prop := l ≠ [] → ∃ b, A = some ⟨b, 0, none⟩ ∧ b < w.heap.size ∧ PlIn w b l
theorem PlIn.below {w w' : World} {b : Nat} {l : List (Nat × Pt)} (h : PlIn w b l) (hb : Below w.heap.size w w') (hB : b < w.heap.size) : PlIn w' b l := fun i x hx => by
  obtain ⟨h1, h2, h3⟩ := h i x hx
  exact ⟨(hb.cell (p := ⟨b, _, none⟩) hB).trans h1, (hb.cell (p := ⟨b, _, none⟩) hB).trans h2, (hb.cell (p := ⟨b, _, none⟩) hB).trans h3⟩
theorem PlAt.below {w w' : World} {A : Option Addr} {l : List (Nat × Pt)} (h : PlAt w A l) (hb : Below w.heap.size w w') : PlAt w' A l := fun hne => by
  obtain ⟨b, e, h1, h2⟩ := h hne
  exact ⟨b, e, Nat.lt_of_lt_of_le h1 hb.size, h2.below hb h1⟩
theorem plV_get : ∀ (l : List (Nat × Pt)) (i : Nat) (x : Nat × Pt), l[i]? = some x → (plV l)[i * 3]? = some (.int .i64 (x.1 : Nat)) ∧ (plV l)[i * 3 + 1]? = some (.int .i64 x.2.1) ∧ (plV l)[i * 3 + 2]? = some (.int .i64 x.2.2)
  | [], _, _, h => by simp at h
  | q :: l, 0, x, h => by
    obtain rfl : q = x := by simpa using h
    exact ⟨rfl, rfl, rfl⟩
  | q :: l, i + 1, x, h => by
    have := plV_get l i x (by simpa using h)
    rw [show (i + 1) * 3 = i * 3 + 1 + 1 + 1 by omega]
    simpa only [plV, List.getElem?_cons_succ] using this
theorem PlOwn.slice {w : World} {base : Nat} {v : Value} {l : List (Nat × Pt)} (h : PlOwn w base v l) : ∃ A c, v = .slice A l.length c ∧ PlAt w A l := by
  rcases h.2 with ⟨rfl, hn⟩ | ⟨g, cap, cur, rfl, hb, hg, hnc, _, hsz, ht⟩
  · exact ⟨none, 0, by rw [hn], fun hne => absurd (List.eq_nil_of_length_eq_zero hn) hne⟩
  · refine ⟨_, cap, rfl, fun _ => ⟨g, rfl, (Array.getElem?_eq_some_iff.1 hg).1, fun i x hx => ?_⟩⟩
    obtain ⟨h1, h2, h3⟩ := plV_get l i x hx
    have key : ∀ j u, (plV l)[j]? = some u → w.cell? ⟨g, j, none⟩ = some u := fun j u hu => by
      rw [cell_of_row w g _ cur _ (0, 0) hg]
      rw [← ht, List.getElem?_take] at hu
      split at hu
      · simpa using hu
      · cases hu
    exact ⟨key _ _ h1, key _ _ h2, key _ _ h3⟩

end Go.Proofs.Ytffjonpajjioaaa

/- Package shape's Lattice: the points on the edges, and Pick's formula. -/
namespace Go.Proofs.Ytffjonpajjioaaa
open Go.RowKit Go.Sort
attribute [local go_sem ↓] run_min_mn run_max_mx Go.wp_at_zero Go.wp_at_succ

theorem tmod_nat (x y : Nat) : Int.tmod (x : Int) (y : Int) = ((x % y : Nat) : Int) := rfl

set_option maxHeartbeats 400000 in
theorem divisor_any (a b : Nat) (w : World) (ha : a ≤ 1000000) (hb : b ≤ 1000000) :
    Calls Try.prog 39 #[.int .i64 a, .int .i64 b] w fun e w' => e = .returned (.int .i64 (Nat.gcd a b)) ∧ Below w.heap.size w w' := by
  go_enter Try.func39, Try.ntmps39
  go_wp2
  go_loopw [0, 1] (fun p q wr => ∃ x y : Nat, p = .int .i64 x ∧ q = .int .i64 y ∧ Nat.gcd x y = Nat.gcd a b ∧ x ≤ 1000000 ∧ y ≤ 1000000 ∧ Below w.heap.size w wr) (fun _ q _ => (intOf q).toNat)
  case atStart => exact ⟨a, b, rfl, rfl, rfl, ha, hb, Below.refl _ _⟩
  case round =>
    obtain ⟨x, y, rfl, rfl, hg, hx, hy, hbw⟩ := hrel
    have HG := Lib.hid hg
    clear hg ha hb
    by_cases h0 : 0 < y
    · have ht := tmod_nat x y
      have hlt : x % y < y := Nat.mod_lt _ h0
      have hne : ((y : Int) == 0) = false := by simp; omega
      generalize hr : x % y = r at ht hlt
      have HR := Lib.hid hr
      clear hr
      go_wp2_with fail
      refine wp_region_quiet_below (by kernel_rfl) (by kernel_rfl) ?_
      repeat (go_big_quiet_step (fail))
      refine wpQuiet_nil ?_
      intro _ hw'
      obtain ⟨⟨dq, osq⟩, hw''⟩ := hw'
      subst hw''
      go_wp2_with fail
      go_roundw
      case rel => exact ⟨y, r, rfl, rfl, by rw [← HG.out, ← HR.out, Nat.gcd_comm x y, Nat.gcd_rec y x, Nat.gcd_comm], hy, by omega, hbw.trans ((below_regrown wr dq osq).mono hbw.size)⟩
      case measure => simp [intOf]; omega
    · obtain rfl : y = 0 := by omega
      go_wp2
      go_ret
      exact ⟨ret_int (by rw [← HG.out]; simp), hbw⟩

theorem mx_abs (x : Int) : mx x (-x) = (x.natAbs : Int) := by unfold mx; split <;> omega
theorem absolute_any (x : Int) (w : World) (hx : -1000000000000 ≤ x ∧ x ≤ 1000000000000) :
    Calls Try.prog 25 #[.int .i64 x] w fun e w' => e = .returned (.int .i64 (x.natAbs : Nat)) ∧ Below w.heap.size w w' := by
  have hw : IntKind.i64.wrap (-x) = -x := by rw [IntKind.wrap_i64]; omega
  have H := Lib.hid (mx_abs x)
  go_enter Try.func25, Try.ntmps25
  go_wp2
  go_ret
  exact ⟨ret_int H.out, Below.refl _ _⟩

theorem gcd_le_add (a b : Nat) : Nat.gcd a b ≤ a + b := by
  rcases Nat.eq_zero_or_pos a with h | h
  · subst h; simp
  · have := Nat.gcd_le_left b h; omega
theorem gd_bd {l : List Pt} (hok : l.all okP = true) (i : Nat) : 0 ≤ gd l i ∧ gd l i ≤ 40000 := by
  have a := okP_bd (vtx_ok hok i)
  have b := okP_bd (vtx_ok hok (i + 1))
  unfold gd gcdP
  have := gcd_le_add ((vtx l (i + 1)).1 - (vtx l i).1).natAbs ((vtx l (i + 1)).2 - (vtx l i).2).natAbs
  omega
theorem border_bd {l : List Pt} (hok : l.all okP = true) : ∀ k : Nat, 0 ≤ sumF (gd l) k ∧ sumF (gd l) k ≤ 40000 * (k : Int)
  | 0 => by simp [sumF]
  | k + 1 => by
    have h := border_bd hok k
    have g := gd_bd hok k
    unfold sumF
    omega

set_option maxRecDepth 100000 in
set_option maxHeartbeats 2000000 in
theorem borderPoints_any (b off n c : Nat) (l : List Pt) (w : World) (hl : l.length = n) (hn : 0 < n) (hn' : n ≤ 100) (h : PtsIn w b off l) (hb : b < w.heap.size) (hok : l.all okP = true) :
    Calls Try.prog 24 #[.slice (some ⟨b, off, none⟩) n c] w fun e w' => e = .returned (.int .i64 (border l)) ∧ Below w.heap.size w w' := by
  have HE : Hid (sumF (gd l) n = border l) := Lib.hid (by rw [← hl]; rfl)
  have HP := Lib.hid h
  have HL := Lib.hid hl
  have HOK := Lib.hid hok
  clear h hl hok
  go_enter Try.func24, Try.ntmps24
  go_wp2
  go_loopw [3, 9] (fun s i wr => ∃ k : Nat, k ≤ n ∧ i = .int .i64 k ∧ s = .int .i64 (sumF (gd l) k) ∧ Below w.heap.size w wr) (fun _ i _ => n - (intOf i).toNat)
  case atStart => exact ⟨0, Nat.zero_le _, rfl, rfl, Below.refl _ _⟩
  case round =>
    obtain ⟨k, hk, rfl, rfl, hbw⟩ := hrel
    by_cases hlt : k < n
    · have hB : b < wr.heap.size := Nat.lt_of_lt_of_le hb hbw.size
      have N := fun W hW => Lib.hid (edge_any b off n c l k W HL.out hn (by omega) (by omega) ((HP.out.below hbw hb).below (B := wr.heap.size) hW hB))
      have v1 : gt l (k % n) = vtx l k := by rw [← HL.out]; rfl
      have v2 : nx l k = vtx l (k + 1) := rfl
      rw [v1, v2] at N
      have ok1 := okP_bd (vtx_ok HOK.out k)
      have ok2 := okP_bd (vtx_ok HOK.out (k + 1))
      have sb := border_bd HOK.out k
      have gb := gd_bd HOK.out k
      have HS : Hid (sumF (gd l) (k + 1) = sumF (gd l) k + gd l k) := Lib.hid rfl
      have HG : Hid (gd l k = (Nat.gcd ((vtx l (k + 1)).1 - (vtx l k).1).natAbs ((vtx l (k + 1)).2 - (vtx l k).2).natAbs : Nat)) := Lib.hid rfl
      clear v1 v2
      generalize gd l k = gv at *
      generalize sumF (gd l) k = s at *
      generalize vtx l k = a at *
      generalize vtx l (k + 1) = a' at *
      obtain ⟨a1, a2⟩ := a
      obtain ⟨b1, b2⟩ := a'
      simp only at ok1 ok2
      have M1 := fun W => Lib.hid (absolute_any (b1 - a1) W (by omega))
      have M2 := fun W => Lib.hid (absolute_any (b2 - a2) W (by omega))
      have M3 := fun W => Lib.hid (divisor_any (b1 - a1).natAbs (b2 - a2).natAbs W (by omega) (by omega))
      have HG' : Hid (gv = (Nat.gcd (b1 - a1).natAbs (b2 - a2).natAbs : Nat)) := HG
      rw [← HG'.out] at M3
      have w1 : IntKind.i64.wrap (b1 - a1) = b1 - a1 := by rw [IntKind.wrap_i64]; omega
      have w2 : IntKind.i64.wrap (b2 - a2) = b2 - a2 := by rw [IntKind.wrap_i64]; omega
      have w3 : IntKind.i64.wrap (s + gv) = s + gv := by rw [IntKind.wrap_i64]; omega
      generalize (b1 - a1).natAbs = d1 at *
      generalize (b2 - a2).natAbs = d2 at *
      clear HG HG' ok1 ok2 sb gb
      go_wp2_with fail
      refine ((N _ (Below.refl _ _)).out).mono ?_
      rintro e W1 ⟨rfl, hb1⟩
      have B := boxed2 W1 a1 a2 b1 b2
      go_upto_region 6 with (fail)
      generalize (W1.alloc (bx a1 a2)).alloc (bx b1 b2) = W2 at *
      obtain ⟨P1, P2, hb2, hz2⟩ := B
      have hbr2 := hb1.trans (hb2.mono hb1.size)
      have hbw2 := hbw.trans (hbr2.mono hbw.size)
      generalize W1.heap.size = g at *
      clear hb1 hb2 hz2 N hbr2
      obtain ⟨p1, p2⟩ := P1
      obtain ⟨p3, p4⟩ := P2
      have K1 := fun d os => Lib.hid (Calls.regrown_of ((M1 (grow (redrawn W2 d) os)).out))
      have K2 := fun d os => Lib.hid (Calls.regrown_of ((M2 (grow (redrawn W2 d) os)).out))
      have K3 := fun d os => Lib.hid (Calls.regrown_of ((M3 (grow (redrawn W2 d) os)).out))
      have t1 := cell_regrown p1
      have t2 := cell_regrown p2
      have t3 := cell_regrown p3
      have t4 := cell_regrown p4
      clear p1 p2 p3 p4 M1 M2 M3
      refine wp_region_quiet_below (by kernel_rfl) (by kernel_rfl) ?_
      repeat (go_big_quiet_step (first | (with_reducible exact (K1 _ _).out) | (with_reducible exact (K2 _ _).out) | (with_reducible exact (K3 _ _).out)))
      refine wpQuiet_nil ?_
      intro _ hw'
      obtain ⟨⟨dq, osq⟩, hw''⟩ := hw'
      subst hw''
      have HBE := Lib.hid (hbw2.trans ((below_regrown W2 dq osq).mono hbw2.size))
      clear hbw2 t1 t2 t3 t4 K1 K2 K3
      go_wp2_with fail
      go_roundw
      case rel => exact ⟨k + 1, by omega, by go_num, by rw [HS.out], HBE.out⟩
      case measure => simp [intOf]; omega
    · obtain rfl : k = n := by omega
      go_wp2
      go_ret
      exact ⟨ret_int HE.out, hbw⟩

set_option maxRecDepth 100000 in
set_option maxHeartbeats 2000000 in
/-- Lattice of a simple polygon: Pick's formula. -/
theorem lattice_any (A : Option Addr) (n c : Nat) (l : List Pt) (i : Int) (w : World) (hn : l.length = n) (hx : PtsAt w A l) (hp : polyB l = true) (hs : simpleB l = true) (hi : ((area2 l).natAbs : Int) - border l + 2 = 2 * i) :
    Calls Try.prog 11 #[.slice A n c] w fun e w' => e = .returned (.tuple #[.int .i64 i, .int .i64 (border l), .int .i64 0]) ∧ Below w.heap.size w w' := by
  obtain ⟨b, off, rfl, h1, h2, h3, h4, h5⟩ := hx.poly hn hp
  have e0 : simpE l = 0 := by
    rcases simpE_cases l with h | h | h
    · rw [hp] at h; cases h.2
    · have := h.2; simp_all
    · exact h.1
  have KC := fun W hW => Lib.hid (checkSimple_any (some ⟨b, off, none⟩) n c l W hn (by omega) (fun _ => ⟨b, off, rfl, Nat.lt_of_lt_of_le h3 hW.size, h4.below (B := w.heap.size) hW h3⟩))
  rw [e0] at KC
  have KB := fun W hW => Lib.hid (borderPoints_any b off n c l W hn (by omega) (by omega) (h4.below (B := w.heap.size) hW h3) (Nat.lt_of_lt_of_le h3 hW.size) h5)
  have KA := fun W hW => Lib.hid (area2D_any b off n c l W hn (by omega) (by omega) (h4.below (B := w.heap.size) hW h3) (Nat.lt_of_lt_of_le h3 hW.size) h5)
  have ba : -(200000000 * (n : Int)) ≤ area2 l ∧ area2 l ≤ 200000000 * (n : Int) := by
    have := area2To_bd h5 n
    rw [← hn] at this ⊢; exact this
  have bb : 0 ≤ border l ∧ border l ≤ 40000 * (n : Int) := by
    have := border_bd h5 n
    rw [← hn] at this ⊢; exact this
  clear hn hx hp hs h4 h5 e0
  generalize area2 l = ar at *
  generalize border l = bo at *
  have KM := fun W => Lib.hid (absolute_any ar W (by omega))
  have hz : (ar.natAbs : Int) ≤ 100000000000 := by omega
  generalize ar.natAbs = z at *
  have w1 : IntKind.i64.wrap ((z : Int) - bo) = (z : Int) - bo := by rw [IntKind.wrap_i64]; omega
  have w2 : IntKind.i64.wrap ((z : Int) - bo + 2) = 2 * i := by rw [IntKind.wrap_i64]; omega
  have w3 : Int.tdiv (2 * i) 2 = i := by rw [Int.mul_comm]; exact Int.mul_tdiv_cancel i (by omega)
  have w4 : IntKind.i64.wrap i = i := by rw [IntKind.wrap_i64]; omega
  clear hi ba bb
  go_enter Try.func11, Try.ntmps11
  go_wp2_with fail
  refine ((KC _ (Below.refl _ _)).out).mono ?_
  rintro e W1 ⟨rfl, hb1⟩
  go_wp2_with fail
  refine ((KB _ hb1).out).mono ?_
  rintro e W2 ⟨rfl, hb2⟩
  have hbw2 := hb1.trans (hb2.mono hb1.size)
  clear hb1 hb2
  go_wp2_with fail
  refine ((KA _ hbw2).out).mono ?_
  rintro e W3 ⟨rfl, hb3⟩
  have hbw3 := hbw2.trans (hb3.mono hbw2.size)
  clear hbw2 hb3
  go_wp2_with fail
  refine ((KM _).out).mono ?_
  rintro e W4 ⟨rfl, hb4⟩
  have hbw4 := hbw3.trans (hb4.mono hbw3.size)
  clear hbw3 hb4
  go_wp2_with fail
  go_ret3
  exact ⟨rfl, hbw4⟩
end Go.Proofs.Ytffjonpajjioaaa
