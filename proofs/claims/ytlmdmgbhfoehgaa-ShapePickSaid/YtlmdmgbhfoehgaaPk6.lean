/- Parts of the proof, one after the other: PtsLim, SumDev, NegDev, Star, StarTop, HullInt, NoFitMath. -/
import Derived.Test.YtlmdmgbhfoehgaaPk3
import Derived.Test.YtlmdmgbhfoehgaaPk5
import Derived.Test.YtlmdmgbhfoehgaaPk4
/- Shape: the law's points up to a limit, nine at most; the law's hull of them and three more. -/
namespace Go.Proofs.Ytlmdmgbhfoehgaa
open Go.RowKit Go.Sort
attribute [local go_sem ↓] run_min_mn run_max_mx

def tmL (L : Int) (p : Pt) : Pt := (p.1.tmod (L + 1), p.2.tmod (L + 1))
def foldLim (L : Int) (xs : List Pt) : List Pt := xs.map (tmL L)
theorem foldLim_length (L : Int) (xs : List Pt) : (foldLim L xs).length = xs.length := by simp [foldLim]
theorem tmodL_bd {L : Int} (h : 0 ≤ L) (x : Int) : -L ≤ x.tmod (L + 1) ∧ x.tmod (L + 1) ≤ L := by
  have a := Int.tmod_lt_of_pos x (b := L + 1) (by omega)
  have b := Int.lt_tmod_of_pos x (b := L + 1) (by omega)
  omega

set_option maxRecDepth 100000 in
set_option maxHeartbeats 2000000 in
theorem pointsL_any (L : Int) (hL : 1000 ≤ L ∧ L ≤ 10000) (A : Option Addr) (n c : Nat) (xs : List Pt) (w : World) (hn : xs.length = n) (hbig : n ≤ 9223372036854775807) (hx : PtsAt w A xs) (hw : ∀ x ∈ xs, (-9223372036854775808 ≤ x.1 ∧ x.1 ≤ 9223372036854775807) ∧ (-9223372036854775808 ≤ x.2 ∧ x.2 ≤ 9223372036854775807)) :
    Calls Try.prog 42 #[.slice A n c, .int .i64 L, .int .i64 9] w (PointsTo w (foldLim L (xs.take 9))) := by
  have HN := Lib.hid hn
  have HX := Lib.hid hx
  have HW := Lib.hid hw
  clear hn hx hw
  obtain ⟨hL1, hL2⟩ := hL
  have hlim : IntKind.i64.wrap (L + 1) = L + 1 := by rw [IntKind.wrap_i64]; omega
  have hne : ¬ L + 1 = 0 := by omega
  go_enter Try.func42, Try.ntmps42
  go_wp2
  go_loopw [7, 8] (fun o i wr => ∃ k : Nat, k ≤ n ∧ k ≤ 9 ∧ i = .int .i64 k ∧ PtsOwn wr w.heap.size o (foldLim L (xs.take k)) ∧ Below w.heap.size w wr) (fun _ i _ => 9 - (intOf i).toNat)
  case atStart => exact ⟨0, Nat.zero_le _, by omega, rfl, by simpa [foldLim] using PtsOwn.empty w, (Below.refl _ _).alloc (Nat.le_refl _) _⟩
  case round =>
    obtain ⟨k, hk, hk9, rfl, hown, hbr⟩ := hrel
    have HO := Lib.hid hown
    have HB := Lib.hid hbr
    have hsz := hbr.size
    clear hown
    by_cases hlt : k < n ∧ k < 9
    · obtain ⟨hlt, hlt2⟩ := hlt
      have hkl : k < xs.length := by rw [HN.out]; exact hlt
      obtain ⟨b, off, rfl, hb, hin⟩ := HX.out (by intro e; subst e; simp at hkl)
      obtain ⟨h1, h2⟩ := (hin.below hbr hb) k _ (List.getElem?_eq_getElem hkl)
      obtain ⟨⟨d3, d4⟩, d5, d6⟩ := HW.out _ (List.getElem_mem hkl)
      have HNX : Hid (foldLim L (xs.take (k + 1)) = foldLim L (xs.take k) ++ [tmL L xs[k]]) := Lib.hid (by
        rw [List.take_succ_eq_append_getElem hkl]; unfold foldLim; rw [List.map_append]; rfl)
      have HLN : Hid ((foldLim L (xs.take k)).length ≤ 100) := Lib.hid (by rw [foldLim_length, List.length_take]; omega)
      generalize xs[k] = p at *
      generalize foldLim L (xs.take k) = cur at *
      obtain ⟨x, y⟩ := p
      replace d3 : -9223372036854775808 ≤ x := d3
      replace d4 : x ≤ 9223372036854775807 := d4
      replace d5 : -9223372036854775808 ≤ y := d5
      replace d6 : y ≤ 9223372036854775807 := d6
      have ne1 : u7.ownBlock ≠ some b := fun e => by have := (HO.out.base b e).1; omega
      have hB : b < wr.heap.size := by omega
      clear hin
      have l1 : b < (wr.alloc (.cells #[.int .i64 (x.tmod (L + 1)), .int .i64 (y.tmod (L + 1))] 38)).drew.heap.size := by simp; omega
      have k1 : (wr.alloc (.cells #[.int .i64 (x.tmod (L + 1)), .int .i64 (y.tmod (L + 1))] 38)).drew.cell? ⟨b, off + k * 2, none⟩ = some (.int .i64 x) := (World.cell?_alloc_lt wr _ ⟨b, _, none⟩ hB).trans h1
      have k2 : (wr.alloc (.cells #[.int .i64 (x.tmod (L + 1)), .int .i64 (y.tmod (L + 1))] 38)).drew.cell? ⟨b, off + k * 2 + 1, none⟩ = some (.int .i64 y) := (World.cell?_alloc_lt wr _ ⟨b, _, none⟩ hB).trans h2
      have r1 : IntKind.i64.wrap (x.tmod (L + 1)) = x.tmod (L + 1) := by have := tmodL_bd (L := L) (by omega) x; rw [IntKind.wrap_i64]; omega
      have r2 : IntKind.i64.wrap (y.tmod (L + 1)) = y.tmod (L + 1) := by have := tmodL_bd (L := L) (by omega) y; rw [IntKind.wrap_i64]; omega
      go_wp2_with fail
      go_region_held3 (fun w' => w'.cell? ⟨b, off + k * 2, none⟩ = some (.int .i64 x) ∧ w'.cell? ⟨b, off + k * 2 + 1, none⟩ = some (.int .i64 y))
        (first
          | go_keep
          | exact ⟨(hgrow.cell_far _ l1 (Ne.symm ne1)).trans k1, (hgrow.cell_far _ l1 (Ne.symm ne1)).trans k2⟩)
        ((refine step_papp (by rfl) _ _ (by rfl) w.heap.size _ cur [(x.tmod (L + 1), y.tmod (L + 1))] (some ⟨wr.heap.size, 0, none⟩) 1 1 (by rfl) (by rfl) ((HO.out.alloc _).drew) rfl (PtsAt.one wr _ _) (by have := HLN.out; simp; omega) (by simp; omega) ?_; intro v1 w2 hown1 hgrow hat))
      have HO2 : Hid (PtsOwn w2 w.heap.size v1 (foldLim L (xs.take (k + 1)))) := Lib.hid (by rw [HNX.out]; exact hown1)
      have HB2 : Hid (Below w.heap.size w w2) := Lib.hid ((hbr.alloc (by omega) _).drew.grown hgrow (by simp; omega) (fun k hk => (HO.out.base k hk).1))
      clear hown1 hgrow hat k1 k2 l1 r1 r2
      go_wp2_with fail
      go_roundw
      case rel => exact ⟨k + 1, by omega, by omega, by go_num, HO2.out, HB2.out⟩
      case measure => simp [intOf]; omega
    · have HF : Hid (foldLim L (xs.take k) = foldLim L (xs.take 9)) := Lib.hid (by
        rcases Nat.lt_or_ge k 9 with g | g
        · rw [List.take_of_length_le (by rw [HN.out]; omega), List.take_of_length_le (by rw [HN.out]; omega)]
        · rw [show k = 9 by omega])
      by_cases g : k < n
      · have g9 : k = 9 := by omega
        go_wp2_with fail
        go_ret
        exact ⟨_, rfl, by rw [← HF.out]; exact HO.out, HB.out⟩
      · go_wp2_with fail
        go_ret
        exact ⟨_, rfl, by rw [← HF.out]; exact HO.out, HB.out⟩

/-- A polygon that is convex in normal form, of at most twelve corners, with coordinates up to a limit. -/
structure Poly (L : Int) (m : Nat) (H : List Pt) (h0 : Pt) : Prop where
  conv : Conv H h0
  bd : ∀ p ∈ H, (-L ≤ p.1 ∧ p.1 ≤ L) ∧ (-L ≤ p.2 ∧ p.2 ≤ L)
  len : H.length ≤ m

def LawHullTo (L : Int) (w : World) (e : Ending) (w' : World) : Prop :=
  ∃ v H h0, e = .returned v ∧ PtsOwn w' w.heap.size v H ∧ Poly L 12 H h0 ∧ Below w.heap.size w w'

set_option maxRecDepth 100000 in
set_option maxHeartbeats 4000000 in
theorem lawHull_any (L : Int) (hL : 1000 ≤ L ∧ L ≤ 10000) (A : Option Addr) (n c : Nat) (xs : List Pt) (w : World) (hn : xs.length = n) (hbig : n ≤ 9223372036854775807) (hx : PtsAt w A xs) (hw : ∀ x ∈ xs, (-9223372036854775808 ≤ x.1 ∧ x.1 ≤ 9223372036854775807) ∧ (-9223372036854775808 ≤ x.2 ∧ x.2 ≤ 9223372036854775807)) :
    Calls Try.prog 21 #[.slice A n c, .int .i64 L] w (LawHullTo L w) := by
  have K := Lib.hid (pointsL_any L hL A n c xs w hn hbig hx hw)
  have hl0 : (foldLim L (xs.take 9)).length ≤ 9 := by rw [foldLim_length, List.length_take]; omega
  have HBL : Hid (∀ p ∈ foldLim L (xs.take 9), (-L ≤ p.1 ∧ p.1 ≤ L) ∧ (-L ≤ p.2 ∧ p.2 ≤ L)) := Lib.hid fun p hp => by
    unfold foldLim at hp
    obtain ⟨q, _, rfl⟩ := List.mem_map.1 hp
    exact ⟨tmodL_bd (by omega) q.1, tmodL_bd (by omega) q.2⟩
  clear hn hbig hx hw
  generalize foldLim L (xs.take 9) = l0 at *
  go_enter Try.func21, Try.ntmps21
  go_wp2_with fail
  refine (K.out).mono ?_
  rintro e w1 ⟨v, rfl, hown, hb1⟩
  have HO := Lib.hid hown
  have HB1 := Lib.hid hb1
  have hs1 := hb1.size
  clear hown hb1 K
  go_wp2_with (at_builtin; refine wpList_papp rfl _ _ rfl w.heap.size v l0 triL (some ⟨w1.heap.size, 0, none⟩) 3 3 rfl rfl (HO.out.alloc _) rfl (tri_at w1) (by simp [triL]; omega) (by simp; omega) ?_; intro v2 w2 ho hg hat; have HG := Lib.hid hg; have HO2 := Lib.hid ho; clear ho hg hat)
  have hm3 : (l0 ++ triL).length = l0.length + 3 := by simp [triL]
  have t0 : (0, 0) ∈ l0 ++ triL := by simp [triL]
  have t1 : (1, 0) ∈ l0 ++ triL := by simp [triL]
  have t2 : (0, 1) ∈ l0 ++ triL := by simp [triL]
  have HBD : Hid (∀ p ∈ l0 ++ triL, (-L ≤ p.1 ∧ p.1 ≤ L) ∧ (-L ≤ p.2 ∧ p.2 ≤ L)) := Lib.hid fun p hp => by
    rcases List.mem_append.1 hp with h | h
    · exact HBL.out p h
    · simp only [triL, List.mem_cons, List.not_mem_nil, or_false] at h
      rcases h with rfl | rfl | rfl <;> simp only <;> omega
  have HB2 : Hid (Below w.heap.size w w2) := Lib.hid ((HB1.out.alloc hs1 _).grown HG.out (by simp; omega) (fun k hk => (HO.out.base k hk).1))
  clear HO HG HB1 HBL hs1
  generalize l0 ++ triL = l at *
  have hml : l.length ≤ 12 := by omega
  have hml3 : 3 ≤ l.length := by omega
  clear hm3 hl0
  obtain ⟨s, hperm, hsort⟩ := sort_of l
  obtain ⟨h3, s0, hH, hlow⟩ := hull_facts hperm hsort t0 t1 t2
  have hlowto : lowTo l l.length = s0 := by
    have hs0 : s0 ∈ l := by
      have := (hH.edge 0 (by omega)).fst
      rwa [hH.first] at this
    exact leP_anti (low_le hs0) (hlow _ (lowTo_mem (by omega) _ (Nat.le_refl _)))
  have hflat : flatTo l l.length = false := by
    obtain ⟨a, _⟩ := hull_both (by omega) hperm hsort
    cases hf : flatTo l l.length
    · rfl
    · have := a.1 hf; omega
  have HP : Hid (Poly L 12 (hullL s) s0) := Lib.hid ⟨conv_of hH hlow h3, fun p hp => HBD.out p (hull_sub hH hp), Nat.le_trans (hull_length hH) hml⟩
  have hHl := hull_length hH
  have HBd : Hid (∀ x ∈ l, Bd x) := Lib.hid fun x hx => by
    have := HBD.out x hx
    unfold Bd; omega
  generalize hullL s = H at *
  generalize hm : l.length = m at *
  obtain ⟨g, cc, rfl, hcc, hg, hgl, hin⟩ := HO2.out.row hm (by omega)
  have KR := Lib.hid (refHull_any g 0 m cc l H w2 hm (by omega) (by omega) hin hgl HBd.out (fun _ => by rw [hlowto]; exact hH) (by omega))
  have HF := Lib.hid hflat
  have HM := Lib.hid hm
  clear hin HO2 t0 t1 t2 hperm hsort hH hlow hlowto hflat hm h3 HBd HBD
  go_wp2_with fail
  refine (KR.out).mono ?_
  rintro e w3 ⟨hb3, hc⟩
  obtain ⟨v3, rfl, ho3⟩ : ∃ v, e = .returned (.tuple #[v, .bool true]) ∧ PtsOwn w3 w2.heap.size v H := by
    rcases hc with ⟨q, _⟩ | ⟨_, q⟩
    · rw [HM.out, HF.out] at q; cases q
    · exact q
  have HO3 := Lib.hid (ho3.low HB2.out.size)
  have HB3 := Lib.hid (HB2.out.trans (hb3.mono HB2.out.size))
  clear hc hb3 ho3 KR HF HM
  go_wp2_with fail
  go_ret
  exact ⟨v3, H, s0, rfl, HO3.out, HP.out, HB3.out⟩
end Go.Proofs.Ytlmdmgbhfoehgaa

/- Package shape's sum of two convex polygons. -/
namespace Go.Proofs.Ytlmdmgbhfoehgaa
open Go.RowKit Go.Sort
attribute [local go_sem ↓] run_min_mn run_max_mx Go.wp_at_zero Go.wp_at_succ

theorem merged_succ (a b : List Pt) (k : Nat) : merged a b (k + 1) = merged a b k ++ [mpt a b k] := by
  unfold merged; rw [List.range_succ, List.map_append]; rfl
theorem merged_length (a b : List Pt) (k : Nat) : (merged a b k).length = k := by simp [merged]
theorem vtx_gt (l : List Pt) (i : Nat) : gt l (i % l.length) = vtx l i := rfl
theorem PtAt.grown {w w' : World} {b : Nat} {x y : Int} {k : Option Nat} (p : PtAt w b x y) (h : w.grownBy w' k) (hb : b < w.heap.size) (hk : some b ≠ k) : PtAt w' b x y :=
  ⟨(h.cell_far ⟨b, 0, none⟩ hb hk).trans p.1, (h.cell_far ⟨b, 1, none⟩ hb hk).trans p.2⟩
theorem vtx_ok {l : List Pt} (h : l.all okP = true) (i : Nat) : okP (vtx l i) = true := getD_ok h _

def SumTo (K : List Pt) (w : World) (e : Ending) (w' : World) : Prop := ∃ v, e = .returned v ∧ PtsOwn w' w.heap.size v K ∧ Below w.heap.size w w'

set_option maxRecDepth 100000 in
set_option maxHeartbeats 4000000 in
theorem sumD_any (b off n c b' off' m d : Nat) (p q K : List Pt) (p0 q0 : Pt) (w : World) (hl : p.length = n) (hm : q.length = m) (hn' : n ≤ 100) (hm' : m ≤ 100)
    (h : PtsIn w b off p) (hb : b < w.heap.size) (h' : PtsIn w b' off' q) (hb' : b' < w.heap.size) (hok : p.all okP = true) (hok' : q.all okP = true)
    (cp : Conv p p0) (cq : Conv q q0) (hK : Hull (sums p q) K (sumP p0 q0)) (cK : Conv K (sumP p0 q0)) :
    Calls Try.prog 28 #[.slice (some ⟨b, off, none⟩) n c, .slice (some ⟨b', off', none⟩) m d] w (SumTo K w) := by
  obtain ⟨E1, E2, E3⟩ := merge_end cp cq hK cK
  have hKl := sum_len cp cq hK cK
  rw [hl, hm] at hKl E1
  have HE1 := Lib.hid E1
  have HE2 : Hid (∀ k, k ≤ K.length → (mst p q k).1 ≤ n ∧ (mst p q k).2 ≤ m) := Lib.hid (by rw [← hl, ← hm]; exact E2)
  have HE3 : Hid (∀ k, k < K.length → (mst p q k).1 < n ∨ (mst p q k).2 < m) := Lib.hid (by rw [← hl, ← hm]; exact E3)
  have HKM : Hid (merged p q K.length = K) := Lib.hid (merged_hull cp cq hK)
  have HL := Lib.hid hl
  have HM := Lib.hid hm
  have HP := Lib.hid h
  have HQ := Lib.hid h'
  have HOK := Lib.hid hok
  have HOK' := Lib.hid hok'
  have h3 := cp.three
  have h4 := cq.three
  rw [hl] at h3
  rw [hm] at h4
  clear hl hm h h' hok hok' E1 E2 E3 cp cq hK cK
  generalize hN : K.length = N at *
  go_enter Try.func28, Try.ntmps28
  go_wp2
  go_loopw [5, 6, 7] (fun o i j wr => ∃ k : Nat, k ≤ N ∧ i = .int .i64 ((mst p q k).1 : Nat) ∧ j = .int .i64 ((mst p q k).2 : Nat) ∧ PtsOwn wr w.heap.size o (merged p q k) ∧ Below w.heap.size w wr) (fun _ i j _ => (n + m) - ((intOf i).toNat + (intOf j).toNat))
  case atStart => exact ⟨0, Nat.zero_le _, rfl, rfl, PtsOwn.nil _ _, Below.refl _ _⟩
  case round =>
    obtain ⟨k, hk, rfl, rfl, hown, hbw⟩ := hrel
    obtain ⟨hi, hj⟩ := HE2.out k hk
    have HO := Lib.hid hown
    clear hown
    by_cases hlt : k < N
    · have hor := HE3.out k hlt
      have HN : Hid (merged p q (k + 1) = merged p q k ++ [sumP (vtx p (mst p q k).1) (vtx q (mst p q k).2)]) := Lib.hid (merged_succ p q k)
      have hml : (merged p q k).length ≤ 200 := by rw [merged_length]; omega
      have HS : Hid (mst p q (k + 1) = if 0 < xr (ev p (mst p q k).1) (ev q (mst p q k).2) then ((mst p q k).1 + 1, (mst p q k).2) else if xr (ev p (mst p q k).1) (ev q (mst p q k).2) < 0 then ((mst p q k).1, (mst p q k).2 + 1) else ((mst p q k).1 + 1, (mst p q k).2 + 1)) := Lib.hid rfl
      have HB2 := Lib.hid (HE2.out (k + 1) hlt)
      generalize merged p q k = cur at *
      generalize (mst p q k).1 = i at *
      generalize (mst p q k).2 = j at *
      have HPw : Hid (PtsIn wr b off p) := Lib.hid (HP.out.below hbw hb)
      have HQw : Hid (PtsIn wr b' off' q) := Lib.hid (HQ.out.below hbw hb')
      have hB : b < wr.heap.size := Nat.lt_of_lt_of_le hb hbw.size
      have hB' : b' < wr.heap.size := Nat.lt_of_lt_of_le hb' hbw.size
      have N1 := fun W hW => Lib.hid (edge_any b off n c p i W HL.out (by omega) (by omega) (by omega) (HPw.out.below (B := wr.heap.size) hW hB))
      have N2 := fun W hW => Lib.hid (edge_any b' off' m d q j W HM.out (by omega) (by omega) (by omega) (HQw.out.below (B := wr.heap.size) hW hB'))
      have v1 : gt p (i % n) = vtx p i := by rw [← HL.out]; rfl
      have v2 : nx p i = vtx p (i + 1) := rfl
      have v3 : gt q (j % m) = vtx q j := by rw [← HM.out]; rfl
      have v4 : nx q j = vtx q (j + 1) := rfl
      rw [v1, v2] at N1
      rw [v3, v4] at N2
      have ok1 := okP_bd (vtx_ok HOK.out i)
      have ok2 := okP_bd (vtx_ok HOK.out (i + 1))
      have ok3 := okP_bd (vtx_ok HOK'.out j)
      have ok4 := okP_bd (vtx_ok HOK'.out (j + 1))
      have HX : Hid (xr (ev p i) (ev q j) = ((vtx p (i + 1)).1 - (vtx p i).1) * ((vtx q (j + 1)).2 - (vtx q j).2) - ((vtx q (j + 1)).1 - (vtx q j).1) * ((vtx p (i + 1)).2 - (vtx p i).2)) := Lib.hid rfl
      clear v1 v2 v3 v4
      generalize xr (ev p i) (ev q j) = X at *
      generalize vtx p i = a at *
      generalize vtx p (i + 1) = a' at *
      generalize vtx q j = z at *
      generalize vtx q (j + 1) = z' at *
      obtain ⟨a1, a2⟩ := a
      obtain ⟨b1, b2⟩ := a'
      obtain ⟨c1, c2⟩ := z
      obtain ⟨d1, d2⟩ := z'
      simp only at ok1 ok2 ok3 ok4
      have PL := fun W => Lib.hid (plus_any a1 a2 c1 c2 W (by omega) (by omega) (by omega) (by omega))
      have M1 := fun W => Lib.hid (minus_any b1 b2 a1 a2 W (by omega) (by omega) (by omega) (by omega))
      have M2 := fun W => Lib.hid (minus_any d1 d2 c1 c2 W (by omega) (by omega) (by omega) (by omega))
      have CR := fun W => Lib.hid (crossD_any (b1 - a1) (b2 - a2) (d1 - c1) (d2 - c2) W (by omega) (by omega) (by omega) (by omega))
      have HX' : Hid (X = (b1 - a1) * (d2 - c2) - (d1 - c1) * (b2 - a2)) := HX
      rw [← HX'.out] at CR
      have HNE : Hid (∀ x, wr.heap.size ≤ x → ∀ y, u5.ownBlock = some y → y ≠ x) := Lib.hid fun x hx y hy e => by have := (HO.out.base _ hy).2; omega
      clear HX HX' ok1 ok2 ok3 ok4
      by_cases hin : i < n
      all_goals
        try have hjm : j < m := by omega
        go_wp2_with fail
        refine ((N1 _ (Below.refl _ _)).out).mono ?_
        rintro e w1 ⟨rfl, hb1⟩
        go_wp2_with fail
        have B := boxed2 w1 a1 a2 b1 b2
        generalize (w1.alloc (bx a1 a2)).alloc (bx b1 b2) = w2 at *
        obtain ⟨P1, P2, hb2, hz2⟩ := B
        have hbr2 := hb1.trans (hb2.mono hb1.size)
        have hgw : wr.heap.size ≤ w1.heap.size := hb1.size
        generalize w1.heap.size = g at *
        have hg2 : g + 1 < w2.heap.size := by omega
        clear hb2 hz2 N1
        refine ((N2 _ hbr2).out).mono ?_
        rintro e w3 ⟨rfl, hb3⟩
        replace P1 := PtAt.below hb3 (by omega) P1
        replace P2 := PtAt.below hb3 (by omega) P2
        have hbr3 := hbr2.trans (hb3.mono hbr2.size)
        have hg3 : g + 1 < w3.heap.size := by have := hb3.size; omega
        clear hb3 hbr2 hg2 N2
        have B := boxed2 w3 c1 c2 d1 d2
        go_upto_region 6 with (fail)
        generalize (w3.alloc (bx c1 c2)).alloc (bx d1 d2) = w4 at *
        obtain ⟨P3, P4, hb4, hz4⟩ := B
        replace P1 := PtAt.below hb4 (by omega) P1
        replace P2 := PtAt.below hb4 (by omega) P2
        have hbr4 := hbr3.trans (hb4.mono hbr3.size)
        have hgw3 : wr.heap.size ≤ w3.heap.size := hbr3.size
        clear hb4 hbr3
        generalize w3.heap.size = g3 at *
        have hg4 : g3 + 1 < w4.heap.size := by omega
        obtain ⟨p1, p2⟩ := P1
        obtain ⟨p3, p4⟩ := P3
        go_wp2_with fail
        refine ((PL _).out).mono ?_
        rintro e w5 ⟨rfl, hb5⟩
        have P1 := PtAt.below hb5 (by omega) ⟨p1, p2⟩
        have P3 := PtAt.below hb5 (by omega) ⟨p3, p4⟩
        replace P2 := PtAt.below hb5 (by omega) P2
        replace P4 := PtAt.below hb5 (by omega) P4
        have hbr5 := hbr4.trans (hb5.mono hbr4.size)
        have hg5 : g + 1 < w5.heap.size ∧ g3 + 1 < w5.heap.size := by have := hb5.size; omega
        clear p1 p2 p3 p4 hb5 hbr4 PL
        have O5 := Lib.hid (HO.out.belows hbr5 (Nat.le_refl _))
        have hA1 : cur.length + [(a1 + c1, a2 + c2)].length ≤ 100000 := by simp; omega
        have hA2 : w.heap.size ≤ (w5.alloc (bx (a1 + c1) (a2 + c2))).heap.size := by rw [World.size_alloc]; have := hbr5.size; have := hbw.size; omega
        have A1 := P1.alloc (bx (a1 + c1) (a2 + c2)) (by omega)
        have A2 := P2.alloc (bx (a1 + c1) (a2 + c2)) (by omega)
        have A3 := P3.alloc (bx (a1 + c1) (a2 + c2)) (by omega)
        have A4 := P4.alloc (bx (a1 + c1) (a2 + c2)) (by omega)
        have hz5 : (w5.alloc (bx (a1 + c1) (a2 + c2))).heap.size = w5.heap.size + 1 := by rw [World.size_alloc]
        have HBW5 := Lib.hid ((hbw.trans (hbr5.mono hbw.size)).alloc (by have := hbr5.size; have := hbw.size; omega) (bx (a1 + c1) (a2 + c2)))
        go_wp2_with (at_builtin; refine wpList_papp rfl (.tmp 35) (.tmp 39) rfl w.heap.size _ cur [(a1 + c1, a2 + c2)] (some ⟨w5.heap.size, 0, none⟩) 1 1 rfl rfl (O5.out.alloc _) rfl (PtsAt.one w5 (a1 + c1) (a2 + c2)) hA1 hA2 ?_; intro v1 w6 ho hg hat; have HO6 := Lib.hid ho; have HG6 := Lib.hid hg; clear ho hg hat)
        generalize w5.alloc (bx (a1 + c1) (a2 + c2)) = w5' at *
        have q1 := A1.grown HG6.out (by omega) (fun e => HNE.out g (by omega) _ e.symm rfl)
        have q2 := A2.grown HG6.out (by omega) (fun e => HNE.out (g + 1) (by omega) _ e.symm rfl)
        have q3 := A3.grown HG6.out (by omega) (fun e => HNE.out g3 (by omega) _ e.symm rfl)
        have q4 := A4.grown HG6.out (by omega) (fun e => HNE.out (g3 + 1) (by omega) _ e.symm rfl)
        have HB6 : Hid (Below w.heap.size w w6) := Lib.hid (HBW5.out.grown HG6.out hA2 (fun k hk => (O5.out.base k hk).1))
        obtain ⟨p1, p2⟩ := q1
        obtain ⟨p3, p4⟩ := q2
        obtain ⟨p5, p6⟩ := q3
        obtain ⟨p7, p8⟩ := q4
        have K1 := fun d os => Lib.hid (Calls.regrown_of ((M1 (grow (redrawn w6 d) os)).out))
        have K2 := fun d os => Lib.hid (Calls.regrown_of ((M2 (grow (redrawn w6 d) os)).out))
        have K3 := fun d os => Lib.hid (Calls.regrown_of ((CR (grow (redrawn w6 d) os)).out))
        have t1 := cell_regrown p1
        have t2 := cell_regrown p2
        have t3 := cell_regrown p3
        have t4 := cell_regrown p4
        have t5 := cell_regrown p5
        have t6 := cell_regrown p6
        have t7 := cell_regrown p7
        have t8 := cell_regrown p8
        clear p1 p2 p3 p4 p5 p6 p7 p8 A1 A2 A3 A4 P1 P2 P3 P4 M1 M2 CR HG6 O5 HBW5 hbr5 hA1 hA2
        go_wp2_with fail
        refine wp_region_quiet_below (by kernel_rfl) (by kernel_rfl) ?_
        repeat (go_big_quiet_step (first | (with_reducible exact (K1 _ _).out) | (with_reducible exact (K2 _ _).out) | (with_reducible exact (K3 _ _).out)))
        refine wpQuiet_nil ?_
        intro _ hw'
        obtain ⟨⟨dq, osq⟩, hw''⟩ := hw'
        subst hw''
        have hbq := below_regrown w6 dq osq
        have HB7 := Lib.hid (HB6.out.trans (hbq.mono HB6.out.size))
        have HO7 : Hid (PtsOwn (grow (redrawn w6 dq) osq) w.heap.size v1 (merged p q (k + 1))) := Lib.hid (by rw [HN.out]; exact HO6.out.belows hbq (Nat.le_refl _))
        clear hbq t1 t2 t3 t4 t5 t6 t7 t8 K1 K2 K3
        generalize grow (redrawn w6 dq) osq = w7 at *
        rcases Int.lt_trichotomy X 0 with hX | hX | hX
        · have e : mst p q (k + 1) = (i, j + 1) := by rw [HS.out, if_neg (by omega), if_pos hX]
          have hbd := HB2.out
          rw [e] at hbd
          first
            | (exfalso; omega)
            | (go_wp2_with fail
               go_roundw
               case rel => exact ⟨k + 1, by omega, by rw [e], by rw [e]; go_num, HO7.out, HB7.out⟩
               case measure => simp [intOf]; omega)
        · have e : mst p q (k + 1) = (i + 1, j + 1) := by rw [HS.out, if_neg (by omega), if_neg (by omega)]
          have hbd := HB2.out
          rw [e] at hbd
          first
            | (exfalso; omega)
            | (go_wp2_with fail
               go_roundw
               case rel => exact ⟨k + 1, by omega, by rw [e]; go_num, by rw [e]; go_num, HO7.out, HB7.out⟩
               case measure => simp [intOf]; omega)
        · have e : mst p q (k + 1) = (i + 1, j) := by rw [HS.out, if_pos hX]
          have hbd := HB2.out
          rw [e] at hbd
          first
            | (exfalso; omega)
            | (go_wp2_with fail
               go_roundw
               case rel => exact ⟨k + 1, by omega, by rw [e]; go_num, by rw [e], HO7.out, HB7.out⟩
               case measure => simp [intOf]; omega)
    · obtain rfl : k = N := by omega
      have e1 : (mst p q k).1 = n := by rw [HE1.out]
      have e2 : (mst p q k).2 = m := by rw [HE1.out]
      rw [e1, e2]
      rw [HKM.out] at HO
      go_wp2_with fail
      go_ret
      exact ⟨_, rfl, HO.out, hbw⟩
end Go.Proofs.Ytlmdmgbhfoehgaa

/- Package shape's Sum, negative and Negative. -/
namespace Go.Proofs.Ytlmdmgbhfoehgaa
open Go.RowKit Go.Sort
attribute [local go_sem ↓] run_min_mn run_max_mx Go.wp_at_zero Go.wp_at_succ

theorem conv_conE {a : List Pt} {a0 : Pt} (ca : Conv a a0) (hok : a.all okP = true) (hlen : a.length ≤ 32) : conE a = 0 := by
  have h1 : polyB a = true := by
    unfold polyB
    rw [Bool.and_eq_true]
    have := ca.three
    exact ⟨hok, by rw [inB_true]; omega⟩
  have h2 : convexB a = true := hull_convex ca.hull ca.three ca.low
  unfold conE
  rw [h1, h2]; rfl

def SumXTo (K : List Pt) (w : World) (e : Ending) (w' : World) : Prop := ∃ v, e = .returned (.tuple #[v, .int .i64 0]) ∧ PtsOwn w' w.heap.size v K ∧ Below w.heap.size w w'

set_option maxRecDepth 100000 in
set_option maxHeartbeats 2000000 in
theorem sumX_any (A : Option Addr) (n c : Nat) (A' : Option Addr) (m d : Nat) (p q K : List Pt) (p0 q0 : Pt) (w : World) (hl : p.length = n) (hm : q.length = m) (hn' : n ≤ 32) (hm' : m ≤ 32)
    (hx : PtsAt w A p) (hy : PtsAt w A' q) (hok : p.all okP = true) (hok' : q.all okP = true)
    (cp : Conv p p0) (cq : Conv q q0) (hK : Hull (sums p q) K (sumP p0 q0)) (cK : Conv K (sumP p0 q0)) :
    Calls Try.prog 9 #[.slice A n c, .slice A' m d] w (SumXTo K w) := by
  have hb1 : Below w.heap.size w (w.alloc (.cells #[.slice A n c, .slice A' m d] 22)) := (Below.refl _ _).alloc (Nat.le_refl _) _
  have hP : PolysIn (w.alloc (.cells #[.slice A n c, .slice A' m d] 22)) w.heap.size 0 [p, q] := by
    intro i l hi
    match i, hi with
    | 0, hi =>
      obtain rfl : p = l := by simpa using hi
      exact ⟨A, n, c, by simp [World.cell?_alloc_new], hl, by omega, hx.below hb1⟩
    | 1, hi =>
      obtain rfl : q = l := by simpa using hi
      exact ⟨A', m, d, by simp [World.cell?_alloc_new], hm, by omega, hy.below hb1⟩
  have K1 := Lib.hid (checkConvex_any w.heap.size 0 2 2 [p, q] _ rfl (by omega) hP (by simp))
  have h0 : convsE [p, q] = 0 := by rw [convs_two, if_pos (conv_conE cp hok (by omega)), conv_conE cq hok' (by omega)]
  rw [h0] at K1
  obtain ⟨b1, o1, rfl, g1, g2⟩ := hx (by intro e; have := cp.three; rw [e] at this; simp at this)
  obtain ⟨b2, o2, rfl, f1, f2⟩ := hy (by intro e; have := cq.three; rw [e] at this; simp at this)
  have KS := fun W (hW : Below w.heap.size w W) => Lib.hid (sumD_any b1 o1 n c b2 o2 m d p q K p0 q0 W hl hm (by omega) (by omega) (g2.below hW g1) (Nat.lt_of_lt_of_le g1 hW.size) (f2.below hW f1) (Nat.lt_of_lt_of_le f1 hW.size) hok hok' cp cq hK cK)
  have HB1 := Lib.hid hb1
  clear hx hy hP h0 g2 f2 hl hm hok hok' cp cq hK cK hb1
  go_enter Try.func9, Try.ntmps9
  go_wp2_with fail
  refine (K1.out).mono ?_
  rintro e w1 ⟨rfl, hb2⟩
  have hbw1 := HB1.out.trans (hb2.mono HB1.out.size)
  clear hb2
  go_wp2_with fail
  refine ((KS _ hbw1).out).mono ?_
  rintro e w2 ⟨v, rfl, ho, hb3⟩
  have HO := Lib.hid (ho.low hbw1.size)
  have HB := Lib.hid (hbw1.trans (hb3.mono hbw1.size))
  clear ho hb3
  go_wp2_with fail
  go_ret2
  exact ⟨v, rfl, HO.out, HB.out⟩

theorem negP_zero (p : Pt) : negP p = (0 - p.1, 0 - p.2) := by unfold negP; simp
theorem negL_F (l : List Pt) : l.map negP = ptF l.length fun i => negP (gt l i) := by
  apply List.ext_getElem
  · simp [ptF]
  · intro i h1 h2
    have : i < l.length := by simpa using h1
    simp [ptF, gt, List.getD, this]

set_option maxRecDepth 100000 in
set_option maxHeartbeats 4000000 in
theorem negative_any (hS : SortsPts) (hR : ReversesPts) (b off n c : Nat) (l : List Pt) (w : World) (hl : l.length = n) (hn : 0 < n) (hn' : n ≤ 100) (h : PtsIn w b off l) (hb : b < w.heap.size) (hok : l.all okP = true) :
    Calls Try.prog 29 #[.slice (some ⟨b, off, none⟩) n c] w (HullTo (l.map negP) w) := by
  have HL := Lib.hid hl
  have HP := Lib.hid h
  have HOK := Lib.hid hok
  have hmk := make_pts n (by omega)
  have HM : Hid (l.map negP = ptF n fun i => negP (gt l i)) := Lib.hid (by rw [← hl]; exact negL_F l)
  have HBD : Hid (∀ x ∈ l.map negP, Bd x) := Lib.hid fun x hx => by
    obtain ⟨p, hp, rfl⟩ := List.mem_map.1 hx
    obtain ⟨h1, h2⟩ := okP_bd (List.all_eq_true.1 hok p hp)
    unfold Bd negP; simp only; omega
  clear hl h hok
  go_enter Try.func29, Try.ntmps29
  go_wp2_with fail
  have R0 : PtBlk (w.alloc (.cells (ptsV (ptF n fun _ => (0, 0))).toArray 38)) w.heap.size (ptF n fun _ => (0, 0)) := heap_alloc_new _ _
  have hb1 : Below w.heap.size w (w.alloc (.cells (ptsV (ptF n fun _ => (0, 0))).toArray 38)) := (Below.refl _ _).alloc (Nat.le_refl _) _
  have hz1 : (w.alloc (.cells (ptsV (ptF n fun _ => (0, 0))).toArray 38)).heap.size = w.heap.size + 1 := by simp
  generalize w.alloc (.cells (ptsV (ptF n fun _ => (0, 0))).toArray 38) = w1 at *
  generalize hgg : w.heap.size = gg at *
  clear hmk
  go_loopw [11] (fun i wr => ∃ k : Nat, k ≤ n ∧ i = .int .i64 k ∧ PtBlk wr gg (ptF n fun u => if u < k then negP (gt l u) else (0, 0)) ∧ Below gg w wr ∧ gg + 1 ≤ wr.heap.size) (fun i _ => n - (intOf i).toNat)
  case atStart => exact ⟨0, Nat.zero_le _, rfl, by simpa using R0, hb1, by omega⟩
  case round =>
    clear R0 hb1
    obtain ⟨k, hk, rfl, hR', hbw, hgr⟩ := hrel
    have HR := Lib.hid hR'
    clear hR'
    by_cases hlt : k < n
    · obtain ⟨h1, h2⟩ := (HP.out.below hbw hb) k (gt l k) (by unfold gt; rw [List.getD_eq_getElem?_getD, List.getElem?_eq_getElem (by rw [HL.out]; exact hlt)]; rfl)
      have hB : b < wr.heap.size := by omega
      have hg1 : gg < wr.heap.size := by omega
      have d := okP_bd (getD_ok HOK.out k)
      rw [show l.getD k (0, 0) = gt l k from rfl] at d
      have HN : Hid (∀ W, PtBlk W gg ((ptF n fun u => if u < k then negP (gt l u) else (0, 0)).set k (-(gt l k).1, -(gt l k).2)) → PtBlk W gg (ptF n fun u => if u < k + 1 then negP (gt l u) else (0, 0))) := Lib.hid fun W hW => by
        rw [show (-(gt l k).1, -(gt l k).2) = negP (gt l k) from rfl, ptF_set] at hW
        rw [ptF_congr (g := fun u => if u = k then negP (gt l k) else if u < k then negP (gt l u) else (0, 0))]
        · exact hW
        · intro i hi
          by_cases e : i = k
          · subst e; simp
          · rw [if_neg e]
            by_cases e2 : i < k
            · rw [if_pos e2, if_pos (by omega)]
            · rw [if_neg e2, if_neg (by omega)]
      generalize hp : gt l k = p at *
      obtain ⟨x, y⟩ := p
      simp only at d
      have PL := fun W => Lib.hid (minus_any 0 0 x y W (by omega) (by omega) (by omega) (by omega))
      clear hp d
      go_wp2_with fail
      have hb1 : Below wr.heap.size wr (wr.alloc (bx x y)) := (Below.refl _ _).alloc (Nat.le_refl _) _
      refine ((PL _).out).mono ?_
      rintro e w2 ⟨rfl, hb2⟩
      have hb3 := hb1.trans (hb2.mono hb1.size)
      have hbw3 := hbw.trans (hb3.mono (by omega))
      have R2 := HR.out.below hb3 (by omega)
      obtain ⟨c1, c2⟩ := R2.cell (i := k) (ptF_get hlt)
      have f1 := R2.frozen (k * 2)
      have f2 := R2.frozen (k * 2 + 1)
      have hsz := hb3.size
      have HR2 := Lib.hid R2
      clear hb1 hb2 R2
      go_wp2_with fail
      go_roundw
      case rel => exact ⟨k + 1, by omega, by go_num, HN.out _ (HR2.out.set k _ _), (hbw3.setCell (by simp) _).setCell (by simp) _, by simp; omega⟩
      case measure => simp [intOf]; omega
    · obtain rfl : k = n := by omega
      have HF : Hid (PtBlk wr gg (l.map negP)) := Lib.hid (by
        rw [HM.out]
        have := HR.out
        rw [ptF_congr (g := fun i => negP (gt l i)) (fun i hi => by rw [if_pos hi])] at this
        exact this)
      have KH := Lib.hid (hull_any hS hR gg 0 k k (l.map negP) wr (by rw [List.length_map]; exact HL.out) hn hn' HF.out.pts (by omega) HBD.out)
      have HBW := Lib.hid hbw
      clear hbw HR
      go_wp2_with fail
      refine (KH.out).mono ?_
      rintro e w2 ⟨s, v, hp, hs, rfl, ho, hb2⟩
      have HS2 : Hid (s.Perm (l.map negP) ∧ s.Pairwise leP) := Lib.hid ⟨hp, hs⟩
      have HO := Lib.hid (ho.low (show gg ≤ _ by omega))
      have HB2 := Lib.hid (HBW.out.trans (hb2.mono (by omega)))
      clear hp hs ho hb2
      go_wp2_with fail
      go_ret
      exact ⟨s, v, HS2.out.1, HS2.out.2, rfl, by rw [hgg]; exact HO.out, by rw [hgg]; exact HB2.out⟩

/-- What Negative leaves: the corners' negatives, in the order of a hull. -/
def NegTo (a : List Pt) (w : World) (e : Ending) (w' : World) : Prop :=
  ∃ s v, s.Perm (a.map negP) ∧ s.Pairwise leP ∧ e = .returned (.tuple #[v, .int .i64 0]) ∧ PtsOwn w' w.heap.size v (hullL s) ∧ Below w.heap.size w w'

set_option maxRecDepth 100000 in
set_option maxHeartbeats 2000000 in
theorem negX_any (hS : SortsPts) (hR : ReversesPts) (A : Option Addr) (n c : Nat) (p : List Pt) (p0 : Pt) (w : World) (hl : p.length = n) (hn' : n ≤ 32)
    (hx : PtsAt w A p) (hok : p.all okP = true) (cp : Conv p p0) :
    Calls Try.prog 10 #[.slice A n c] w (NegTo p w) := by
  have hb1 : Below w.heap.size w (w.alloc (.cells #[.slice A n c] 22)) := (Below.refl _ _).alloc (Nat.le_refl _) _
  have hP : PolysIn (w.alloc (.cells #[.slice A n c] 22)) w.heap.size 0 [p] := by
    intro i l hi
    match i, hi with
    | 0, hi =>
      obtain rfl : p = l := by simpa using hi
      exact ⟨A, n, c, by simp [World.cell?_alloc_new], hl, by omega, hx.below hb1⟩
  have K1 := Lib.hid (checkConvex_any w.heap.size 0 1 1 [p] _ rfl (by omega) hP (by simp))
  have h0 : convsE [p] = 0 := by
    show (if conE p = 0 then 0 else conE p) = 0
    rw [if_pos (conv_conE cp hok (by omega))]
  rw [h0] at K1
  have h3 := cp.three
  obtain ⟨b1, o1, rfl, g1, g2⟩ := hx (by intro e; rw [e] at h3; simp at h3)
  have KS := fun W (hW : Below w.heap.size w W) => Lib.hid (negative_any hS hR b1 o1 n c p W hl (by omega) (by omega) (g2.below hW g1) (Nat.lt_of_lt_of_le g1 hW.size) hok)
  have HB1 := Lib.hid hb1
  clear hx hP h0 g2 hl hok cp hb1
  go_enter Try.func10, Try.ntmps10
  go_wp2_with fail
  refine (K1.out).mono ?_
  rintro e w1 ⟨rfl, hb2⟩
  have hbw1 := HB1.out.trans (hb2.mono HB1.out.size)
  clear hb2
  go_wp2_with fail
  refine ((KS _ hbw1).out).mono ?_
  rintro e w2 ⟨s, v, hp, hs, rfl, ho, hb3⟩
  have HS2 : Hid (s.Perm (p.map negP) ∧ s.Pairwise leP) := Lib.hid ⟨hp, hs⟩
  have HO := Lib.hid (ho.low hbw1.size)
  have HB := Lib.hid (hbw1.trans (hb3.mono hbw1.size))
  clear ho hb3 hp hs
  go_wp2_with fail
  go_ret2
  exact ⟨s, v, HS2.out.1, HS2.out.2, rfl, HO.out, HB.out⟩
end Go.Proofs.Ytlmdmgbhfoehgaa

/- Shape: the law's star: its points, in some order. -/
namespace Go.Proofs.Ytlmdmgbhfoehgaa
open Go.RowKit Go.Sort
attribute [local go_sem ↓] run_min_mn run_max_mx Go.wp_at_zero Go.wp_at_succ

def upB (c p : Pt) : Bool := decide (c.2 < p.2) || ((p.2 == c.2) && decide (c.1 ≤ p.1))
def beforeB (c a b : Pt) : Bool := if upB c a != upB c b then upB c a else decide (0 < crossP c a b)

set_option maxHeartbeats 1000000 in
theorem up_any (x y cx cy : Int) (gc : Nat) (w : World) (pc : PtAt w gc cx cy) (hgc : gc < w.heap.size) :
    Calls Try.prog 71 #[.agg #[.int .i64 x, .int .i64 y], .pointer (some ⟨gc, 0, none⟩)] w fun e w' => e = .returned (.bool (upB (cx, cy) (x, y))) ∧ Below w.heap.size w w' := by
  have B : PtAt (w.alloc (bx x y)) w.heap.size x y := PtAt.new
  have hb0 : Below w.heap.size w (w.alloc (bx x y)) := (Below.refl _ _).alloc (Nat.le_refl _) _
  have C := PtAt.below hb0 hgc pc
  have HU : Hid (upB (cx, cy) (x, y) = (decide (cy < y) || ((y == cy) && decide (cx ≤ x)))) := Lib.hid rfl
  generalize upB (cx, cy) (x, y) = r at *
  clear pc
  by_cases h1 : cy < y
  · go_enter Try.func71, Try.ntmps71
    go_upto_region 1 with (fail)
    generalize w.alloc (bx x y) = w0 at *
    obtain ⟨b1, b2⟩ := B
    obtain ⟨c1, c2⟩ := C
    go_wp2_with fail
    go_ret
    exact ⟨ret_bool (by rw [HU.out]; simp [h1]), hb0⟩
  · by_cases h2 : y = cy
    · subst h2
      by_cases h3 : cx ≤ x
      · go_enter Try.func71, Try.ntmps71
        go_upto_region 1 with (fail)
        generalize w.alloc (bx x y) = w0 at *
        obtain ⟨b1, b2⟩ := B
        obtain ⟨c1, c2⟩ := C
        go_wp2_with fail
        go_ret
        exact ⟨ret_bool (by rw [HU.out]; simp [h3]), hb0⟩
      · go_enter Try.func71, Try.ntmps71
        go_upto_region 1 with (fail)
        generalize w.alloc (bx x y) = w0 at *
        obtain ⟨b1, b2⟩ := B
        obtain ⟨c1, c2⟩ := C
        go_wp2_with fail
        go_ret
        exact ⟨ret_bool (by rw [HU.out]; simp [h3]), hb0⟩
    · go_enter Try.func71, Try.ntmps71
      go_upto_region 1 with (fail)
      generalize w.alloc (bx x y) = w0 at *
      obtain ⟨b1, b2⟩ := B
      obtain ⟨c1, c2⟩ := C
      go_wp2_with fail
      go_ret
      exact ⟨ret_bool (by rw [HU.out]; simp [h1, h2]), hb0⟩

set_option maxRecDepth 100000 in
set_option maxHeartbeats 2000000 in
theorem before_any (c a b : Pt) (w : World) (hc : Bd c) (ha : Bd a) (hb : Bd b) :
    Calls Try.prog 43 #[.agg #[.int .i64 c.1, .int .i64 c.2], .agg #[.int .i64 a.1, .int .i64 a.2], .agg #[.int .i64 b.1, .int .i64 b.2]] w fun e w' => e = .returned (.bool (beforeB c a b)) ∧ Below w.heap.size w w' := by
  obtain ⟨cx, cy⟩ := c
  obtain ⟨ax, ay⟩ := a
  obtain ⟨b1, b2⟩ := b
  have HB : Hid (beforeB (cx, cy) (ax, ay) (b1, b2) = if upB (cx, cy) (ax, ay) != upB (cx, cy) (b1, b2) then upB (cx, cy) (ax, ay) else decide (0 < cross cx cy ax ay b1 b2)) := Lib.hid rfl
  have CR := fun W => Lib.hid (cross_any cx cy ax ay b1 b2 W hc.1 hc.2 ha.1 ha.2 hb.1 hb.2)
  have U1 := fun W h1 h2 => Lib.hid (up_any ax ay cx cy w.heap.size W h1 h2)
  have U2 := fun W h1 h2 => Lib.hid (up_any b1 b2 cx cy w.heap.size W h1 h2)
  have P0 : PtAt ((w.alloc (bx cx cy)).alloc (bx ax ay) |>.alloc (bx b1 b2)) w.heap.size cx cy := (PtAt.new.alloc _ (by simp)).alloc _ (by simp; omega)
  have P1 : PtAt ((w.alloc (bx cx cy)).alloc (bx ax ay) |>.alloc (bx b1 b2)) (w.heap.size + 1) ax ay := by
    have := (PtAt.new (w := w.alloc (bx cx cy)) (x := ax) (y := ay) (t := 38)).alloc (bx b1 b2) (by simp)
    rwa [World.size_alloc] at this
  have P2 : PtAt ((w.alloc (bx cx cy)).alloc (bx ax ay) |>.alloc (bx b1 b2)) (w.heap.size + 1 + 1) b1 b2 := by
    have := PtAt.new (w := (w.alloc (bx cx cy)).alloc (bx ax ay)) (x := b1) (y := b2) (t := 38)
    rwa [World.size_alloc, World.size_alloc] at this
  have HW : Below w.heap.size w ((w.alloc (bx cx cy)).alloc (bx ax ay) |>.alloc (bx b1 b2)) := (Below.refl _ _).alloc (Nat.le_refl _) _ |>.alloc (by simp) _ |>.alloc (by simp; omega) _
  have hz : ((w.alloc (bx cx cy)).alloc (bx ax ay) |>.alloc (bx b1 b2)).heap.size = w.heap.size + 3 := by simp
  generalize upB (cx, cy) (ax, ay) = u at *
  generalize upB (cx, cy) (b1, b2) = v at *
  generalize beforeB (cx, cy) (ax, ay) (b1, b2) = r at *
  generalize cross cx cy ax ay b1 b2 = x at *
  clear hc ha hb
  go_enter Try.func43, Try.ntmps43
  go_upto_region 1 with (fail)
  generalize ((w.alloc (bx cx cy)).alloc (bx ax ay) |>.alloc (bx b1 b2)) = w0 at *
  generalize hgg : w.heap.size = g at *
  obtain ⟨p1, p2⟩ := P0
  obtain ⟨p3, p4⟩ := P1
  obtain ⟨p5, p6⟩ := P2
  have K1 := fun d os => Lib.hid (Calls.regrown_of ((U1 (grow (redrawn w0 d) os) ⟨cell_regrown p1 d os, cell_regrown p2 d os⟩ (by have := (below_regrown w0 d os).size; omega)).out))
  have K2 := fun d os => Lib.hid (Calls.regrown_of ((U2 (grow (redrawn w0 d) os) ⟨cell_regrown p1 d os, cell_regrown p2 d os⟩ (by have := (below_regrown w0 d os).size; omega)).out))
  have t3 := cell_regrown p3
  have t4 := cell_regrown p4
  have t5 := cell_regrown p5
  have t6 := cell_regrown p6
  go_wp2_with fail
  refine wp_region_quiet_below (by kernel_rfl) (by kernel_rfl) ?_
  repeat (go_big_quiet_step (first | (with_reducible exact (K1 _ _).out) | (with_reducible exact (K2 _ _).out)))
  refine wpQuiet_nil ?_
  intro _ hw'
  obtain ⟨⟨dq, osq⟩, hw''⟩ := hw'
  subst hw''
  have hbq := below_regrown w0 dq osq
  have Q0 := PtAt.below hbq (by omega) ⟨p1, p2⟩
  have Q1 := PtAt.below hbq (by omega) ⟨p3, p4⟩
  have Q2 := PtAt.below hbq (by omega) ⟨p5, p6⟩
  have hq : g + 3 ≤ (grow (redrawn w0 dq) osq).heap.size := by have := hbq.size; omega
  have HW2 := HW.trans (hbq.mono (by have := HW.size; omega))
  clear hbq t3 t4 t5 t6 p1 p2 p3 p4 p5 p6 K1 K2 HW hz
  generalize grow (redrawn w0 dq) osq = w1 at *
  obtain ⟨p1, p2⟩ := Q0
  obtain ⟨p3, p4⟩ := Q1
  obtain ⟨p5, p6⟩ := Q2
  have hgs : g ≤ w1.heap.size := by omega
  have same : u = v → Hid (r = decide (0 < x)) := fun e => Lib.hid (by rw [HB.out, e]; simp)
  have other : u ≠ v → Hid (r = u) := fun e => Lib.hid (by rw [HB.out, if_pos (by simpa using e)])
  cases u <;> cases v
  · have S := same rfl
    go_wp2_with fail
    refine ((CR _).out).mono ?_
    rintro e w2 ⟨rfl, hb2⟩
    have HW3 := HW2.trans (hb2.mono hgs)
    go_wp2_with fail
    go_ret
    exact ⟨ret_bool S.out.symm, by rw [hgg]; exact HW3⟩
  · have S := other (by simp)
    go_wp2_with fail
    refine ((U1 _ ⟨p1, p2⟩ (by omega)).out).mono ?_
    rintro e w2 ⟨rfl, hb2⟩
    have HW3 := HW2.trans (hb2.mono hgs)
    go_wp2_with fail
    go_ret
    exact ⟨ret_bool S.out.symm, by rw [hgg]; exact HW3⟩
  · have S := other (by simp)
    go_wp2_with fail
    refine ((U1 _ ⟨p1, p2⟩ (by omega)).out).mono ?_
    rintro e w2 ⟨rfl, hb2⟩
    have HW3 := HW2.trans (hb2.mono hgs)
    go_wp2_with fail
    go_ret
    exact ⟨ret_bool S.out.symm, by rw [hgg]; exact HW3⟩
  · have S := same rfl
    go_wp2_with fail
    refine ((CR _).out).mono ?_
    rintro e w2 ⟨rfl, hb2⟩
    have HW3 := HW2.trans (hb2.mono hgs)
    go_wp2_with fail
    go_ret
    exact ⟨ret_bool S.out.symm, by rw [hgg]; exact HW3⟩
end Go.Proofs.Ytlmdmgbhfoehgaa

/- Shape: the law's star: its points, in some order: the walk. -/
namespace Go.Proofs.Ytlmdmgbhfoehgaa
open Go.RowKit Go.Sort
attribute [local go_sem ↓] run_min_mn run_max_mx Go.wp_at_zero Go.wp_at_succ

set_option maxRecDepth 100000 in
set_option maxHeartbeats 2000000 in
theorem pointsT_any (L : Int) (hL : 1000 ≤ L ∧ L ≤ 10000) (A : Option Addr) (n c : Nat) (xs : List Pt) (w : World) (hn : xs.length = n) (hbig : n ≤ 9223372036854775807) (hx : PtsAt w A xs) (hw : ∀ x ∈ xs, (-9223372036854775808 ≤ x.1 ∧ x.1 ≤ 9223372036854775807) ∧ (-9223372036854775808 ≤ x.2 ∧ x.2 ≤ 9223372036854775807)) :
    Calls Try.prog 42 #[.slice A n c, .int .i64 L, .int .i64 10] w (PointsTo w (foldLim L (xs.take 10))) := by
  have HN := Lib.hid hn
  have HX := Lib.hid hx
  have HW := Lib.hid hw
  clear hn hx hw
  obtain ⟨hL1, hL2⟩ := hL
  have hlim : IntKind.i64.wrap (L + 1) = L + 1 := by rw [IntKind.wrap_i64]; omega
  have hne : ¬ L + 1 = 0 := by omega
  go_enter Try.func42, Try.ntmps42
  go_wp2
  go_loopw [7, 8] (fun o i wr => ∃ k : Nat, k ≤ n ∧ k ≤ 10 ∧ i = .int .i64 k ∧ PtsOwn wr w.heap.size o (foldLim L (xs.take k)) ∧ Below w.heap.size w wr) (fun _ i _ => 10 - (intOf i).toNat)
  case atStart => exact ⟨0, Nat.zero_le _, by omega, rfl, by simpa [foldLim] using PtsOwn.empty w, (Below.refl _ _).alloc (Nat.le_refl _) _⟩
  case round =>
    obtain ⟨k, hk, hk10, rfl, hown, hbr⟩ := hrel
    have HO := Lib.hid hown
    have HB := Lib.hid hbr
    have hsz := hbr.size
    clear hown
    by_cases hlt : k < n ∧ k < 10
    · obtain ⟨hlt, hlt2⟩ := hlt
      have hkl : k < xs.length := by rw [HN.out]; exact hlt
      obtain ⟨b, off, rfl, hb, hin⟩ := HX.out (by intro e; subst e; simp at hkl)
      obtain ⟨h1, h2⟩ := (hin.below hbr hb) k _ (List.getElem?_eq_getElem hkl)
      obtain ⟨⟨d3, d4⟩, d5, d6⟩ := HW.out _ (List.getElem_mem hkl)
      have HNX : Hid (foldLim L (xs.take (k + 1)) = foldLim L (xs.take k) ++ [tmL L xs[k]]) := Lib.hid (by
        rw [List.take_succ_eq_append_getElem hkl]; unfold foldLim; rw [List.map_append]; rfl)
      have HLN : Hid ((foldLim L (xs.take k)).length ≤ 100) := Lib.hid (by rw [foldLim_length, List.length_take]; omega)
      generalize xs[k] = p at *
      generalize foldLim L (xs.take k) = cur at *
      obtain ⟨x, y⟩ := p
      replace d3 : -9223372036854775808 ≤ x := d3
      replace d4 : x ≤ 9223372036854775807 := d4
      replace d5 : -9223372036854775808 ≤ y := d5
      replace d6 : y ≤ 9223372036854775807 := d6
      have ne1 : u7.ownBlock ≠ some b := fun e => by have := (HO.out.base b e).1; omega
      have hB : b < wr.heap.size := by omega
      clear hin
      have l1 : b < (wr.alloc (.cells #[.int .i64 (x.tmod (L + 1)), .int .i64 (y.tmod (L + 1))] 38)).drew.heap.size := by simp; omega
      have k1 : (wr.alloc (.cells #[.int .i64 (x.tmod (L + 1)), .int .i64 (y.tmod (L + 1))] 38)).drew.cell? ⟨b, off + k * 2, none⟩ = some (.int .i64 x) := (World.cell?_alloc_lt wr _ ⟨b, _, none⟩ hB).trans h1
      have k2 : (wr.alloc (.cells #[.int .i64 (x.tmod (L + 1)), .int .i64 (y.tmod (L + 1))] 38)).drew.cell? ⟨b, off + k * 2 + 1, none⟩ = some (.int .i64 y) := (World.cell?_alloc_lt wr _ ⟨b, _, none⟩ hB).trans h2
      have r1 : IntKind.i64.wrap (x.tmod (L + 1)) = x.tmod (L + 1) := by have := tmodL_bd (L := L) (by omega) x; rw [IntKind.wrap_i64]; omega
      have r2 : IntKind.i64.wrap (y.tmod (L + 1)) = y.tmod (L + 1) := by have := tmodL_bd (L := L) (by omega) y; rw [IntKind.wrap_i64]; omega
      go_wp2_with fail
      go_region_held3 (fun w' => w'.cell? ⟨b, off + k * 2, none⟩ = some (.int .i64 x) ∧ w'.cell? ⟨b, off + k * 2 + 1, none⟩ = some (.int .i64 y))
        (first
          | go_keep
          | exact ⟨(hgrow.cell_far _ l1 (Ne.symm ne1)).trans k1, (hgrow.cell_far _ l1 (Ne.symm ne1)).trans k2⟩)
        ((refine step_papp (by rfl) _ _ (by rfl) w.heap.size _ cur [(x.tmod (L + 1), y.tmod (L + 1))] (some ⟨wr.heap.size, 0, none⟩) 1 1 (by rfl) (by rfl) ((HO.out.alloc _).drew) rfl (PtsAt.one wr _ _) (by have := HLN.out; simp; omega) (by simp; omega) ?_; intro v1 w2 hown1 hgrow hat))
      have HO2 : Hid (PtsOwn w2 w.heap.size v1 (foldLim L (xs.take (k + 1)))) := Lib.hid (by rw [HNX.out]; exact hown1)
      have HB2 : Hid (Below w.heap.size w w2) := Lib.hid ((hbr.alloc (by omega) _).drew.grown hgrow (by simp; omega) (fun k hk => (HO.out.base k hk).1))
      clear hown1 hgrow hat k1 k2 l1 r1 r2
      go_wp2_with fail
      go_roundw
      case rel => exact ⟨k + 1, by omega, by omega, by go_num, HO2.out, HB2.out⟩
      case measure => simp [intOf]; omega
    · have HF : Hid (foldLim L (xs.take k) = foldLim L (xs.take 10)) := Lib.hid (by
        rcases Nat.lt_or_ge k 10 with g | g
        · rw [List.take_of_length_le (by rw [HN.out]; omega), List.take_of_length_le (by rw [HN.out]; omega)]
        · rw [show k = 10 by omega])
      by_cases g : k < n
      · have g10 : k = 10 := by omega
        go_wp2_with fail
        go_ret
        exact ⟨_, rfl, by rw [← HF.out]; exact HO.out, HB.out⟩
      · go_wp2_with fail
        go_ret
        exact ⟨_, rfl, by rw [← HF.out]; exact HO.out, HB.out⟩

def triS : List Pt := [(0, 0), (2, 0), (0, 2)]
theorem triS_own (w : World) : PtsOwn (w.alloc (.cells #[.int .i64 0, .int .i64 0, .int .i64 2, .int .i64 0, .int .i64 0, .int .i64 2] 38)) w.heap.size (.slice (some ⟨w.heap.size, 0, none⟩) 3 3) triS := by
  unfold PtsOwn World.ownsRow
  exact ⟨rfl, .inr ⟨w.heap.size, 3, _, rfl, Nat.le_refl _, heap_alloc_new _ _, Nat.le_refl _, by simp [maxLen], rfl, rfl⟩⟩

def StarTo (L : Int) (w : World) (e : Ending) (w' : World) : Prop :=
  ∃ v H, e = .returned v ∧ PtsOwn w' w.heap.size v H ∧ 3 ≤ H.length ∧ H.length ≤ 12 ∧ (∀ p ∈ H, (-L ≤ p.1 ∧ p.1 ≤ L) ∧ (-L ≤ p.2 ∧ p.2 ≤ L)) ∧ Below w.heap.size w w'

/-- The star as it grows. -/
def Grows (w : World) (L : Int) (k : Nat) (o : Value) (wr : World) : Prop :=
  ∃ g c cur, o = .slice (some ⟨g, 0, none⟩) (k - 1) c ∧ k - 1 ≤ c ∧ w.heap.size ≤ g ∧ g < wr.heap.size ∧ PtsOwn wr w.heap.size o cur ∧ PtsIn wr g 0 cur ∧ cur.length = k - 1 ∧ ∀ p ∈ cur, (-L ≤ p.1 ∧ p.1 ≤ L) ∧ (-L ≤ p.2 ∧ p.2 ≤ L)

set_option maxRecDepth 100000 in
set_option maxHeartbeats 8000000 in
theorem star_any (L : Int) (hL : 1000 ≤ L ∧ L ≤ 10000) (A : Option Addr) (n0 c : Nat) (xs : List Pt) (w : World) (hn : xs.length = n0) (hbig : n0 ≤ 9223372036854775807) (hx : PtsAt w A xs) (hw : ∀ x ∈ xs, (-9223372036854775808 ≤ x.1 ∧ x.1 ≤ 9223372036854775807) ∧ (-9223372036854775808 ≤ x.2 ∧ x.2 ≤ 9223372036854775807)) :
    Calls Try.prog 19 #[.slice A n0 c, .int .i64 L] w (StarTo L w) := by
  have K := Lib.hid (pointsT_any L hL A n0 c xs w hn hbig hx hw)
  have hl0 : (foldLim L (xs.take 10)).length ≤ 10 := by rw [foldLim_length, List.length_take]; omega
  have HBL : Hid (∀ p ∈ foldLim L (xs.take 10), (-L ≤ p.1 ∧ p.1 ≤ L) ∧ (-L ≤ p.2 ∧ p.2 ≤ L)) := Lib.hid fun p hp => by
    unfold foldLim at hp
    obtain ⟨q, _, rfl⟩ := List.mem_map.1 hp
    exact ⟨tmodL_bd (by omega) q.1, tmodL_bd (by omega) q.2⟩
  clear hn hbig hx hw
  generalize foldLim L (xs.take 10) = l at *
  have HBD : Hid (∀ p ∈ l, Bd p) := Lib.hid fun p hp => by have := HBL.out p hp; unfold Bd; omega
  go_enter Try.func19, Try.ntmps19
  go_wp2_with fail
  refine (K.out).mono ?_
  rintro e w1 ⟨v, rfl, hown, hb1⟩
  clear K
  by_cases h3 : l.length < 3
  · obtain ⟨A1, c1, rfl, -, -⟩ := hown.slice_n (n := l.length) rfl
    have OW := Lib.hid (triS_own w1)
    have HB1 := Lib.hid hb1
    have hs1 := hb1.size
    clear hown hb1
    generalize l.length = m at *
    go_wp2_with fail
    go_ret
    exact ⟨_, triS, rfl, OW.out.low hs1, by simp [triS], by simp [triS], fun p hp => by
      simp only [triS, List.mem_cons, List.not_mem_nil, or_false] at hp
      rcases hp with rfl | rfl | rfl <;> simp only <;> omega, HB1.out.alloc hs1 _⟩
  · generalize hm : l.length = n at *
    obtain ⟨gp, cp, rfl, hcp, hgp, hgpl, hin⟩ := hown.row hm (by omega)
    have HP := Lib.hid hin
    have HM := Lib.hid hm
    have hbw1 := hb1
    have hs1 := hb1.size
    clear hown hin hm hb1
    go_wp2_with fail
    go_loopw [6, 7] (fun o i wr => ∃ k : Nat, 1 ≤ k ∧ k ≤ n ∧ i = .int .i64 k ∧ Grows w L k o wr ∧ Below w1.heap.size w1 wr ∧ Below w.heap.size w wr) (fun _ i _ => n - (intOf i).toNat)
    case atStart =>
      refine ⟨1, by omega, by omega, rfl, ⟨w1.heap.size, 0, [], rfl, by omega, hs1, by simp, (PtsOwn.empty w1).low hs1, fun i p hp => by simp at hp, rfl, by simp⟩, (Below.refl _ _).alloc (Nat.le_refl _) _, hbw1.alloc hs1 _⟩
    case round =>
      obtain ⟨k, hk1, hk, rfl, ⟨g, cg, cur, rfl, hcg, hgb, hgl, hown, hin, hlen, hbd⟩, hbr, hbw⟩ := hrel
      have HO := Lib.hid hown
      have HBR := Lib.hid hbr
      have HBW := Lib.hid hbw
      have HCUR := Lib.hid hbd
      have HLEN := Lib.hid hlen
      have hP : PtsIn wr gp 0 l := HP.out.below hbr hgpl
      have hgpr : gp < wr.heap.size := Nat.lt_of_lt_of_le hgpl hbr.size
      have hsw := hbw.size
      clear hbd hbr hbw hlen hown
      by_cases hlt : k < n
      · have hkl : k < l.length := by rw [HM.out]; exact hlt
        have h0l : 0 < l.length := by omega
        have HIN := Lib.hid hin
        have HPR := Lib.hid hP
        have d0 := HBD.out _ (List.getElem_mem h0l)
        have dk := HBD.out _ (List.getElem_mem hkl)
        have HKB := Lib.hid (HBL.out _ (List.getElem_mem hkl))
        have c0 := hP 0 _ (List.getElem?_eq_getElem h0l)
        have ck := hP k _ (List.getElem?_eq_getElem hkl)
        clear hin hP
        generalize hq0 : l[0] = p0 at *
        generalize hqk : l[k] = pk at *
        clear hq0 hqk
        obtain ⟨p0x, p0y⟩ := p0
        obtain ⟨pkx, pky⟩ := pk
        simp only [Nat.zero_mul, Nat.add_zero, Nat.zero_add] at c0 ck
        have C0 := Lib.hid c0
        have CK := Lib.hid ck
        clear c0 ck
        obtain ⟨wo, rfl⟩ : ∃ wo : World, wo = wr := ⟨_, rfl⟩
        go_wp2_with fail
        go_loopw [8] (fun j wr => ∃ t : Nat, t ≤ k - 1 ∧ j = .int .i64 t ∧ Below wo.heap.size wo wr) (fun j _ => (k - 1) - (intOf j).toNat)
        case atStart => exact ⟨0, Nat.zero_le _, rfl, Below.refl _ _⟩
        case round =>
          obtain ⟨t, ht, rfl, hbt⟩ := hrel
          have HBT := Lib.hid hbt
          by_cases htm : t < k - 1
          · have htl : t < cur.length := by rw [HLEN.out]; exact htm
            obtain ⟨a1, a2⟩ := (HIN.out.below hbt hgl) t _ (List.getElem?_eq_getElem htl)
            have dt : Bd cur[t] := by
              have := HCUR.out _ (List.getElem_mem htl)
              unfold Bd; omega
            obtain ⟨b1, b2⟩ := PtAt.below hbt hgpr (b := gp) (x := p0x) (y := p0y) C0.out
            have b3 := (hbt.cell (p := ⟨gp, _, none⟩) hgpr).trans CK.out.1
            have b4 := (hbt.cell (p := ⟨gp, _, none⟩) hgpr).trans CK.out.2
            simp only [Nat.zero_add] at a1 a2 b3 b4
            generalize cur[t] = q at *
            obtain ⟨qx, qy⟩ := q
            have BF := fun W => Lib.hid (before_any (p0x, p0y) (pkx, pky) (qx, qy) W d0 dk dt)
            simp only at BF
            generalize beforeB (p0x, p0y) (pkx, pky) (qx, qy) = r at *
            have K1 := fun d os => Lib.hid (Calls.regrown_of ((BF (grow (redrawn wr d) os)).out))
            have t1 := cell_regrown b1
            have t2 := cell_regrown b2
            have t3 := cell_regrown b3
            have t4 := cell_regrown b4
            have t5 := cell_regrown a1
            have t6 := cell_regrown a2
            have hg : decide ((t : Int) < ((k - 1 : Nat) : Int)) = true := decide_eq_true (by omega)
            clear a1 a2 b1 b2 b3 b4 BF dt
            go_wp2_with fail
            refine wp_region_quiet_below (by kernel_rfl) (by kernel_rfl) ?_
            repeat (go_big_quiet_step (first | (with_reducible exact (K1 _ _).out)))
            refine wpQuiet_nil ?_
            intro _ hw'
            obtain ⟨⟨dq, osq⟩, hw''⟩ := hw'
            subst hw''
            have HBQ := Lib.hid (hbt.trans ((below_regrown wr dq osq).mono hbt.size))
            clear hbt HBT t1 t2 t3 t4 t5 t6 K1
            generalize grow (redrawn wr dq) osq = w2 at *
            cases r
            · go_wp2_with fail
              go_roundw
              case rel => exact ⟨t + 1, by omega, by go_num, HBQ.out⟩
              case measure => simp [intOf]; omega
            · have HBX := HBQ
              have OX := Lib.hid (HO.out.belows HBX.out (Nat.le_refl _))
              have INX := HIN.out.below HBX.out hgl
              have hgX : g < w2.heap.size := Nat.lt_of_lt_of_le hgl HBX.out.size
              have hwX : wo.heap.size ≤ w2.heap.size := HBX.out.size
              have hbA : Below w2.heap.size w2 (w2.alloc (.cells #[] 38)) := (Below.refl _ _).alloc (Nat.le_refl _) _
              have hat1 : PtsAt (w2.alloc (.cells #[] 38)) (some ⟨g, 0, none⟩) (cur.take t) := fun _ => ⟨g, 0, rfl, by simp; omega, (INX.below hbA hgX).take _⟩
              have hl1 : (cur.take t).length = t := by rw [List.length_take, HLEN.out]; omega
              have hld : (cur.drop t).length = k - 1 - t := by rw [List.length_drop, HLEN.out]
              have hlen1 : ([] : List Pt).length + (cur.take t).length ≤ 100000 := by rw [hl1]; simp; omega
              have i1 : (0 : Int) ≤ (t : Int) := Int.natCast_nonneg _
              have i2 : (t : Int) ≤ (cg : Int) := by omega
              have i3 : (t : Int) ≤ ((k - 1 : Nat) : Int) := by omega
              have i4 : ((k - 1 : Nat) : Int) ≤ (cg : Int) := by omega
              have j1 : t ≤ cg := by omega
              have INXH := Lib.hid INX
              have HAT1 := Lib.hid hat1
              have HLD := Lib.hid hld
              clear INX hat1 hld
              go_upto_region 12 with (at_builtin; refine wpList_papp rfl (.tmp 48) (.tmp 51) rfl w2.heap.size (.slice (some ⟨w2.heap.size, 0, none⟩) 0 0) [] (cur.take t) (some ⟨g, 0, none⟩) t cg rfl rfl (PtsOwn.empty w2) hl1 HAT1.out hlen1 (by simp) ?_; intro v5 w5 ho5 hg5 hat5; have HO5 := Lib.hid ho5; have HB5 := Lib.hid (hbA.grown hg5 (by simp) (by simp [Value.ownBlock])); clear ho5 hg5 hat5)
              have hs5 := HB5.out.size
              have b3 := (HB5.out.cell (p := ⟨gp, _, none⟩) (Nat.lt_of_lt_of_le hgpr hwX)).trans ((HBX.out.cell (p := ⟨gp, _, none⟩) hgpr).trans CK.out.1)
              have b4 := (HB5.out.cell (p := ⟨gp, _, none⟩) (Nat.lt_of_lt_of_le hgpr hwX)).trans ((HBX.out.cell (p := ⟨gp, _, none⟩) hgpr).trans CK.out.2)
              have hlen2 : ([] ++ cur.take t).length + [(pkx, pky)].length ≤ 100000 := by rw [List.length_append, hl1]; simp; omega
              have hs5' : w2.heap.size ≤ (w5.alloc (bx pkx pky)).heap.size := by simp; omega
              go_upto_region 13 with (at_builtin; refine wpList_papp rfl (.tmp 53) (.tmp 58) rfl w2.heap.size v5 ([] ++ cur.take t) [(pkx, pky)] (some ⟨w5.heap.size, 0, none⟩) 1 1 rfl rfl (HO5.out.alloc _) rfl (PtsAt.one w5 pkx pky) hlen2 hs5' ?_; intro v6 w6 ho6 hg6 hat6; have HO6 := Lib.hid ho6; have HB6 := Lib.hid ((HB5.out.alloc hs5 (bx pkx pky)).grown hg6 hs5' (fun x hx => (HO5.out.base x hx).1)); clear ho6 hg6 hat6)
              clear b3 b4
              have IN6 := INXH.out.below HB6.out hgX
              have hg6 : g < w6.heap.size := Nat.lt_of_lt_of_le hgX HB6.out.size
              have hs6 := HB6.out.size
              have hlen3 : ([] ++ cur.take t ++ [(pkx, pky)]).length + (cur.drop t).length ≤ 100000 := by rw [List.length_append, List.length_append, hl1, HLD.out]; simp; omega
              have hlen7 : ([] ++ cur.take t ++ [(pkx, pky)] ++ cur.drop t).length = k := by rw [List.length_append, List.length_append, List.length_append, hl1, HLD.out]; simp; omega
              have FB : Hid (∀ p ∈ [] ++ cur.take t ++ [(pkx, pky)] ++ cur.drop t, (-L ≤ p.1 ∧ p.1 ≤ L) ∧ (-L ≤ p.2 ∧ p.2 ≤ L)) := Lib.hid fun p hp => by
                rw [List.mem_append, List.mem_append, List.nil_append] at hp
                rcases hp with (h | h) | h
                · exact HCUR.out p (List.mem_of_mem_take h)
                · rw [List.mem_singleton] at h; subst h; exact HKB.out
                · exact HCUR.out p (List.mem_of_mem_drop h)
              have HBWX := Lib.hid (HBW.out.trans (HBX.out.mono hsw))
              have HBRX := Lib.hid (HBR.out.trans (HBX.out.mono HBR.out.size))
              have hwW : w.heap.size ≤ w2.heap.size := by omega
              have h1W : w1.heap.size ≤ w2.heap.size := HBRX.out.size
              have hatD : PtsAt w6 (some ⟨g, t * 2, none⟩) (cur.drop t) := fun _ => ⟨g, _, rfl, hg6, by have := IN6.drop t; rwa [Nat.zero_add] at this⟩
              have hatD0 : PtsAt w6 (some ⟨g, 0 + t * 2, none⟩) (cur.drop t) := by rw [Nat.zero_add]; exact hatD
              by_cases hct : cg = t
              · exfalso; omega
              · have j4 : ¬ cg = t := hct
                have j5 : ¬ cg - t = 0 := by omega
                have HATD := Lib.hid hatD
                have HATD0 := Lib.hid hatD0
                clear hatD hatD0 IN6
                go_wp2_with (at_builtin; (first | refine wpList_papp rfl (.tmp 60) (.tmp 63) rfl w2.heap.size v6 ([] ++ cur.take t ++ [(pkx, pky)]) (cur.drop t) _ (k - 1 - t) _ rfl rfl HO6.out HLD.out HATD.out hlen3 hs6 ?_ | refine wpList_papp rfl (.tmp 60) (.tmp 63) rfl w2.heap.size v6 ([] ++ cur.take t ++ [(pkx, pky)]) (cur.drop t) _ (k - 1 - t) _ rfl rfl HO6.out HLD.out HATD0.out hlen3 hs6 ?_); intro v7 w7 ho7 hg7 hat7; have HO7 := Lib.hid ho7; have HB7 := Lib.hid (HB6.out.grown hg7 hs6 (fun x hx => (HO6.out.base x hx).1)); clear ho7 hg7 hat7)
                obtain ⟨g7, c7, rfl, hc7, hgb7, hgl7, hin7⟩ := HO7.out.row hlen7 (by omega)
                have HG7 : Hid (Grows w L (k + 1) (.slice (some ⟨g7, 0, none⟩) k c7) w7) := Lib.hid ⟨g7, c7, _, by rw [Nat.add_sub_cancel], by omega, by omega, hgl7, HO7.out.low hwW, hin7, by rw [Nat.add_sub_cancel]; exact hlen7, FB.out⟩
                have HR7 := Lib.hid (HBRX.out.trans (HB7.out.mono h1W))
                have HW7 := Lib.hid (HBWX.out.trans (HB7.out.mono hwW))
                clear hin7
                go_wp2_with fail
                go_roundw
                case rel => exact ⟨k + 1, by omega, by omega, by go_num, HG7.out, HR7.out, HW7.out⟩
                case measure => simp [intOf]; omega
          · obtain rfl : t = k - 1 := by omega
            have hg : decide (((k - 1 : Nat) : Int) < ((k - 1 : Nat) : Int)) = false := decide_eq_false (by omega)
            go_wp2_with fail
            refine wp_region_quiet_below (by kernel_rfl) (by kernel_rfl) ?_
            repeat (go_big_quiet_step (fail))
            refine wpQuiet_nil ?_
            intro _ hw'
            obtain ⟨⟨dq, osq⟩, hw''⟩ := hw'
            subst hw''
            have HBX := Lib.hid (hbt.trans ((below_regrown wr dq osq).mono hbt.size))
            clear hbt HBT
            generalize grow (redrawn wr dq) osq = w2 at *
            have OX := Lib.hid (HO.out.belows HBX.out (Nat.le_refl _))
            have INX := HIN.out.below HBX.out hgl
            have hgX : g < w2.heap.size := Nat.lt_of_lt_of_le hgl HBX.out.size
            have hwX : wo.heap.size ≤ w2.heap.size := HBX.out.size
            have hbA : Below w2.heap.size w2 (w2.alloc (.cells #[] 38)) := (Below.refl _ _).alloc (Nat.le_refl _) _
            have hat1 : PtsAt (w2.alloc (.cells #[] 38)) (some ⟨g, 0, none⟩) (cur.take (k - 1)) := fun _ => ⟨g, 0, rfl, by simp; omega, (INX.below hbA hgX).take _⟩
            have hl1 : (cur.take (k - 1)).length = k - 1 := by rw [List.length_take, HLEN.out]; omega
            have hld : (cur.drop (k - 1)).length = k - 1 - (k - 1) := by rw [List.length_drop, HLEN.out]
            have hlen1 : ([] : List Pt).length + (cur.take (k - 1)).length ≤ 100000 := by rw [hl1]; simp; omega
            have i1 : (0 : Int) ≤ ((k - 1 : Nat) : Int) := Int.natCast_nonneg _
            have i2 : ((k - 1 : Nat) : Int) ≤ (cg : Int) := by omega
            have i3 : ((k - 1 : Nat) : Int) ≤ ((k - 1 : Nat) : Int) := by omega
            have i4 : ((k - 1 : Nat) : Int) ≤ (cg : Int) := by omega
            have j1 : k - 1 ≤ cg := by omega
            have INXH := Lib.hid INX
            have HAT1 := Lib.hid hat1
            have HLD := Lib.hid hld
            clear INX hat1 hld
            go_upto_region 12 with (at_builtin; refine wpList_papp rfl (.tmp 48) (.tmp 51) rfl w2.heap.size (.slice (some ⟨w2.heap.size, 0, none⟩) 0 0) [] (cur.take (k - 1)) (some ⟨g, 0, none⟩) (k - 1) cg rfl rfl (PtsOwn.empty w2) hl1 HAT1.out hlen1 (by simp) ?_; intro v5 w5 ho5 hg5 hat5; have HO5 := Lib.hid ho5; have HB5 := Lib.hid (hbA.grown hg5 (by simp) (by simp [Value.ownBlock])); clear ho5 hg5 hat5)
            have hs5 := HB5.out.size
            have b3 := (HB5.out.cell (p := ⟨gp, _, none⟩) (Nat.lt_of_lt_of_le hgpr hwX)).trans ((HBX.out.cell (p := ⟨gp, _, none⟩) hgpr).trans CK.out.1)
            have b4 := (HB5.out.cell (p := ⟨gp, _, none⟩) (Nat.lt_of_lt_of_le hgpr hwX)).trans ((HBX.out.cell (p := ⟨gp, _, none⟩) hgpr).trans CK.out.2)
            have hlen2 : ([] ++ cur.take (k - 1)).length + [(pkx, pky)].length ≤ 100000 := by rw [List.length_append, hl1]; simp; omega
            have hs5' : w2.heap.size ≤ (w5.alloc (bx pkx pky)).heap.size := by simp; omega
            go_upto_region 13 with (at_builtin; refine wpList_papp rfl (.tmp 53) (.tmp 58) rfl w2.heap.size v5 ([] ++ cur.take (k - 1)) [(pkx, pky)] (some ⟨w5.heap.size, 0, none⟩) 1 1 rfl rfl (HO5.out.alloc _) rfl (PtsAt.one w5 pkx pky) hlen2 hs5' ?_; intro v6 w6 ho6 hg6 hat6; have HO6 := Lib.hid ho6; have HB6 := Lib.hid ((HB5.out.alloc hs5 (bx pkx pky)).grown hg6 hs5' (fun x hx => (HO5.out.base x hx).1)); clear ho6 hg6 hat6)
            clear b3 b4
            have IN6 := INXH.out.below HB6.out hgX
            have hg6 : g < w6.heap.size := Nat.lt_of_lt_of_le hgX HB6.out.size
            have hs6 := HB6.out.size
            have hlen3 : ([] ++ cur.take (k - 1) ++ [(pkx, pky)]).length + (cur.drop (k - 1)).length ≤ 100000 := by rw [List.length_append, List.length_append, hl1, HLD.out]; simp; omega
            have hlen7 : ([] ++ cur.take (k - 1) ++ [(pkx, pky)] ++ cur.drop (k - 1)).length = k := by rw [List.length_append, List.length_append, List.length_append, hl1, HLD.out]; simp; omega
            have FB : Hid (∀ p ∈ [] ++ cur.take (k - 1) ++ [(pkx, pky)] ++ cur.drop (k - 1), (-L ≤ p.1 ∧ p.1 ≤ L) ∧ (-L ≤ p.2 ∧ p.2 ≤ L)) := Lib.hid fun p hp => by
              rw [List.mem_append, List.mem_append, List.nil_append] at hp
              rcases hp with (h | h) | h
              · exact HCUR.out p (List.mem_of_mem_take h)
              · rw [List.mem_singleton] at h; subst h; exact HKB.out
              · exact HCUR.out p (List.mem_of_mem_drop h)
            have HBWX := Lib.hid (HBW.out.trans (HBX.out.mono hsw))
            have HBRX := Lib.hid (HBR.out.trans (HBX.out.mono HBR.out.size))
            have hwW : w.heap.size ≤ w2.heap.size := by omega
            have h1W : w1.heap.size ≤ w2.heap.size := HBRX.out.size
            have hatD : PtsAt w6 (some ⟨g, (k - 1) * 2, none⟩) (cur.drop (k - 1)) := fun _ => ⟨g, _, rfl, hg6, by have := IN6.drop (k - 1); rwa [Nat.zero_add] at this⟩
            have hatD0 : PtsAt w6 (some ⟨g, 0 + (k - 1) * 2, none⟩) (cur.drop (k - 1)) := by rw [Nat.zero_add]; exact hatD
            have hnil : cur.drop (k - 1) = [] := List.eq_nil_of_length_eq_zero (by rw [HLD.out]; omega)
            have HLD0 : Hid ((cur.drop (k - 1)).length = 0) := Lib.hid (by rw [hnil]; rfl)
            have HATN : Hid (∀ B, PtsAt w6 B (cur.drop (k - 1))) := Lib.hid fun B => by rw [hnil]; exact PtsAt.nil _ _
            clear hatD hatD0 IN6 hnil
            by_cases hct : cg = k - 1
            · go_wp2_with (at_builtin; (first | refine wpList_papp rfl (.tmp 60) (.tmp 63) rfl w2.heap.size v6 ([] ++ cur.take (k - 1) ++ [(pkx, pky)]) (cur.drop (k - 1)) _ 0 _ rfl rfl HO6.out HLD0.out (HATN.out _) hlen3 hs6 ?_ | refine wpList_papp rfl (.tmp 60) (.tmp 63) rfl w2.heap.size v6 ([] ++ cur.take (k - 1) ++ [(pkx, pky)]) (cur.drop (k - 1)) _ (k - 1 - (k - 1)) _ rfl rfl HO6.out HLD.out (HATN.out _) hlen3 hs6 ?_); intro v7 w7 ho7 hg7 hat7; have HO7 := Lib.hid ho7; have HB7 := Lib.hid (HB6.out.grown hg7 hs6 (fun x hx => (HO6.out.base x hx).1)); clear ho7 hg7 hat7)
              obtain ⟨g7, c7, rfl, hc7, hgb7, hgl7, hin7⟩ := HO7.out.row hlen7 (by omega)
              have HG7 : Hid (Grows w L (k + 1) (.slice (some ⟨g7, 0, none⟩) k c7) w7) := Lib.hid ⟨g7, c7, _, by rw [Nat.add_sub_cancel], by omega, by omega, hgl7, HO7.out.low hwW, hin7, by rw [Nat.add_sub_cancel]; exact hlen7, FB.out⟩
              have HR7 := Lib.hid (HBRX.out.trans (HB7.out.mono h1W))
              have HW7 := Lib.hid (HBWX.out.trans (HB7.out.mono hwW))
              clear hin7
              go_wp2_with fail
              go_roundw
              case rel => exact ⟨k + 1, by omega, by omega, by go_num, HG7.out, HR7.out, HW7.out⟩
              case measure => simp [intOf]; omega
            · have j5 : ¬ cg - (k - 1) = 0 := by omega
              go_wp2_with (at_builtin; (first | refine wpList_papp rfl (.tmp 60) (.tmp 63) rfl w2.heap.size v6 ([] ++ cur.take (k - 1) ++ [(pkx, pky)]) (cur.drop (k - 1)) _ 0 _ rfl rfl HO6.out HLD0.out (HATN.out _) hlen3 hs6 ?_ | refine wpList_papp rfl (.tmp 60) (.tmp 63) rfl w2.heap.size v6 ([] ++ cur.take (k - 1) ++ [(pkx, pky)]) (cur.drop (k - 1)) _ (k - 1 - (k - 1)) _ rfl rfl HO6.out HLD.out (HATN.out _) hlen3 hs6 ?_); intro v7 w7 ho7 hg7 hat7; have HO7 := Lib.hid ho7; have HB7 := Lib.hid (HB6.out.grown hg7 hs6 (fun x hx => (HO6.out.base x hx).1)); clear ho7 hg7 hat7)
              obtain ⟨g7, c7, rfl, hc7, hgb7, hgl7, hin7⟩ := HO7.out.row hlen7 (by omega)
              have HG7 : Hid (Grows w L (k + 1) (.slice (some ⟨g7, 0, none⟩) k c7) w7) := Lib.hid ⟨g7, c7, _, by rw [Nat.add_sub_cancel], by omega, by omega, hgl7, HO7.out.low hwW, hin7, by rw [Nat.add_sub_cancel]; exact hlen7, FB.out⟩
              have HR7 := Lib.hid (HBRX.out.trans (HB7.out.mono h1W))
              have HW7 := Lib.hid (HBWX.out.trans (HB7.out.mono hwW))
              clear hin7
              go_wp2_with fail
              go_roundw
              case rel => exact ⟨k + 1, by omega, by omega, by go_num, HG7.out, HR7.out, HW7.out⟩
              case measure => simp [intOf]; omega
      · obtain rfl : k = n := by omega
        have h0l : 0 < l.length := by rw [HM.out]; omega
        have c0 := hP 0 _ (List.getElem?_eq_getElem h0l)
        have d0 := HBL.out _ (List.getElem_mem h0l)
        generalize l[0] = p0 at *
        obtain ⟨p0x, p0y⟩ := p0
        simp only [Nat.zero_mul, Nat.add_zero, Nat.zero_add] at c0
        obtain ⟨c1, c2⟩ := c0
        have hbA : Below wr.heap.size wr (wr.alloc (bx p0x p0y)) := (Below.refl _ _).alloc (Nat.le_refl _) _
        have hatC : PtsAt (wr.alloc (bx p0x p0y)) (some ⟨g, 0, none⟩) cur := fun _ => ⟨g, 0, rfl, by simp; omega, hin.below hbA hgl⟩
        have hlen1 : [(p0x, p0y)].length + cur.length ≤ 100000 := by rw [HLEN.out]; simp; omega
        have hb2 : w.heap.size ≤ (wr.alloc (bx p0x p0y)).heap.size := by simp; omega
        have HATC := Lib.hid hatC
        have FB : Hid (∀ p ∈ [(p0x, p0y)] ++ cur, (-L ≤ p.1 ∧ p.1 ≤ L) ∧ (-L ≤ p.2 ∧ p.2 ≤ L)) := Lib.hid fun p hp => by
          rcases List.mem_append.1 hp with h | h
          · rw [List.mem_singleton] at h; subst h; exact d0
          · exact HCUR.out p h
        have hfl : ([(p0x, p0y)] ++ cur).length = k := by rw [List.length_append, HLEN.out]; simp; omega
        clear hatC hin d0
        go_wp2_with (at_builtin; refine wpList_papp rfl (.tmp 68) (.tmp 69) rfl w.heap.size (.slice (some ⟨wr.heap.size, 0, none⟩) 1 1) [(p0x, p0y)] cur (some ⟨g, 0, none⟩) (k - 1) cg rfl rfl (PtsOwn.one wr p0x p0y hsw) HLEN.out HATC.out hlen1 hb2 ?_; intro v5 w5 ho5 hg5 hat5; have HO5 := Lib.hid ho5; have HB5 := Lib.hid ((HBW.out.alloc hsw (bx p0x p0y)).grown hg5 hb2 (fun x hx => ((PtsOwn.one wr p0x p0y hsw).base x hx).1)); clear ho5 hg5 hat5)
        go_ret
        exact ⟨_, _, rfl, HO5.out, by rw [hfl]; omega, by rw [hfl]; omega, FB.out, HB5.out⟩
end Go.Proofs.Ytlmdmgbhfoehgaa

/- Shape: a point is in the interior of a convex polygon exactly if it is to the left of all edges. -/
namespace Go.Proofs.Ytlmdmgbhfoehgaa

/-- To the left of all edges. -/
def Inner (K : List Pt) (p : Pt) : Prop := ∀ x, 0 < crossP (vtx K x) (vtx K (x + 1)) p

theorem vtx_mod (K : List Pt) (x : Nat) : vtx K (x % K.length) = vtx K x := by unfold vtx; rw [Nat.mod_mod]
theorem vtx_mod1 (K : List Pt) (x : Nat) : vtx K (x % K.length + 1) = vtx K (x + 1) := by unfold vtx; rw [Nat.mod_add_mod]

theorem first_down (f : Nat → Int) (y : Int) (a : Nat) (ha : y < f a) : ∀ n, f (a + n) ≤ y → ∃ m, a ≤ m ∧ m < a + n ∧ y < f m ∧ f (m + 1) ≤ y
  | 0, h => by rw [Nat.add_zero] at h; omega
  | n + 1, h => by
    rcases Int.lt_or_le y (f (a + n)) with g | g
    · exact ⟨a + n, by omega, by omega, g, h⟩
    · obtain ⟨m, m1, m2, m3⟩ := first_down f y a ha n g
      exact ⟨m, m1, by omega, m3⟩
theorem first_up (f : Nat → Int) (y : Int) (a : Nat) (ha : f a ≤ y) : ∀ n, y < f (a + n) → ∃ m, a ≤ m ∧ m < a + n ∧ f m ≤ y ∧ y < f (m + 1)
  | 0, h => by rw [Nat.add_zero] at h; omega
  | n + 1, h => by
    rcases Int.lt_or_le y (f (a + n)) with g | g
    · obtain ⟨m, m1, m2, m3⟩ := first_up f y a ha n g
      exact ⟨m, m1, by omega, m3⟩
    · exact ⟨a + n, by omega, by omega, g, h⟩

theorem left2_iff (K : List Pt) (p : Pt) (i : Nat) : left2At K p i = true ↔
    ((gt K i).2 ≤ p.2 ∧ p.2 < (nx K i).2 ∧ 0 < crossP (gt K i) (nx K i) p) ∨ ((nx K i).2 ≤ p.2 ∧ p.2 < (gt K i).2 ∧ crossP (gt K i) (nx K i) p ≤ 0) := by
  unfold left2At leftB
  rw [show cross (gt K i).1 (gt K i).2 (nx K i).1 (nx K i).2 p.1 p.2 = crossP (gt K i) (nx K i) p from rfl]
  generalize crossP (gt K i) (nx K i) p = c
  generalize (gt K i).2 = u
  generalize (nx K i).2 = v
  by_cases g1 : p.2 < u <;> by_cases g2 : p.2 < v <;> by_cases g3 : u < v <;> by_cases g4 : 0 < c <;> simp [g1, g2, g3, g4] <;> omega

theorem two_down {a b c d : Pt} {y : Int} (h1 : b.2 ≤ y) (h2 : y < a.2) (h3 : d.2 ≤ y) (h4 : y < c.2) (k1 : 0 ≤ crossP a b c) (k2 : 0 ≤ crossP a b d) (k3 : 0 ≤ crossP c d a) (k4 : 0 ≤ crossP c d b) : crossP a b d = 0 := by
  have n1 : 0 ≤ (y - d.2) * crossP a b c := Int.mul_nonneg (by omega) k1
  have n2 : 0 ≤ (c.2 - y) * crossP a b d := Int.mul_nonneg (by omega) k2
  have n3 : 0 ≤ (y - b.2) * crossP c d a := Int.mul_nonneg (by omega) k3
  have n4 : 0 ≤ (a.2 - y) * crossP c d b := Int.mul_nonneg (by omega) k4
  have id : (y - d.2) * crossP a b c + (c.2 - y) * crossP a b d + ((y - b.2) * crossP c d a + (a.2 - y) * crossP c d b) = 0 := by unfold crossP cross; grind
  have z : (c.2 - y) * crossP a b d = 0 := by omega
  exact (Int.mul_eq_zero.1 z).resolve_left (by omega)

/-- Only one edge goes up across a height, and only one goes down. -/
theorem Conv.one_up {K : List Pt} {k0 : Pt} (c : Conv K k0) {y : Int} {i j : Nat} (hi : i < K.length) (hj : j < K.length) (a1 : (gt K i).2 ≤ y) (a2 : y < (nx K i).2) (b1 : (gt K j).2 ≤ y) (b2 : y < (nx K j).2) : i = j := by
  have Ei := c.hull.edge i hi
  have Ej := c.hull.edge j hj
  have z := two_up a1 a2 b1 b2 (Ei.ok _ Ej.fst).nonneg (Ei.ok _ Ej.snd).nonneg (Ej.ok _ Ei.fst).nonneg (Ej.ok _ Ei.snd).nonneg
  have on : onP (gt K i) (nx K i) (gt K j) = true := (Ei.ok _ Ej.fst).resolve_left (by omega)
  rcases hedge_between Ei Ej on with q | q
  · exact (hull_inj c.hull hj hi q).symm
  · rw [q] at b1; omega
theorem Conv.one_down {K : List Pt} {k0 : Pt} (c : Conv K k0) {y : Int} {i j : Nat} (hi : i < K.length) (hj : j < K.length) (a1 : (nx K i).2 ≤ y) (a2 : y < (gt K i).2) (b1 : (nx K j).2 ≤ y) (b2 : y < (gt K j).2) : i = j := by
  have Ei := c.hull.edge i hi
  have Ej := c.hull.edge j hj
  have z := two_down a1 a2 b1 b2 (Ei.ok _ Ej.fst).nonneg (Ei.ok _ Ej.snd).nonneg (Ej.ok _ Ei.fst).nonneg (Ej.ok _ Ei.snd).nonneg
  have on : onP (gt K i) (nx K i) (nx K j) = true := (Ei.ok _ Ej.snd).resolve_left (by omega)
  have E3 : Hedge K (nx K j) (vtx K (j + 1 + 1)) := c.hull.edgeV (j + 1)
  rcases hedge_between Ei E3 on with q | q
  · rw [q] at b1; omega
  · have three := c.three
    have e := hull_inj c.hull (Nat.mod_lt _ (by omega)) (Nat.mod_lt _ (by omega)) (show gt K ((j + 1) % K.length) = gt K ((i + 1) % K.length) from q)
    by_cases g1 : i + 1 = K.length
    · by_cases g2 : j + 1 = K.length
      · omega
      · rw [g1, Nat.mod_self, Nat.mod_eq_of_lt (by omega)] at e; omega
    · by_cases g2 : j + 1 = K.length
      · rw [g2, Nat.mod_self, Nat.mod_eq_of_lt (by omega)] at e; omega
      · rw [Nat.mod_eq_of_lt (by omega), Nat.mod_eq_of_lt (by omega)] at e; omega

theorem inner_off {K : List Pt} {p : Pt} (h : Inner K p) (j : Nat) (hj : j < K.length) : on2At K p j = false := by
  cases e : on2At K p j
  · rfl
  · unfold on2At at e
    have z := onP_cross e
    have k := h j
    rw [vtx_lt hj, ← vtx_nx] at k
    omega

/-- A POINT TO THE LEFT OF ALL EDGES IS IN THE INTERIOR. -/
theorem inner_where {K : List Pt} {k0 p : Pt} (c : Conv K k0) (h : Inner K p) : whereD K p = 1 := by
  have three := c.three
  have pos : ∀ i, i < K.length → 0 < crossP (gt K i) (nx K i) p := fun i hi => by
    have := h i
    rwa [vtx_lt hi, ← vtx_nx] at this
  rw [whereD_off (inner_off h)]
  have up : ∀ i, i < K.length → (left2At K p i = true ↔ (gt K i).2 ≤ p.2 ∧ p.2 < (nx K i).2) := fun i hi => by
    rw [left2_iff]
    have := pos i hi
    omega
  have some_up : ∃ m, m < K.length ∧ left2At K p m = true := by
    obtain ⟨k, hk, htop⟩ := top_of (vtx K) K.length (by omega)
    have topV : ∀ x, leP (vtx K x) (vtx K k) := fun x => by
      have := htop (x % K.length) (Nat.mod_lt _ (by omega))
      rwa [vtx_mod] at this
    have le2 : ∀ {a b : Pt}, leP a b → a.2 ≤ b.2 := fun {a b} h => by
      rcases h with rfl | h
      · exact Int.le_refl _
      · unfold ltP at h; omega
    have corner : ∀ x, 0 < xr (subP (vtx K (x + 1)) (vtx K x)) (subP p (vtx K (x + 1))) ∧ 0 < xr (subP (vtx K (x + 1 + 1)) (vtx K (x + 1))) (subP p (vtx K (x + 1))) ∧ 0 < xr (subP (vtx K (x + 1)) (vtx K x)) (subP (vtx K (x + 1 + 1)) (vtx K (x + 1))) := fun x => by
      refine ⟨?_, ?_, c.turn x⟩
      · have := h x; rwa [crossP_xr2] at this
      · have := h (x + 1); rwa [crossP_xr] at this
    have hhi : p.2 < (vtx K k).2 := by
      apply Classical.byContradiction
      intro hno
      have e1 : vtx K (k + K.length - 1 + 1) = vtx K k := by rw [show k + K.length - 1 + 1 = k + K.length by omega]; exact vtx_add K k
      have e2 : vtx K (k + K.length - 1 + 1 + 1) = vtx K (k + 1) := by rw [show k + K.length - 1 + 1 + 1 = k + 1 + K.length by omega]; exact vtx_add K (k + 1)
      obtain ⟨c1, c2, c3⟩ := corner (k + K.length - 1)
      rw [e1] at c1 c2 c3
      rw [e2] at c2 c3
      have f1 := le2 (topV (k + K.length - 1))
      have f2 := le2 (topV (k + 1))
      unfold xr subP at c1 c2 c3
      simp only at c1 c2 c3
      exact no_top (a2 := (vtx K k).2 - (vtx K (k + K.length - 1)).2) (b2 := (vtx K (k + 1)).2 - (vtx K k).2) (q2 := p.2 - (vtx K k).2) (by omega) (by omega) (by omega) c1 c2 c3
    have h0 : (vtx K 0).2 ≤ p.2 := by
      apply Classical.byContradiction
      intro hno
      have e1 : vtx K (K.length - 1 + 1) = vtx K 0 := by
        have := vtx_add K 0
        rwa [Nat.zero_add, show K.length = K.length - 1 + 1 by omega] at this
      have e2 : vtx K (K.length - 1 + 1 + 1) = vtx K 1 := by
        have := vtx_add K 1
        rwa [show 1 + K.length = K.length - 1 + 1 + 1 by omega] at this
      obtain ⟨c1, c2, c3⟩ := corner (K.length - 1)
      rw [e1] at c1 c2 c3
      rw [e2] at c2 c3
      have v0 : vtx K 0 = k0 := c.hull.vtx0
      have f1 := le2 (c.low _ (c.vmem (K.length - 1)))
      have f2 := le2 (c.low _ (c.vmem 1))
      rw [← v0] at f1 f2
      generalize vtx K (K.length - 1) = r at *
      generalize vtx K 1 = s at *
      generalize vtx K 0 = o at *
      unfold xr subP at c1 c2 c3
      simp only at c1 c2 c3
      refine no_top (a1 := r.1 - o.1) (a2 := r.2 - o.2) (b1 := o.1 - s.1) (b2 := o.2 - s.2) (q1 := o.1 - p.1) (q2 := o.2 - p.2) (by omega) (by omega) (by omega) ?_ ?_ ?_
      · grind
      · grind
      · grind
    obtain ⟨m, m1, m2, m3, m4⟩ := first_up (fun x => (vtx K x).2) p.2 0 h0 k (by simpa using hhi)
    have hm : m < K.length := by omega
    exact ⟨m, hm, (up m hm).2 ⟨by rw [← vtx_lt hm]; exact m3, m4⟩⟩
  obtain ⟨m, hm, em⟩ := some_up
  have all : ∀ i, i < K.length → left2At K p i = decide (i = m) := fun i hi => by
    by_cases e : i = m
    · rw [e, em, decide_eq_true rfl]
    · rw [decide_eq_false e]
      cases q : left2At K p i
      · rfl
      · exact absurd (c.one_up hi hm ((up i hi).1 q).1 ((up i hi).1 q).2 ((up m hm).1 em).1 ((up m hm).1 em).2) e
  rw [side_one all K.length (Nat.le_refl _), if_pos hm]

theorem side_none {l : List Pt} {p : Pt} (h : ∀ i, i < l.length → left2At l p i = false) : ∀ k, k ≤ l.length → sideTo l p k = -1
  | 0, _ => rfl
  | k + 1, hk => by
    unfold sideTo
    rw [h k (by omega), if_neg (by simp), side_none h k (by omega)]
theorem side_two {l : List Pt} {p : Pt} {m n : Nat} (hmn : m ≠ n) (h : ∀ i, i < l.length → left2At l p i = (decide (i = m) || decide (i = n))) : ∀ k, k ≤ l.length → sideTo l p k = if m < k then (if n < k then -1 else 1) else (if n < k then 1 else -1)
  | 0, _ => by rw [if_neg (by omega), if_neg (by omega)]; rfl
  | k + 1, hk => by
    have ih := side_two hmn h k (by omega)
    unfold sideTo
    rw [h k (by omega), ih]
    by_cases e : k = m
    · have e2 : ¬ k = n := by omega
      by_cases g : n < k
      · simp [e, hmn, show ¬ m < m by omega, show n < m by omega, show n < m + 1 by omega]
      · simp [e, hmn, show ¬ m < m by omega, show ¬ n < m by omega, show ¬ n < m + 1 by omega]
    · by_cases e2 : k = n
      · by_cases g : m < k
        · simp [e2, show ¬ n = m by omega, show m < n by omega, show m < n + 1 by omega]
        · simp [e2, show ¬ n = m by omega, show ¬ m < n by omega, show ¬ m < n + 1 by omega]
      · have a1 : (m < k + 1) ↔ m < k := by omega
        have a2 : (n < k + 1) ↔ n < k := by omega
        simp [e, e2, a1, a2]

/-- Between the edge that goes up at its height and the one that goes down: to the left of all, or on one. -/
theorem between_inner {K : List Pt} {k0 p : Pt} (c : Conv K k0) (off : ∀ j, j < K.length → on2At K p j = false) {u d : Nat} (hu : u < K.length) (hd : d < K.length)
    (u1 : (gt K u).2 ≤ p.2) (u2 : p.2 < (nx K u).2) (d1 : (nx K d).2 ≤ p.2) (d2 : p.2 < (gt K d).2) (cu : 0 < crossP (gt K u) (nx K u) p) (cd : 0 < crossP (gt K d) (nx K d) p) : Inner K p := fun x => by
  have three := c.three
  have E := c.hull.edgeV x
  have Eu := c.hull.edge u hu
  have Ed := c.hull.edge d hd
  have offx := off (x % K.length) (Nat.mod_lt _ (by omega))
  unfold on2At at offx
  rw [vtx_nx, ← vtx_lt (Nat.mod_lt _ (by omega)), vtx_mod, vtx_mod1] at offx
  have fa := E.ok _ Eu.fst
  have fb := E.ok _ Eu.snd
  have fc := E.ok _ Ed.fst
  have fd := E.ok _ Ed.snd
  have ne := E.ne
  generalize vtx K x = s at *
  generalize vtx K (x + 1) = t at *
  generalize gt K u = a at *
  generalize nx K u = b at *
  generalize gt K d = e at *
  generalize nx K d = f at *
  have idu : (b.2 - a.2) * crossP s t p = (b.2 - p.2) * crossP s t a + (p.2 - a.2) * crossP s t b + (t.2 - s.2) * crossP a b p := by unfold crossP cross; grind
  have idd : (e.2 - f.2) * crossP s t p = (p.2 - f.2) * crossP s t e + (e.2 - p.2) * crossP s t f + (s.2 - t.2) * crossP e f p := by unfold crossP cross; grind
  have n1 := Int.mul_nonneg (show 0 ≤ b.2 - p.2 by omega) fa.nonneg
  have n2 := Int.mul_nonneg (show 0 ≤ p.2 - a.2 by omega) fb.nonneg
  have n3 := Int.mul_nonneg (show 0 ≤ p.2 - f.2 by omega) fc.nonneg
  have n4 := Int.mul_nonneg (show 0 ≤ e.2 - p.2 by omega) fd.nonneg
  rcases Int.lt_trichotomy s.2 t.2 with g | g | g
  · have := Int.mul_pos (show 0 < t.2 - s.2 by omega) cu
    exact pos_of_mul (show 0 < b.2 - a.2 by omega) idu (by omega)
  · rw [show t.2 - s.2 = 0 by omega, Int.zero_mul] at idu
    rw [show s.2 - t.2 = 0 by omega, Int.zero_mul] at idd
    have ge : 0 ≤ crossP s t p := nonneg_of_mul (show 0 < b.2 - a.2 by omega) idu (by omega)
    rcases Int.lt_or_eq_of_le ge with q | q
    · exact q
    · exfalso
      rw [← q, Int.mul_zero] at idu idd
      have za : crossP s t a = 0 := (Int.mul_eq_zero.1 (show (b.2 - p.2) * crossP s t a = 0 by omega)).resolve_left (by omega)
      have zf : crossP s t f = 0 := (Int.mul_eq_zero.1 (show (e.2 - p.2) * crossP s t f = 0 by omega)).resolve_left (by omega)
      have oa : onP s t a = true := fa.resolve_left (by omega)
      have of' : onP s t f = true := fd.resolve_left (by omega)
      have flat : ∀ z : Pt, crossP s t z = (t.1 - s.1) * (z.2 - s.2) := fun z => by
        unfold crossP cross
        rw [show t.2 - s.2 = 0 by omega, Int.mul_zero, Int.sub_zero]
      have hts : t.1 - s.1 ≠ 0 := fun h => ne (Prod.ext (by omega) g)
      have ya : a.2 = s.2 := by rw [flat] at za; have := (Int.mul_eq_zero.1 za).resolve_left hts; omega
      have yf : f.2 = s.2 := by rw [flat] at zf; have := (Int.mul_eq_zero.1 zf).resolve_left hts; omega
      have yp : p.2 = s.2 := by rw [flat] at q; have := (Int.mul_eq_zero.1 q.symm).resolve_left hts; omega
      have xa : p.1 < a.1 := by
        have e1 : crossP a b p = (a.1 - p.1) * (b.2 - a.2) := by
          unfold crossP cross
          rw [show p.2 - a.2 = 0 by omega, Int.mul_zero]; grind
        rw [e1] at cu
        rcases Int.lt_or_le p.1 a.1 with h | h
        · exact h
        · have := Int.mul_nonpos_of_nonpos_of_nonneg (show a.1 - p.1 ≤ 0 by omega) (show 0 ≤ b.2 - a.2 by omega)
          omega
      have xf : f.1 < p.1 := by
        have e1 : crossP e f p = (p.1 - f.1) * (e.2 - f.2) := by
          have : p.2 = f.2 := by omega
          unfold crossP cross
          rw [this]; grind
        rw [e1] at cd
        rcases Int.lt_or_le f.1 p.1 with h | h
        · exact h
        · have := Int.mul_nonpos_of_nonpos_of_nonneg (show p.1 - f.1 ≤ 0 by omega) (show 0 ≤ e.2 - f.2 by omega)
          omega
      rw [onP_iff] at oa of'
      have hon : onP s t p = true := by
        rw [onP_iff]
        obtain ⟨-, o1, -⟩ := oa
        obtain ⟨-, o2, -⟩ := of'
        refine ⟨?_, ?_, ?_⟩
        · unfold al
          rw [show p.2 - s.2 = 0 by omega, show t.2 - s.2 = 0 by omega]; simp
        · unfold btw at *; omega
        · unfold btw; omega
      rw [hon] at offx; cases offx
  · have := Int.mul_pos (show 0 < s.2 - t.2 by omega) cd
    exact pos_of_mul (show 0 < e.2 - f.2 by omega) idd (by omega)

/-- A POINT IN THE INTERIOR IS TO THE LEFT OF ALL EDGES. -/
theorem where_inner {K : List Pt} {k0 p : Pt} (c : Conv K k0) (h : whereD K p = 1) : Inner K p := by
  have three := c.three
  have off : ∀ j, j < K.length → on2At K p j = false := fun j hj => by
    cases e : on2At K p j
    · rfl
    · rw [whereD_on hj e] at h; cases h
  rw [whereD_off off] at h
  by_cases hU : ∃ u, u < K.length ∧ (gt K u).2 ≤ p.2 ∧ p.2 < (nx K u).2
  · obtain ⟨u, hu, u1, u2⟩ := hU
    obtain ⟨d, hd, d1, d2⟩ : ∃ d, d < K.length ∧ (nx K d).2 ≤ p.2 ∧ p.2 < (gt K d).2 := by
      obtain ⟨m, -, -, m3, m4⟩ := first_down (fun x => (vtx K x).2) p.2 (u + 1) u2 (K.length - 1) (by
        show (vtx K (u + 1 + (K.length - 1))).2 ≤ p.2
        rw [show u + 1 + (K.length - 1) = u + K.length by omega, vtx_add, vtx_lt hu]; exact u1)
      refine ⟨m % K.length, Nat.mod_lt _ (by omega), ?_, ?_⟩
      · rw [vtx_nx, vtx_mod1]; exact m4
      · rw [← vtx_lt (Nat.mod_lt _ (by omega)), vtx_mod]; exact m3
    have hud : u ≠ d := by intro e; subst e; omega
    have only : ∀ i, i < K.length → left2At K p i = true → i = u ∨ i = d := fun i hi e => by
      rcases (left2_iff K p i).1 e with ⟨a, b, _⟩ | ⟨a, b, _⟩
      · exact .inl (c.one_up hi hu a b u1 u2)
      · exact .inr (c.one_down hi hd a b d1 d2)
    by_cases cu : 0 < crossP (gt K u) (nx K u) p
    · by_cases cd : 0 < crossP (gt K d) (nx K d) p
      · exact between_inner c off hu hd u1 u2 d1 d2 cu cd
      · exfalso
        have all : ∀ i, i < K.length → left2At K p i = (decide (i = u) || decide (i = d)) := fun i hi => by
          by_cases e1 : i = u
          · subst e1; rw [(left2_iff K p i).2 (.inl ⟨u1, u2, cu⟩)]; simp
          · by_cases e2 : i = d
            · subst e2; rw [(left2_iff K p i).2 (.inr ⟨d1, d2, by omega⟩)]; simp
            · cases e : left2At K p i
              · simp [e1, e2]
              · rcases only i hi e with q | q
                · exact absurd q e1
                · exact absurd q e2
        rw [side_two hud all K.length (Nat.le_refl _), if_pos hu, if_pos hd] at h
        cases h
    · by_cases cd : 0 < crossP (gt K d) (nx K d) p
      · exfalso
        have all : ∀ i, i < K.length → left2At K p i = false := fun i hi => by
          cases e : left2At K p i
          · rfl
          · rcases only i hi e with q | q
            · subst q
              rcases (left2_iff K p i).1 e with ⟨_, _, x⟩ | ⟨x, y, _⟩
              · exact absurd x cu
              · omega
            · subst q
              rcases (left2_iff K p i).1 e with ⟨x, y, _⟩ | ⟨_, _, x⟩
              · omega
              · omega
        rw [side_none all K.length (Nat.le_refl _)] at h
        cases h
      · exfalso
        -- to the right of the edge that goes up, to the left of the one that goes down: on the first
        have Eu := c.hull.edge u hu
        have Ed := c.hull.edge d hd
        have k1 := (Eu.ok _ Ed.fst).nonneg
        have k2 := (Eu.ok _ Ed.snd).nonneg
        have o := off u hu
        unfold on2At at o
        generalize gt K u = a at *
        generalize nx K u = b at *
        generalize gt K d = e at *
        generalize nx K d = f at *
        have id : (e.2 - f.2) * crossP a b p = (p.2 - f.2) * crossP a b e + (e.2 - p.2) * crossP a b f + (b.2 - a.2) * (- crossP e f p) := by unfold crossP cross; grind
        have n1 := Int.mul_nonneg (show 0 ≤ p.2 - f.2 by omega) k1
        have n2 := Int.mul_nonneg (show 0 ≤ e.2 - p.2 by omega) k2
        have n3 := Int.mul_nonneg (show 0 ≤ b.2 - a.2 by omega) (show 0 ≤ - crossP e f p by omega)
        have ge : 0 ≤ crossP a b p := nonneg_of_mul (show 0 < e.2 - f.2 by omega) id (by omega)
        have z : crossP a b p = 0 := by omega
        have hon : onP a b p = true := by
          rcases Int.lt_or_eq_of_le u1 with g | g
          · exact on_of_between z (.inr (.inl g)) (.inr (.inl u2))
          · have e1 : crossP a b p = (a.1 - p.1) * (b.2 - a.2) := by
              unfold crossP cross
              rw [show p.2 - a.2 = 0 by omega, Int.mul_zero]; grind
            rw [z] at e1
            have := (Int.mul_eq_zero.1 e1.symm).resolve_right (by omega)
            exact on_of_between z (.inl (Prod.ext (by omega) g)) (.inr (.inl u2))
        rw [hon] at o; cases o
  · exfalso
    have noU : ∀ i, i < K.length → ¬ ((gt K i).2 ≤ p.2 ∧ p.2 < (nx K i).2) := fun i hi q => hU ⟨i, hi, q⟩
    have all : ∀ i, i < K.length → left2At K p i = false := fun i hi => by
      cases e : left2At K p i
      · rfl
      · exfalso
        rcases (left2_iff K p i).1 e with ⟨a, b, _⟩ | ⟨a, b, _⟩
        · exact noU i hi ⟨a, b⟩
        · -- what goes down goes up again
          obtain ⟨m, -, -, m3, m4⟩ := first_up (fun x => (vtx K x).2) p.2 (i + 1) a (K.length - 1) (by
            show p.2 < (vtx K (i + 1 + (K.length - 1))).2
            rw [show i + 1 + (K.length - 1) = i + K.length by omega, vtx_add, vtx_lt hi]; exact b)
          refine noU (m % K.length) (Nat.mod_lt _ (by omega)) ⟨?_, ?_⟩
          · rw [← vtx_lt (Nat.mod_lt _ (by omega)), vtx_mod]; exact m3
          · rw [vtx_nx, vtx_mod1]; exact m4
    rw [side_none all K.length (Nat.le_refl _)] at h
    cases h

end Go.Proofs.Ytlmdmgbhfoehgaa

/- Shape: convex polygons overlap exactly if the vector is in the interior of the sum of the one and the other's negative. -/
namespace Go.Proofs.Ytlmdmgbhfoehgaa

theorem Dir.pos {u v w : Pt} (h : Dir u v) : 0 < Go.Proofs.Ytlmdmgbhfoehgaa.xr u w ↔ 0 < Go.Proofs.Ytlmdmgbhfoehgaa.xr v w := by
  obtain ⟨p, q, hp, hq, e⟩ := h.xr
  have e := e w
  constructor
  · intro k; exact pos_of_mul hq e.symm (Int.mul_pos hp k)
  · intro k; exact pos_of_mul hp e (Int.mul_pos hq k)

theorem mpt_cross {a b : List Pt} (k : Nat) (v : Pt) (K : List Pt) {a0 b0 : Pt} (ca : Conv a a0) (cb : Conv b b0) (h : Hull (sums a b) K (sumP a0 b0)) :
    crossP (vtx K k) (vtx K (k + 1)) v = xr (ev K k) (subP v (sumP (vtx a (mst a b k).1) (vtx b (mst a b k).2))) := by
  rw [crossP_xr, ← merge_hull ca cb h k]
  unfold ev
  rw [← merge_hull ca cb h k]
  rfl

/-- The corners of the negatives' hull, one after the other. -/
theorem neg_steps {P K : List Pt} {a0 k0 : Pt} (ca : Conv P a0) (h : Hull (P.map negP) K k0) : ∃ t, ∀ k, vtx K k = negP (vtx P (t + k)) := by
  have two := h.two
  have hk : k0 ∈ P.map negP := by
    have := (h.edge 0 (by omega)).fst
    rwa [h.first] at this
  obtain ⟨q0, hq0, e0⟩ := List.mem_map.1 hk
  obtain ⟨t, ht, et⟩ := List.getElem_of_mem hq0
  refine ⟨t, fun k => ?_⟩
  induction k with
  | zero => rw [h.vtx0, Nat.add_zero, vtx_lt ht, gt_of (List.getElem?_eq_getElem ht), et, e0]
  | succ k ih =>
    have e1 := h.edgeV k
    have e2 := (ca.hull.edgeV (t + k)).neg
    rw [ih] at e1
    exact hedge_next e1 e2

/-- Does one polygon lie beyond an edge of the other? -/
theorem beyond_iff {a r : List Pt} (h : 0 < a.length) : beyondB a r = true ↔ ∃ i, ∀ z ∈ r, crossP (vtx a i) (vtx a (i + 1)) z ≤ 0 := by
  unfold beyondB
  rw [List.any_eq_true]
  constructor
  · rintro ⟨i, hi, e⟩
    have hi := List.mem_range.1 hi
    refine ⟨i, fun z hz => ?_⟩
    unfold beyondAt anyLeft at e
    rw [Bool.not_eq_true', List.any_eq_false] at e
    have := e z hz
    unfold leftQ at this
    rw [vtx_lt hi, ← vtx_nx]
    simpa using this
  · rintro ⟨i, e⟩
    refine ⟨i % a.length, List.mem_range.2 (Nat.mod_lt _ h), ?_⟩
    unfold beyondAt anyLeft
    rw [Bool.not_eq_true', List.any_eq_false]
    intro z hz
    have := e z hz
    rw [← vtx_mod, ← vtx_mod1, vtx_lt (Nat.mod_lt _ h), ← vtx_nx] at this
    unfold leftQ
    simpa using this
theorem beyond_not {a r : List Pt} (h : 0 < a.length) : beyondB a r = false ↔ ∀ i, ∃ z ∈ r, 0 < crossP (vtx a i) (vtx a (i + 1)) z := by
  constructor
  · intro e i
    apply Classical.byContradiction
    intro g
    have : beyondB a r = true := (beyond_iff h).2 ⟨i, fun z hz => by
      rcases Int.lt_or_le 0 (crossP (vtx a i) (vtx a (i + 1)) z) with q | q
      · exact absurd ⟨z, hz, q⟩ g
      · exact q⟩
    rw [e] at this; cases this
  · intro e
    cases q : beyondB a r
    · rfl
    · obtain ⟨i, hi⟩ := (beyond_iff h).1 q
      obtain ⟨z, hz, g⟩ := e i
      have := hi z hz
      omega

theorem vtx_movedL (b : List Pt) (v : Pt) (i : Nat) (h : 0 < b.length) : vtx (movedL b v) i = addP (vtx b i) v := by
  have hm : i % b.length < b.length := Nat.mod_lt _ h
  unfold vtx
  rw [movedL_length]
  unfold gt movedL
  rw [List.getD_eq_getElem?_getD, List.getD_eq_getElem?_getD, List.getElem?_map, List.getElem?_eq_getElem hm]
  rfl

theorem ev_neg (P K : List Pt) (t k m : Nat) (h : ∀ k, vtx K k = negP (vtx P (t + k))) (e : t + k = m) : ev K k = negP (ev P m) := by
  subst e
  unfold ev
  rw [h k, h (k + 1)]
  unfold negP subP
  rw [show t + k + 1 = t + (k + 1) by omega]
  simp only [Prod.mk.injEq]; omega

/-- OVERLAP AND INTERIOR. -/
theorem overlap_inner {a b n K : List Pt} {a0 b0 n0 v : Pt} (ca : Conv a a0) (cb : Conv b b0) (hn : Hull (b.map negP) n n0) (cn : Conv n n0) (h : Hull (sums a n) K (sumP a0 n0)) (cK : Conv K (sumP a0 n0)) :
    apartB a (movedL b v) = false ↔ Inner K v := by
  have la : 0 < a.length := by have := ca.three; omega
  have lb : 0 < b.length := by have := cb.three; omega
  have ln : 0 < n.length := by have := cn.three; omega
  have lm : 0 < (movedL b v).length := by rw [movedL_length]; exact lb
  obtain ⟨t, ht⟩ := neg_steps cb hn
  unfold apartB
  rw [Bool.or_eq_false_iff, beyond_not la, beyond_not lm]
  constructor
  · rintro ⟨h1, h2⟩ k
    rw [mpt_cross k v K ca cn h]
    obtain ⟨d, sw⟩ := sweep_at ca cn k
    by_cases g : goesA a n k
    · rw [(dir_A ca cn h g).pos]
      unfold goesA at g
      generalize (mst a n k).1 = i at *
      generalize (mst a n k).2 = j at *
      obtain ⟨z, hz, q⟩ := h1 i
      obtain ⟨y, hy, rfl⟩ := List.mem_map.1 hz
      have s := sw.side ca cn g ((hull_neg_mem cb hn (negP y)).2 (List.mem_map.2 ⟨y, hy, rfl⟩))
      rw [crossP_xr] at q
      have id : xr (ev a i) (subP v (sumP (vtx a i) (vtx n j))) = xr (subP (vtx a (i + 1)) (vtx a i)) (subP (addP y v) (vtx a i)) + xr (ev a i) (subP (negP y) (vtx n j)) := by unfold ev xr subP sumP addP negP; grind
      omega
    · have g' : goesA n a k := by
        unfold goesA at g ⊢
        rw [mst_swap k]
        simp only
        rw [xr_swap]; omega
      have D := dir_A cn ca (hull_swap h) g'
      rw [mst_swap k] at D
      simp only at D
      rw [D.pos]
      have sw' := sw.swap
      unfold goesA at g
      generalize (mst a n k).1 = i at *
      generalize (mst a n k).2 = j at *
      obtain ⟨x, hx, q⟩ := h2 (t + j)
      rw [vtx_movedL b v _ lb, vtx_movedL b v _ lb, crossP_xr] at q
      have s := sw'.side cn ca (by rw [xr_swap]; omega) hx
      have e1 := ev_neg b n t j (t + j) ht rfl
      have e2 := ht j
      have id : xr (ev n j) (subP v (sumP (vtx a i) (vtx n j))) = xr (subP (addP (vtx b (t + j + 1)) v) (addP (vtx b (t + j)) v)) (subP x (addP (vtx b (t + j)) v)) + xr (ev n j) (subP x (vtx a i)) := by
        rw [e1, e2]
        unfold ev xr subP sumP addP negP; grind
      omega
  · intro hin
    have end' := merge_end ca cn h cK
    refine ⟨fun i => ?_, fun m => ?_⟩
    · obtain ⟨k, -, e, g⟩ := passed (a := a) (b := n) (i % a.length) K.length (by rw [end'.1]; exact Nat.mod_lt _ la)
      have p := hin k
      rw [mpt_cross k v K ca cn h, (dir_A ca cn h g).pos, e] at p
      generalize (mst a n k).2 = j at *
      refine ⟨addP (vtx b (t + j)) v, List.mem_map.2 ⟨_, cb.vmem _, rfl⟩, ?_⟩
      rw [← vtx_mod, ← vtx_mod1, crossP_xr]
      unfold ev at p
      rw [ht j] at p
      generalize vtx a (i % a.length) = x at *
      generalize vtx a (i % a.length + 1) = x' at *
      have id : subP v (sumP x (negP (vtx b (t + j)))) = subP (addP (vtx b (t + j)) v) x := by unfold subP sumP addP negP; simp only [Prod.mk.injEq]; omega
      rwa [id] at p
    · -- the edge of the negatives that this one is
      obtain ⟨j, hj⟩ : ∃ j, ∃ c, t + j = m + b.length * c := by
        refine ⟨m + b.length * t - t, t, ?_⟩
        have : t ≤ b.length * t := Nat.le_mul_of_pos_left t lb
        omega
      obtain ⟨c, hc⟩ := hj
      have vm : ∀ x, vtx b (x + b.length * c) = vtx b x := fun x => by unfold vtx; rw [Nat.add_mul_mod_self_left]
      obtain ⟨k, -, e, g⟩ := passed (a := n) (b := a) (j % n.length) K.length (by
        rw [mst_swap, end'.1]; exact Nat.mod_lt _ ln)
      have p := hin k
      have D := dir_A cn ca (hull_swap h) g
      rw [mpt_cross k v K ca cn h, D.pos, e] at p
      rw [mst_swap] at e
      simp only at e
      rw [e] at p
      generalize (mst a n k).1 = i at *
      refine ⟨vtx a i, ca.vmem i, ?_⟩
      rw [vtx_movedL b v _ lb, vtx_movedL b v _ lb, crossP_xr]
      have q1 : vtx n (j % n.length) = negP (vtx b m) := by rw [vtx_mod, ht j, hc, vm]
      have q2 : vtx n (j % n.length + 1) = negP (vtx b (m + 1)) := by rw [vtx_mod1, ht (j + 1), show t + (j + 1) = m + 1 + b.length * c by omega, vm]
      unfold ev at p
      rw [q1, q2] at p
      generalize vtx b m = y at *
      generalize vtx b (m + 1) = y' at *
      generalize vtx a i = x at *
      have id : xr (subP (addP y' v) (addP y v)) (subP x (addP y v)) = xr (subP (negP y') (negP y)) (subP v (sumP x (negP y))) := by unfold xr subP sumP addP negP; grind
      omega

/-- The other way round, moved back. -/
theorem apart_back {a b : List Pt} {a0 b0 v : Pt} (ca : Conv a a0) (cb : Conv b b0) : apartB b (movedL a (negP v)) = apartB a (movedL b v) := by
  have la : 0 < a.length := by have := ca.three; omega
  have lb : 0 < b.length := by have := cb.three; omega
  have key : ∀ {x y : List Pt} {w : Pt}, 0 < x.length → 0 < y.length → beyondB x (movedL y w) = beyondB (movedL x (negP w)) y := fun {x y w} lx ly => by
    rw [Bool.eq_iff_iff, beyond_iff lx, beyond_iff (by rw [movedL_length]; exact lx)]
    have id : ∀ i z, crossP (vtx (movedL x (negP w)) i) (vtx (movedL x (negP w)) (i + 1)) z = crossP (vtx x i) (vtx x (i + 1)) (addP z w) := fun i z => by
      rw [vtx_movedL x _ _ lx, vtx_movedL x _ _ lx]
      unfold crossP cross addP negP; grind
    constructor
    · rintro ⟨i, hi⟩
      exact ⟨i, fun z hz => by rw [id]; exact hi _ (List.mem_map.2 ⟨z, hz, rfl⟩)⟩
    · rintro ⟨i, hi⟩
      refine ⟨i, fun z hz => ?_⟩
      obtain ⟨u, hu, rfl⟩ := List.mem_map.1 hz
      rw [← id]; exact hi u hu
  unfold apartB
  rw [key la lb, Bool.or_comm]
  congr 1
  have := key (x := b) (y := a) (w := negP v) lb la
  rw [this, negP_negP]

end Go.Proofs.Ytlmdmgbhfoehgaa
