/- Parts of the proof, one after the other: PtsLim, SumDev, NegDev, MinkLaw, HullsSort. -/
import Derived.Test.YtlmdmgbhfoehgaaMk3
import Derived.Test.YtlmdmgbhfoehgaaMk5
import Derived.Test.YtlmdmgbhfoehgaaMk4
import Derived.Test.YtlmdmgbhfoehgaaShelf
/- Shape: the law's points up to a limit, nine at most; the law's hull of them and three more. -/
namespace Go.Proofs.Ytlmdmgbhfoehgaa
open Go.RowKit Go.Sort
attribute [local go_sem ↓] run_min_mn run_max_mx

def tmL (L : Int) (p : Pt) : Pt := (p.1.tmod (L + 1), p.2.tmod (L + 1))
def foldLim (L : Int) (xs : List Pt) : List Pt := xs.map (tmL L)
theorem foldLim_length (L : Int) (xs : List Pt) : (foldLim L xs).length = xs.length := by simp [foldLim]
theorem tmodL_bd {L : Int} (h : 0 ≤ L) (x : Int) : -L ≤ x.tmod (L + 1) ∧ x.tmod (L + 1) ≤ L := by
  have a := Int.tmod_lt_of_pos x (b := L + 1) (by omega)
  have b := Int.lt_tmod_of_pos x (b := L + 1) (by omega)
  omega

set_option maxRecDepth 100000 in
set_option maxHeartbeats 2000000 in
theorem pointsL_any (L : Int) (hL : 1000 ≤ L ∧ L ≤ 10000) (A : Option Addr) (n c : Nat) (xs : List Pt) (w : World) (hn : xs.length = n) (hbig : n ≤ 9223372036854775807) (hx : PtsAt w A xs) (hw : ∀ x ∈ xs, (-9223372036854775808 ≤ x.1 ∧ x.1 ≤ 9223372036854775807) ∧ (-9223372036854775808 ≤ x.2 ∧ x.2 ≤ 9223372036854775807)) :
    Calls Try.prog 42 #[.slice A n c, .int .i64 L, .int .i64 9] w (PointsTo w (foldLim L (xs.take 9))) := by
  have HN := Lib.hid hn
  have HX := Lib.hid hx
  have HW := Lib.hid hw
  clear hn hx hw
  obtain ⟨hL1, hL2⟩ := hL
  have hlim : IntKind.i64.wrap (L + 1) = L + 1 := by rw [IntKind.wrap_i64]; omega
  have hne : ¬ L + 1 = 0 := by omega
  go_enter Try.func42, Try.ntmps42
  go_wp2
  go_loopw [7, 8] (fun o i wr => ∃ k : Nat, k ≤ n ∧ k ≤ 9 ∧ i = .int .i64 k ∧ PtsOwn wr w.heap.size o (foldLim L (xs.take k)) ∧ Below w.heap.size w wr) (fun _ i _ => 9 - (intOf i).toNat)
  case atStart => exact ⟨0, Nat.zero_le _, by omega, rfl, by simpa [foldLim] using PtsOwn.empty w, (Below.refl _ _).alloc (Nat.le_refl _) _⟩
  case round =>
    obtain ⟨k, hk, hk9, rfl, hown, hbr⟩ := hrel
    have HO := Lib.hid hown
    have HB := Lib.hid hbr
    have hsz := hbr.size
    clear hown
    by_cases hlt : k < n ∧ k < 9
    · obtain ⟨hlt, hlt2⟩ := hlt
      have hkl : k < xs.length := by rw [HN.out]; exact hlt
      obtain ⟨b, off, rfl, hb, hin⟩ := HX.out (by intro e; subst e; simp at hkl)
      obtain ⟨h1, h2⟩ := (hin.below hbr hb) k _ (List.getElem?_eq_getElem hkl)
      obtain ⟨⟨d3, d4⟩, d5, d6⟩ := HW.out _ (List.getElem_mem hkl)
      have HNX : Hid (foldLim L (xs.take (k + 1)) = foldLim L (xs.take k) ++ [tmL L xs[k]]) := Lib.hid (by
        rw [List.take_succ_eq_append_getElem hkl]; unfold foldLim; rw [List.map_append]; rfl)
      have HLN : Hid ((foldLim L (xs.take k)).length ≤ 100) := Lib.hid (by rw [foldLim_length, List.length_take]; omega)
      generalize xs[k] = p at *
      generalize foldLim L (xs.take k) = cur at *
      obtain ⟨x, y⟩ := p
      replace d3 : -9223372036854775808 ≤ x := d3
      replace d4 : x ≤ 9223372036854775807 := d4
      replace d5 : -9223372036854775808 ≤ y := d5
      replace d6 : y ≤ 9223372036854775807 := d6
      have ne1 : u7.ownBlock ≠ some b := fun e => by have := (HO.out.base b e).1; omega
      have hB : b < wr.heap.size := by omega
      clear hin
      have l1 : b < (wr.alloc (.cells #[.int .i64 (x.tmod (L + 1)), .int .i64 (y.tmod (L + 1))] 38)).drew.heap.size := by simp; omega
      have k1 : (wr.alloc (.cells #[.int .i64 (x.tmod (L + 1)), .int .i64 (y.tmod (L + 1))] 38)).drew.cell? ⟨b, off + k * 2, none⟩ = some (.int .i64 x) := (World.cell?_alloc_lt wr _ ⟨b, _, none⟩ hB).trans h1
      have k2 : (wr.alloc (.cells #[.int .i64 (x.tmod (L + 1)), .int .i64 (y.tmod (L + 1))] 38)).drew.cell? ⟨b, off + k * 2 + 1, none⟩ = some (.int .i64 y) := (World.cell?_alloc_lt wr _ ⟨b, _, none⟩ hB).trans h2
      have r1 : IntKind.i64.wrap (x.tmod (L + 1)) = x.tmod (L + 1) := by have := tmodL_bd (L := L) (by omega) x; rw [IntKind.wrap_i64]; omega
      have r2 : IntKind.i64.wrap (y.tmod (L + 1)) = y.tmod (L + 1) := by have := tmodL_bd (L := L) (by omega) y; rw [IntKind.wrap_i64]; omega
      go_wp2_with fail
      go_region_held3 (fun w' => w'.cell? ⟨b, off + k * 2, none⟩ = some (.int .i64 x) ∧ w'.cell? ⟨b, off + k * 2 + 1, none⟩ = some (.int .i64 y))
        (first
          | go_keep
          | exact ⟨(hgrow.cell_far _ l1 (Ne.symm ne1)).trans k1, (hgrow.cell_far _ l1 (Ne.symm ne1)).trans k2⟩)
        ((refine step_papp (by rfl) _ _ (by rfl) w.heap.size _ cur [(x.tmod (L + 1), y.tmod (L + 1))] (some ⟨wr.heap.size, 0, none⟩) 1 1 (by rfl) (by rfl) ((HO.out.alloc _).drew) rfl (PtsAt.one wr _ _) (by have := HLN.out; simp; omega) (by simp; omega) ?_; intro v1 w2 hown1 hgrow hat))
      have HO2 : Hid (PtsOwn w2 w.heap.size v1 (foldLim L (xs.take (k + 1)))) := Lib.hid (by rw [HNX.out]; exact hown1)
      have HB2 : Hid (Below w.heap.size w w2) := Lib.hid ((hbr.alloc (by omega) _).drew.grown hgrow (by simp; omega) (fun k hk => (HO.out.base k hk).1))
      clear hown1 hgrow hat k1 k2 l1 r1 r2
      go_wp2_with fail
      go_roundw
      case rel => exact ⟨k + 1, by omega, by omega, by go_num, HO2.out, HB2.out⟩
      case measure => simp [intOf]; omega
    · have HF : Hid (foldLim L (xs.take k) = foldLim L (xs.take 9)) := Lib.hid (by
        rcases Nat.lt_or_ge k 9 with g | g
        · rw [List.take_of_length_le (by rw [HN.out]; omega), List.take_of_length_le (by rw [HN.out]; omega)]
        · rw [show k = 9 by omega])
      by_cases g : k < n
      · have g9 : k = 9 := by omega
        go_wp2_with fail
        go_ret
        exact ⟨_, rfl, by rw [← HF.out]; exact HO.out, HB.out⟩
      · go_wp2_with fail
        go_ret
        exact ⟨_, rfl, by rw [← HF.out]; exact HO.out, HB.out⟩

/-- A polygon that is convex in normal form, of at most twelve corners, with coordinates up to a limit. -/
structure Poly (L : Int) (m : Nat) (H : List Pt) (h0 : Pt) : Prop where
  conv : Conv H h0
  bd : ∀ p ∈ H, (-L ≤ p.1 ∧ p.1 ≤ L) ∧ (-L ≤ p.2 ∧ p.2 ≤ L)
  len : H.length ≤ m

def LawHullTo (L : Int) (w : World) (e : Ending) (w' : World) : Prop :=
  ∃ v H h0, e = .returned v ∧ PtsOwn w' w.heap.size v H ∧ Poly L 12 H h0 ∧ Below w.heap.size w w'

set_option maxRecDepth 100000 in
set_option maxHeartbeats 4000000 in
theorem lawHull_any (L : Int) (hL : 1000 ≤ L ∧ L ≤ 10000) (A : Option Addr) (n c : Nat) (xs : List Pt) (w : World) (hn : xs.length = n) (hbig : n ≤ 9223372036854775807) (hx : PtsAt w A xs) (hw : ∀ x ∈ xs, (-9223372036854775808 ≤ x.1 ∧ x.1 ≤ 9223372036854775807) ∧ (-9223372036854775808 ≤ x.2 ∧ x.2 ≤ 9223372036854775807)) :
    Calls Try.prog 21 #[.slice A n c, .int .i64 L] w (LawHullTo L w) := by
  have K := Lib.hid (pointsL_any L hL A n c xs w hn hbig hx hw)
  have hl0 : (foldLim L (xs.take 9)).length ≤ 9 := by rw [foldLim_length, List.length_take]; omega
  have HBL : Hid (∀ p ∈ foldLim L (xs.take 9), (-L ≤ p.1 ∧ p.1 ≤ L) ∧ (-L ≤ p.2 ∧ p.2 ≤ L)) := Lib.hid fun p hp => by
    unfold foldLim at hp
    obtain ⟨q, _, rfl⟩ := List.mem_map.1 hp
    exact ⟨tmodL_bd (by omega) q.1, tmodL_bd (by omega) q.2⟩
  clear hn hbig hx hw
  generalize foldLim L (xs.take 9) = l0 at *
  go_enter Try.func21, Try.ntmps21
  go_wp2_with fail
  refine (K.out).mono ?_
  rintro e w1 ⟨v, rfl, hown, hb1⟩
  have HO := Lib.hid hown
  have HB1 := Lib.hid hb1
  have hs1 := hb1.size
  clear hown hb1 K
  go_wp2_with (at_builtin; refine wpList_papp rfl _ _ rfl w.heap.size v l0 triL (some ⟨w1.heap.size, 0, none⟩) 3 3 rfl rfl (HO.out.alloc _) rfl (tri_at w1) (by simp [triL]; omega) (by simp; omega) ?_; intro v2 w2 ho hg hat; have HG := Lib.hid hg; have HO2 := Lib.hid ho; clear ho hg hat)
  have hm3 : (l0 ++ triL).length = l0.length + 3 := by simp [triL]
  have t0 : (0, 0) ∈ l0 ++ triL := by simp [triL]
  have t1 : (1, 0) ∈ l0 ++ triL := by simp [triL]
  have t2 : (0, 1) ∈ l0 ++ triL := by simp [triL]
  have HBD : Hid (∀ p ∈ l0 ++ triL, (-L ≤ p.1 ∧ p.1 ≤ L) ∧ (-L ≤ p.2 ∧ p.2 ≤ L)) := Lib.hid fun p hp => by
    rcases List.mem_append.1 hp with h | h
    · exact HBL.out p h
    · simp only [triL, List.mem_cons, List.not_mem_nil, or_false] at h
      rcases h with rfl | rfl | rfl <;> simp only <;> omega
  have HB2 : Hid (Below w.heap.size w w2) := Lib.hid ((HB1.out.alloc hs1 _).grown HG.out (by simp; omega) (fun k hk => (HO.out.base k hk).1))
  clear HO HG HB1 HBL hs1
  generalize l0 ++ triL = l at *
  have hml : l.length ≤ 12 := by omega
  have hml3 : 3 ≤ l.length := by omega
  clear hm3 hl0
  obtain ⟨s, hperm, hsort⟩ := sort_of l
  obtain ⟨h3, s0, hH, hlow⟩ := hull_facts hperm hsort t0 t1 t2
  have hlowto : lowTo l l.length = s0 := by
    have hs0 : s0 ∈ l := by
      have := (hH.edge 0 (by omega)).fst
      rwa [hH.first] at this
    exact leP_anti (low_le hs0) (hlow _ (lowTo_mem (by omega) _ (Nat.le_refl _)))
  have hflat : flatTo l l.length = false := by
    obtain ⟨a, _⟩ := hull_both (by omega) hperm hsort
    cases hf : flatTo l l.length
    · rfl
    · have := a.1 hf; omega
  have HP : Hid (Poly L 12 (hullL s) s0) := Lib.hid ⟨conv_of hH hlow h3, fun p hp => HBD.out p (hull_sub hH hp), Nat.le_trans (hull_length hH) hml⟩
  have hHl := hull_length hH
  have HBd : Hid (∀ x ∈ l, Bd x) := Lib.hid fun x hx => by
    have := HBD.out x hx
    unfold Bd; omega
  generalize hullL s = H at *
  generalize hm : l.length = m at *
  obtain ⟨g, cc, rfl, hcc, hg, hgl, hin⟩ := HO2.out.row hm (by omega)
  have KR := Lib.hid (refHull_any g 0 m cc l H w2 hm (by omega) (by omega) hin hgl HBd.out (fun _ => by rw [hlowto]; exact hH) (by omega))
  have HF := Lib.hid hflat
  have HM := Lib.hid hm
  clear hin HO2 t0 t1 t2 hperm hsort hH hlow hlowto hflat hm h3 HBd HBD
  go_wp2_with fail
  refine (KR.out).mono ?_
  rintro e w3 ⟨hb3, hc⟩
  obtain ⟨v3, rfl, ho3⟩ : ∃ v, e = .returned (.tuple #[v, .bool true]) ∧ PtsOwn w3 w2.heap.size v H := by
    rcases hc with ⟨q, _⟩ | ⟨_, q⟩
    · rw [HM.out, HF.out] at q; cases q
    · exact q
  have HO3 := Lib.hid (ho3.low HB2.out.size)
  have HB3 := Lib.hid (HB2.out.trans (hb3.mono HB2.out.size))
  clear hc hb3 ho3 KR HF HM
  go_wp2_with fail
  go_ret
  exact ⟨v3, H, s0, rfl, HO3.out, HP.out, HB3.out⟩
end Go.Proofs.Ytlmdmgbhfoehgaa

/- Package shape's sum of two convex polygons. -/
namespace Go.Proofs.Ytlmdmgbhfoehgaa
open Go.RowKit Go.Sort
attribute [local go_sem ↓] run_min_mn run_max_mx Go.wp_at_zero Go.wp_at_succ

theorem merged_succ (a b : List Pt) (k : Nat) : merged a b (k + 1) = merged a b k ++ [mpt a b k] := by
  unfold merged; rw [List.range_succ, List.map_append]; rfl
theorem merged_length (a b : List Pt) (k : Nat) : (merged a b k).length = k := by simp [merged]
theorem vtx_gt (l : List Pt) (i : Nat) : gt l (i % l.length) = vtx l i := rfl
theorem PtAt.grown {w w' : World} {b : Nat} {x y : Int} {k : Option Nat} (p : PtAt w b x y) (h : w.grownBy w' k) (hb : b < w.heap.size) (hk : some b ≠ k) : PtAt w' b x y :=
  ⟨(h.cell_far ⟨b, 0, none⟩ hb hk).trans p.1, (h.cell_far ⟨b, 1, none⟩ hb hk).trans p.2⟩
theorem vtx_ok {l : List Pt} (h : l.all okP = true) (i : Nat) : okP (vtx l i) = true := getD_ok h _

def SumTo (K : List Pt) (w : World) (e : Ending) (w' : World) : Prop := ∃ v, e = .returned v ∧ PtsOwn w' w.heap.size v K ∧ Below w.heap.size w w'

set_option maxRecDepth 100000 in
set_option maxHeartbeats 4000000 in
theorem sumD_any (b off n c b' off' m d : Nat) (p q K : List Pt) (p0 q0 : Pt) (w : World) (hl : p.length = n) (hm : q.length = m) (hn' : n ≤ 100) (hm' : m ≤ 100)
    (h : PtsIn w b off p) (hb : b < w.heap.size) (h' : PtsIn w b' off' q) (hb' : b' < w.heap.size) (hok : p.all okP = true) (hok' : q.all okP = true)
    (cp : Conv p p0) (cq : Conv q q0) (hK : Hull (sums p q) K (sumP p0 q0)) (cK : Conv K (sumP p0 q0)) :
    Calls Try.prog 28 #[.slice (some ⟨b, off, none⟩) n c, .slice (some ⟨b', off', none⟩) m d] w (SumTo K w) := by
  obtain ⟨E1, E2, E3⟩ := merge_end cp cq hK cK
  have hKl := sum_len cp cq hK cK
  rw [hl, hm] at hKl E1
  have HE1 := Lib.hid E1
  have HE2 : Hid (∀ k, k ≤ K.length → (mst p q k).1 ≤ n ∧ (mst p q k).2 ≤ m) := Lib.hid (by rw [← hl, ← hm]; exact E2)
  have HE3 : Hid (∀ k, k < K.length → (mst p q k).1 < n ∨ (mst p q k).2 < m) := Lib.hid (by rw [← hl, ← hm]; exact E3)
  have HKM : Hid (merged p q K.length = K) := Lib.hid (merged_hull cp cq hK)
  have HL := Lib.hid hl
  have HM := Lib.hid hm
  have HP := Lib.hid h
  have HQ := Lib.hid h'
  have HOK := Lib.hid hok
  have HOK' := Lib.hid hok'
  have h3 := cp.three
  have h4 := cq.three
  rw [hl] at h3
  rw [hm] at h4
  clear hl hm h h' hok hok' E1 E2 E3 cp cq hK cK
  generalize hN : K.length = N at *
  go_enter Try.func28, Try.ntmps28
  go_wp2
  go_loopw [5, 6, 7] (fun o i j wr => ∃ k : Nat, k ≤ N ∧ i = .int .i64 ((mst p q k).1 : Nat) ∧ j = .int .i64 ((mst p q k).2 : Nat) ∧ PtsOwn wr w.heap.size o (merged p q k) ∧ Below w.heap.size w wr) (fun _ i j _ => (n + m) - ((intOf i).toNat + (intOf j).toNat))
  case atStart => exact ⟨0, Nat.zero_le _, rfl, rfl, PtsOwn.nil _ _, Below.refl _ _⟩
  case round =>
    obtain ⟨k, hk, rfl, rfl, hown, hbw⟩ := hrel
    obtain ⟨hi, hj⟩ := HE2.out k hk
    have HO := Lib.hid hown
    clear hown
    by_cases hlt : k < N
    · have hor := HE3.out k hlt
      have HN : Hid (merged p q (k + 1) = merged p q k ++ [sumP (vtx p (mst p q k).1) (vtx q (mst p q k).2)]) := Lib.hid (merged_succ p q k)
      have hml : (merged p q k).length ≤ 200 := by rw [merged_length]; omega
      have HS : Hid (mst p q (k + 1) = if 0 < xr (ev p (mst p q k).1) (ev q (mst p q k).2) then ((mst p q k).1 + 1, (mst p q k).2) else if xr (ev p (mst p q k).1) (ev q (mst p q k).2) < 0 then ((mst p q k).1, (mst p q k).2 + 1) else ((mst p q k).1 + 1, (mst p q k).2 + 1)) := Lib.hid rfl
      have HB2 := Lib.hid (HE2.out (k + 1) hlt)
      generalize merged p q k = cur at *
      generalize (mst p q k).1 = i at *
      generalize (mst p q k).2 = j at *
      have HPw : Hid (PtsIn wr b off p) := Lib.hid (HP.out.below hbw hb)
      have HQw : Hid (PtsIn wr b' off' q) := Lib.hid (HQ.out.below hbw hb')
      have hB : b < wr.heap.size := Nat.lt_of_lt_of_le hb hbw.size
      have hB' : b' < wr.heap.size := Nat.lt_of_lt_of_le hb' hbw.size
      have N1 := fun W hW => Lib.hid (edge_any b off n c p i W HL.out (by omega) (by omega) (by omega) (HPw.out.below (B := wr.heap.size) hW hB))
      have N2 := fun W hW => Lib.hid (edge_any b' off' m d q j W HM.out (by omega) (by omega) (by omega) (HQw.out.below (B := wr.heap.size) hW hB'))
      have v1 : gt p (i % n) = vtx p i := by rw [← HL.out]; rfl
      have v2 : nx p i = vtx p (i + 1) := rfl
      have v3 : gt q (j % m) = vtx q j := by rw [← HM.out]; rfl
      have v4 : nx q j = vtx q (j + 1) := rfl
      rw [v1, v2] at N1
      rw [v3, v4] at N2
      have ok1 := okP_bd (vtx_ok HOK.out i)
      have ok2 := okP_bd (vtx_ok HOK.out (i + 1))
      have ok3 := okP_bd (vtx_ok HOK'.out j)
      have ok4 := okP_bd (vtx_ok HOK'.out (j + 1))
      have HX : Hid (xr (ev p i) (ev q j) = ((vtx p (i + 1)).1 - (vtx p i).1) * ((vtx q (j + 1)).2 - (vtx q j).2) - ((vtx q (j + 1)).1 - (vtx q j).1) * ((vtx p (i + 1)).2 - (vtx p i).2)) := Lib.hid rfl
      clear v1 v2 v3 v4
      generalize xr (ev p i) (ev q j) = X at *
      generalize vtx p i = a at *
      generalize vtx p (i + 1) = a' at *
      generalize vtx q j = z at *
      generalize vtx q (j + 1) = z' at *
      obtain ⟨a1, a2⟩ := a
      obtain ⟨b1, b2⟩ := a'
      obtain ⟨c1, c2⟩ := z
      obtain ⟨d1, d2⟩ := z'
      simp only at ok1 ok2 ok3 ok4
      have PL := fun W => Lib.hid (plus_any a1 a2 c1 c2 W (by omega) (by omega) (by omega) (by omega))
      have M1 := fun W => Lib.hid (minus_any b1 b2 a1 a2 W (by omega) (by omega) (by omega) (by omega))
      have M2 := fun W => Lib.hid (minus_any d1 d2 c1 c2 W (by omega) (by omega) (by omega) (by omega))
      have CR := fun W => Lib.hid (crossD_any (b1 - a1) (b2 - a2) (d1 - c1) (d2 - c2) W (by omega) (by omega) (by omega) (by omega))
      have HX' : Hid (X = (b1 - a1) * (d2 - c2) - (d1 - c1) * (b2 - a2)) := HX
      rw [← HX'.out] at CR
      have HNE : Hid (∀ x, wr.heap.size ≤ x → ∀ y, u5.ownBlock = some y → y ≠ x) := Lib.hid fun x hx y hy e => by have := (HO.out.base _ hy).2; omega
      clear HX HX' ok1 ok2 ok3 ok4
      by_cases hin : i < n
      all_goals
        try have hjm : j < m := by omega
        go_wp2_with fail
        refine ((N1 _ (Below.refl _ _)).out).mono ?_
        rintro e w1 ⟨rfl, hb1⟩
        go_wp2_with fail
        have B := boxed2 w1 a1 a2 b1 b2
        generalize (w1.alloc (bx a1 a2)).alloc (bx b1 b2) = w2 at *
        obtain ⟨P1, P2, hb2, hz2⟩ := B
        have hbr2 := hb1.trans (hb2.mono hb1.size)
        have hgw : wr.heap.size ≤ w1.heap.size := hb1.size
        generalize w1.heap.size = g at *
        have hg2 : g + 1 < w2.heap.size := by omega
        clear hb2 hz2 N1
        refine ((N2 _ hbr2).out).mono ?_
        rintro e w3 ⟨rfl, hb3⟩
        replace P1 := PtAt.below hb3 (by omega) P1
        replace P2 := PtAt.below hb3 (by omega) P2
        have hbr3 := hbr2.trans (hb3.mono hbr2.size)
        have hg3 : g + 1 < w3.heap.size := by have := hb3.size; omega
        clear hb3 hbr2 hg2 N2
        have B := boxed2 w3 c1 c2 d1 d2
        go_upto_region 6 with (fail)
        generalize (w3.alloc (bx c1 c2)).alloc (bx d1 d2) = w4 at *
        obtain ⟨P3, P4, hb4, hz4⟩ := B
        replace P1 := PtAt.below hb4 (by omega) P1
        replace P2 := PtAt.below hb4 (by omega) P2
        have hbr4 := hbr3.trans (hb4.mono hbr3.size)
        have hgw3 : wr.heap.size ≤ w3.heap.size := hbr3.size
        clear hb4 hbr3
        generalize w3.heap.size = g3 at *
        have hg4 : g3 + 1 < w4.heap.size := by omega
        obtain ⟨p1, p2⟩ := P1
        obtain ⟨p3, p4⟩ := P3
        go_wp2_with fail
        refine ((PL _).out).mono ?_
        rintro e w5 ⟨rfl, hb5⟩
        have P1 := PtAt.below hb5 (by omega) ⟨p1, p2⟩
        have P3 := PtAt.below hb5 (by omega) ⟨p3, p4⟩
        replace P2 := PtAt.below hb5 (by omega) P2
        replace P4 := PtAt.below hb5 (by omega) P4
        have hbr5 := hbr4.trans (hb5.mono hbr4.size)
        have hg5 : g + 1 < w5.heap.size ∧ g3 + 1 < w5.heap.size := by have := hb5.size; omega
        clear p1 p2 p3 p4 hb5 hbr4 PL
        have O5 := Lib.hid (HO.out.belows hbr5 (Nat.le_refl _))
        have hA1 : cur.length + [(a1 + c1, a2 + c2)].length ≤ 100000 := by simp; omega
        have hA2 : w.heap.size ≤ (w5.alloc (bx (a1 + c1) (a2 + c2))).heap.size := by rw [World.size_alloc]; have := hbr5.size; have := hbw.size; omega
        have A1 := P1.alloc (bx (a1 + c1) (a2 + c2)) (by omega)
        have A2 := P2.alloc (bx (a1 + c1) (a2 + c2)) (by omega)
        have A3 := P3.alloc (bx (a1 + c1) (a2 + c2)) (by omega)
        have A4 := P4.alloc (bx (a1 + c1) (a2 + c2)) (by omega)
        have hz5 : (w5.alloc (bx (a1 + c1) (a2 + c2))).heap.size = w5.heap.size + 1 := by rw [World.size_alloc]
        have HBW5 := Lib.hid ((hbw.trans (hbr5.mono hbw.size)).alloc (by have := hbr5.size; have := hbw.size; omega) (bx (a1 + c1) (a2 + c2)))
        go_wp2_with (at_builtin; refine wpList_papp rfl (.tmp 35) (.tmp 39) rfl w.heap.size _ cur [(a1 + c1, a2 + c2)] (some ⟨w5.heap.size, 0, none⟩) 1 1 rfl rfl (O5.out.alloc _) rfl (PtsAt.one w5 (a1 + c1) (a2 + c2)) hA1 hA2 ?_; intro v1 w6 ho hg hat; have HO6 := Lib.hid ho; have HG6 := Lib.hid hg; clear ho hg hat)
        generalize w5.alloc (bx (a1 + c1) (a2 + c2)) = w5' at *
        have q1 := A1.grown HG6.out (by omega) (fun e => HNE.out g (by omega) _ e.symm rfl)
        have q2 := A2.grown HG6.out (by omega) (fun e => HNE.out (g + 1) (by omega) _ e.symm rfl)
        have q3 := A3.grown HG6.out (by omega) (fun e => HNE.out g3 (by omega) _ e.symm rfl)
        have q4 := A4.grown HG6.out (by omega) (fun e => HNE.out (g3 + 1) (by omega) _ e.symm rfl)
        have HB6 : Hid (Below w.heap.size w w6) := Lib.hid (HBW5.out.grown HG6.out hA2 (fun k hk => (O5.out.base k hk).1))
        obtain ⟨p1, p2⟩ := q1
        obtain ⟨p3, p4⟩ := q2
        obtain ⟨p5, p6⟩ := q3
        obtain ⟨p7, p8⟩ := q4
        have K1 := fun d os => Lib.hid (Calls.regrown_of ((M1 (grow (redrawn w6 d) os)).out))
        have K2 := fun d os => Lib.hid (Calls.regrown_of ((M2 (grow (redrawn w6 d) os)).out))
        have K3 := fun d os => Lib.hid (Calls.regrown_of ((CR (grow (redrawn w6 d) os)).out))
        have t1 := cell_regrown p1
        have t2 := cell_regrown p2
        have t3 := cell_regrown p3
        have t4 := cell_regrown p4
        have t5 := cell_regrown p5
        have t6 := cell_regrown p6
        have t7 := cell_regrown p7
        have t8 := cell_regrown p8
        clear p1 p2 p3 p4 p5 p6 p7 p8 A1 A2 A3 A4 P1 P2 P3 P4 M1 M2 CR HG6 O5 HBW5 hbr5 hA1 hA2
        go_wp2_with fail
        refine wp_region_quiet_below (by kernel_rfl) (by kernel_rfl) ?_
        repeat (go_big_quiet_step (first | (with_reducible exact (K1 _ _).out) | (with_reducible exact (K2 _ _).out) | (with_reducible exact (K3 _ _).out)))
        refine wpQuiet_nil ?_
        intro _ hw'
        obtain ⟨⟨dq, osq⟩, hw''⟩ := hw'
        subst hw''
        have hbq := below_regrown w6 dq osq
        have HB7 := Lib.hid (HB6.out.trans (hbq.mono HB6.out.size))
        have HO7 : Hid (PtsOwn (grow (redrawn w6 dq) osq) w.heap.size v1 (merged p q (k + 1))) := Lib.hid (by rw [HN.out]; exact HO6.out.belows hbq (Nat.le_refl _))
        clear hbq t1 t2 t3 t4 t5 t6 t7 t8 K1 K2 K3
        generalize grow (redrawn w6 dq) osq = w7 at *
        rcases Int.lt_trichotomy X 0 with hX | hX | hX
        · have e : mst p q (k + 1) = (i, j + 1) := by rw [HS.out, if_neg (by omega), if_pos hX]
          have hbd := HB2.out
          rw [e] at hbd
          first
            | (exfalso; omega)
            | (go_wp2_with fail
               go_roundw
               case rel => exact ⟨k + 1, by omega, by rw [e], by rw [e]; go_num, HO7.out, HB7.out⟩
               case measure => simp [intOf]; omega)
        · have e : mst p q (k + 1) = (i + 1, j + 1) := by rw [HS.out, if_neg (by omega), if_neg (by omega)]
          have hbd := HB2.out
          rw [e] at hbd
          first
            | (exfalso; omega)
            | (go_wp2_with fail
               go_roundw
               case rel => exact ⟨k + 1, by omega, by rw [e]; go_num, by rw [e]; go_num, HO7.out, HB7.out⟩
               case measure => simp [intOf]; omega)
        · have e : mst p q (k + 1) = (i + 1, j) := by rw [HS.out, if_pos hX]
          have hbd := HB2.out
          rw [e] at hbd
          first
            | (exfalso; omega)
            | (go_wp2_with fail
               go_roundw
               case rel => exact ⟨k + 1, by omega, by rw [e]; go_num, by rw [e], HO7.out, HB7.out⟩
               case measure => simp [intOf]; omega)
    · obtain rfl : k = N := by omega
      have e1 : (mst p q k).1 = n := by rw [HE1.out]
      have e2 : (mst p q k).2 = m := by rw [HE1.out]
      rw [e1, e2]
      rw [HKM.out] at HO
      go_wp2_with fail
      go_ret
      exact ⟨_, rfl, HO.out, hbw⟩
end Go.Proofs.Ytlmdmgbhfoehgaa

/- Package shape's Sum, negative and Negative. -/
namespace Go.Proofs.Ytlmdmgbhfoehgaa
open Go.RowKit Go.Sort
attribute [local go_sem ↓] run_min_mn run_max_mx Go.wp_at_zero Go.wp_at_succ

theorem conv_conE {a : List Pt} {a0 : Pt} (ca : Conv a a0) (hok : a.all okP = true) (hlen : a.length ≤ 32) : conE a = 0 := by
  have h1 : polyB a = true := by
    unfold polyB
    rw [Bool.and_eq_true]
    have := ca.three
    exact ⟨hok, by rw [inB_true]; omega⟩
  have h2 : convexB a = true := hull_convex ca.hull ca.three ca.low
  unfold conE
  rw [h1, h2]; rfl

def SumXTo (K : List Pt) (w : World) (e : Ending) (w' : World) : Prop := ∃ v, e = .returned (.tuple #[v, .int .i64 0]) ∧ PtsOwn w' w.heap.size v K ∧ Below w.heap.size w w'

set_option maxRecDepth 100000 in
set_option maxHeartbeats 2000000 in
theorem sumX_any (A : Option Addr) (n c : Nat) (A' : Option Addr) (m d : Nat) (p q K : List Pt) (p0 q0 : Pt) (w : World) (hl : p.length = n) (hm : q.length = m) (hn' : n ≤ 32) (hm' : m ≤ 32)
    (hx : PtsAt w A p) (hy : PtsAt w A' q) (hok : p.all okP = true) (hok' : q.all okP = true)
    (cp : Conv p p0) (cq : Conv q q0) (hK : Hull (sums p q) K (sumP p0 q0)) (cK : Conv K (sumP p0 q0)) :
    Calls Try.prog 9 #[.slice A n c, .slice A' m d] w (SumXTo K w) := by
  have hb1 : Below w.heap.size w (w.alloc (.cells #[.slice A n c, .slice A' m d] 22)) := (Below.refl _ _).alloc (Nat.le_refl _) _
  have hP : PolysIn (w.alloc (.cells #[.slice A n c, .slice A' m d] 22)) w.heap.size 0 [p, q] := by
    intro i l hi
    match i, hi with
    | 0, hi =>
      obtain rfl : p = l := by simpa using hi
      exact ⟨A, n, c, by simp [World.cell?_alloc_new], hl, by omega, hx.below hb1⟩
    | 1, hi =>
      obtain rfl : q = l := by simpa using hi
      exact ⟨A', m, d, by simp [World.cell?_alloc_new], hm, by omega, hy.below hb1⟩
  have K1 := Lib.hid (checkConvex_any w.heap.size 0 2 2 [p, q] _ rfl (by omega) hP (by simp))
  have h0 : convsE [p, q] = 0 := by rw [convs_two, if_pos (conv_conE cp hok (by omega)), conv_conE cq hok' (by omega)]
  rw [h0] at K1
  obtain ⟨b1, o1, rfl, g1, g2⟩ := hx (by intro e; have := cp.three; rw [e] at this; simp at this)
  obtain ⟨b2, o2, rfl, f1, f2⟩ := hy (by intro e; have := cq.three; rw [e] at this; simp at this)
  have KS := fun W (hW : Below w.heap.size w W) => Lib.hid (sumD_any b1 o1 n c b2 o2 m d p q K p0 q0 W hl hm (by omega) (by omega) (g2.below hW g1) (Nat.lt_of_lt_of_le g1 hW.size) (f2.below hW f1) (Nat.lt_of_lt_of_le f1 hW.size) hok hok' cp cq hK cK)
  have HB1 := Lib.hid hb1
  clear hx hy hP h0 g2 f2 hl hm hok hok' cp cq hK cK hb1
  go_enter Try.func9, Try.ntmps9
  go_wp2_with fail
  refine (K1.out).mono ?_
  rintro e w1 ⟨rfl, hb2⟩
  have hbw1 := HB1.out.trans (hb2.mono HB1.out.size)
  clear hb2
  go_wp2_with fail
  refine ((KS _ hbw1).out).mono ?_
  rintro e w2 ⟨v, rfl, ho, hb3⟩
  have HO := Lib.hid (ho.low hbw1.size)
  have HB := Lib.hid (hbw1.trans (hb3.mono hbw1.size))
  clear ho hb3
  go_wp2_with fail
  go_ret2
  exact ⟨v, rfl, HO.out, HB.out⟩

theorem negP_zero (p : Pt) : negP p = (0 - p.1, 0 - p.2) := by unfold negP; simp
theorem negL_F (l : List Pt) : l.map negP = ptF l.length fun i => negP (gt l i) := by
  apply List.ext_getElem
  · simp [ptF]
  · intro i h1 h2
    have : i < l.length := by simpa using h1
    simp [ptF, gt, List.getD, this]

set_option maxRecDepth 100000 in
set_option maxHeartbeats 4000000 in
theorem negative_any (hS : SortsPts) (hR : ReversesPts) (b off n c : Nat) (l : List Pt) (w : World) (hl : l.length = n) (hn : 0 < n) (hn' : n ≤ 100) (h : PtsIn w b off l) (hb : b < w.heap.size) (hok : l.all okP = true) :
    Calls Try.prog 29 #[.slice (some ⟨b, off, none⟩) n c] w (HullTo (l.map negP) w) := by
  have HL := Lib.hid hl
  have HP := Lib.hid h
  have HOK := Lib.hid hok
  have hmk := make_pts n (by omega)
  have HM : Hid (l.map negP = ptF n fun i => negP (gt l i)) := Lib.hid (by rw [← hl]; exact negL_F l)
  have HBD : Hid (∀ x ∈ l.map negP, Bd x) := Lib.hid fun x hx => by
    obtain ⟨p, hp, rfl⟩ := List.mem_map.1 hx
    obtain ⟨h1, h2⟩ := okP_bd (List.all_eq_true.1 hok p hp)
    unfold Bd negP; simp only; omega
  clear hl h hok
  go_enter Try.func29, Try.ntmps29
  go_wp2_with fail
  have R0 : PtBlk (w.alloc (.cells (ptsV (ptF n fun _ => (0, 0))).toArray 38)) w.heap.size (ptF n fun _ => (0, 0)) := heap_alloc_new _ _
  have hb1 : Below w.heap.size w (w.alloc (.cells (ptsV (ptF n fun _ => (0, 0))).toArray 38)) := (Below.refl _ _).alloc (Nat.le_refl _) _
  have hz1 : (w.alloc (.cells (ptsV (ptF n fun _ => (0, 0))).toArray 38)).heap.size = w.heap.size + 1 := by simp
  generalize w.alloc (.cells (ptsV (ptF n fun _ => (0, 0))).toArray 38) = w1 at *
  generalize hgg : w.heap.size = gg at *
  clear hmk
  go_loopw [11] (fun i wr => ∃ k : Nat, k ≤ n ∧ i = .int .i64 k ∧ PtBlk wr gg (ptF n fun u => if u < k then negP (gt l u) else (0, 0)) ∧ Below gg w wr ∧ gg + 1 ≤ wr.heap.size) (fun i _ => n - (intOf i).toNat)
  case atStart => exact ⟨0, Nat.zero_le _, rfl, by simpa using R0, hb1, by omega⟩
  case round =>
    clear R0 hb1
    obtain ⟨k, hk, rfl, hR', hbw, hgr⟩ := hrel
    have HR := Lib.hid hR'
    clear hR'
    by_cases hlt : k < n
    · obtain ⟨h1, h2⟩ := (HP.out.below hbw hb) k (gt l k) (by unfold gt; rw [List.getD_eq_getElem?_getD, List.getElem?_eq_getElem (by rw [HL.out]; exact hlt)]; rfl)
      have hB : b < wr.heap.size := by omega
      have hg1 : gg < wr.heap.size := by omega
      have d := okP_bd (getD_ok HOK.out k)
      rw [show l.getD k (0, 0) = gt l k from rfl] at d
      have HN : Hid (∀ W, PtBlk W gg ((ptF n fun u => if u < k then negP (gt l u) else (0, 0)).set k (-(gt l k).1, -(gt l k).2)) → PtBlk W gg (ptF n fun u => if u < k + 1 then negP (gt l u) else (0, 0))) := Lib.hid fun W hW => by
        rw [show (-(gt l k).1, -(gt l k).2) = negP (gt l k) from rfl, ptF_set] at hW
        rw [ptF_congr (g := fun u => if u = k then negP (gt l k) else if u < k then negP (gt l u) else (0, 0))]
        · exact hW
        · intro i hi
          by_cases e : i = k
          · subst e; simp
          · rw [if_neg e]
            by_cases e2 : i < k
            · rw [if_pos e2, if_pos (by omega)]
            · rw [if_neg e2, if_neg (by omega)]
      generalize hp : gt l k = p at *
      obtain ⟨x, y⟩ := p
      simp only at d
      have PL := fun W => Lib.hid (minus_any 0 0 x y W (by omega) (by omega) (by omega) (by omega))
      clear hp d
      go_wp2_with fail
      have hb1 : Below wr.heap.size wr (wr.alloc (bx x y)) := (Below.refl _ _).alloc (Nat.le_refl _) _
      refine ((PL _).out).mono ?_
      rintro e w2 ⟨rfl, hb2⟩
      have hb3 := hb1.trans (hb2.mono hb1.size)
      have hbw3 := hbw.trans (hb3.mono (by omega))
      have R2 := HR.out.below hb3 (by omega)
      obtain ⟨c1, c2⟩ := R2.cell (i := k) (ptF_get hlt)
      have f1 := R2.frozen (k * 2)
      have f2 := R2.frozen (k * 2 + 1)
      have hsz := hb3.size
      have HR2 := Lib.hid R2
      clear hb1 hb2 R2
      go_wp2_with fail
      go_roundw
      case rel => exact ⟨k + 1, by omega, by go_num, HN.out _ (HR2.out.set k _ _), (hbw3.setCell (by simp) _).setCell (by simp) _, by simp; omega⟩
      case measure => simp [intOf]; omega
    · obtain rfl : k = n := by omega
      have HF : Hid (PtBlk wr gg (l.map negP)) := Lib.hid (by
        rw [HM.out]
        have := HR.out
        rw [ptF_congr (g := fun i => negP (gt l i)) (fun i hi => by rw [if_pos hi])] at this
        exact this)
      have KH := Lib.hid (hull_any hS hR gg 0 k k (l.map negP) wr (by rw [List.length_map]; exact HL.out) hn hn' HF.out.pts (by omega) HBD.out)
      have HBW := Lib.hid hbw
      clear hbw HR
      go_wp2_with fail
      refine (KH.out).mono ?_
      rintro e w2 ⟨s, v, hp, hs, rfl, ho, hb2⟩
      have HS2 : Hid (s.Perm (l.map negP) ∧ s.Pairwise leP) := Lib.hid ⟨hp, hs⟩
      have HO := Lib.hid (ho.low (show gg ≤ _ by omega))
      have HB2 := Lib.hid (HBW.out.trans (hb2.mono (by omega)))
      clear hp hs ho hb2
      go_wp2_with fail
      go_ret
      exact ⟨s, v, HS2.out.1, HS2.out.2, rfl, by rw [hgg]; exact HO.out, by rw [hgg]; exact HB2.out⟩

/-- What Negative leaves: the corners' negatives, in the order of a hull. -/
def NegTo (a : List Pt) (w : World) (e : Ending) (w' : World) : Prop :=
  ∃ s v, s.Perm (a.map negP) ∧ s.Pairwise leP ∧ e = .returned (.tuple #[v, .int .i64 0]) ∧ PtsOwn w' w.heap.size v (hullL s) ∧ Below w.heap.size w w'

set_option maxRecDepth 100000 in
set_option maxHeartbeats 2000000 in
theorem negX_any (hS : SortsPts) (hR : ReversesPts) (A : Option Addr) (n c : Nat) (p : List Pt) (p0 : Pt) (w : World) (hl : p.length = n) (hn' : n ≤ 32)
    (hx : PtsAt w A p) (hok : p.all okP = true) (cp : Conv p p0) :
    Calls Try.prog 10 #[.slice A n c] w (NegTo p w) := by
  have hb1 : Below w.heap.size w (w.alloc (.cells #[.slice A n c] 22)) := (Below.refl _ _).alloc (Nat.le_refl _) _
  have hP : PolysIn (w.alloc (.cells #[.slice A n c] 22)) w.heap.size 0 [p] := by
    intro i l hi
    match i, hi with
    | 0, hi =>
      obtain rfl : p = l := by simpa using hi
      exact ⟨A, n, c, by simp [World.cell?_alloc_new], hl, by omega, hx.below hb1⟩
  have K1 := Lib.hid (checkConvex_any w.heap.size 0 1 1 [p] _ rfl (by omega) hP (by simp))
  have h0 : convsE [p] = 0 := by
    show (if conE p = 0 then 0 else conE p) = 0
    rw [if_pos (conv_conE cp hok (by omega))]
  rw [h0] at K1
  have h3 := cp.three
  obtain ⟨b1, o1, rfl, g1, g2⟩ := hx (by intro e; rw [e] at h3; simp at h3)
  have KS := fun W (hW : Below w.heap.size w W) => Lib.hid (negative_any hS hR b1 o1 n c p W hl (by omega) (by omega) (g2.below hW g1) (Nat.lt_of_lt_of_le g1 hW.size) hok)
  have HB1 := Lib.hid hb1
  clear hx hP h0 g2 hl hok cp hb1
  go_enter Try.func10, Try.ntmps10
  go_wp2_with fail
  refine (K1.out).mono ?_
  rintro e w1 ⟨rfl, hb2⟩
  have hbw1 := HB1.out.trans (hb2.mono HB1.out.size)
  clear hb2
  go_wp2_with fail
  refine ((KS _ hbw1).out).mono ?_
  rintro e w2 ⟨s, v, hp, hs, rfl, ho, hb3⟩
  have HS2 : Hid (s.Perm (p.map negP) ∧ s.Pairwise leP) := Lib.hid ⟨hp, hs⟩
  have HO := Lib.hid (ho.low hbw1.size)
  have HB := Lib.hid (hbw1.trans (hb3.mono hbw1.size))
  clear ho hb3 hp hs
  go_wp2_with fail
  go_ret2
  exact ⟨s, v, HS2.out.1, HS2.out.2, rfl, HO.out, HB.out⟩
end Go.Proofs.Ytlmdmgbhfoehgaa

/- ShapeMinkowski: the law's walk. -/
namespace Go.Proofs.Ytlmdmgbhfoehgaa
open Go.RowKit Go.Sort

theorem ok_of_bd {L : Int} (hL : L ≤ 10000) {H : List Pt} (h : ∀ p ∈ H, (-L ≤ p.1 ∧ p.1 ≤ L) ∧ (-L ≤ p.2 ∧ p.2 ≤ L)) : H.all okP = true := List.all_eq_true.2 fun p hp => by
  have := h p hp
  unfold okP validB
  simp only [inB]
  simp
  omega
theorem bd_sums {L M : Int} {a b K : List Pt} {k0 : Pt} (ha : ∀ p ∈ a, (-L ≤ p.1 ∧ p.1 ≤ L) ∧ (-L ≤ p.2 ∧ p.2 ≤ L)) (hb : ∀ p ∈ b, (-M ≤ p.1 ∧ p.1 ≤ M) ∧ (-M ≤ p.2 ∧ p.2 ≤ M)) (h : Hull (sums a b) K k0) :
    ∀ p ∈ K, (-(L + M) ≤ p.1 ∧ p.1 ≤ L + M) ∧ (-(L + M) ≤ p.2 ∧ p.2 ≤ L + M) := fun p hp => by
  obtain ⟨x, hx, y, hy, rfl⟩ := mem_sums.1 (hull_sub h hp)
  have h1 := ha x hx
  have h2 := hb y hy
  unfold sumP
  simp only
  omega
theorem conv_polyB {a : List Pt} {a0 : Pt} (ca : Conv a a0) (hok : a.all okP = true) (hlen : a.length ≤ 32) : polyB a = true := by
  unfold polyB
  rw [Bool.and_eq_true]
  have := ca.three
  exact ⟨hok, by rw [inB_true]; omega⟩
theorem area2_bd {a : List Pt} (hok : a.all okP = true) (hlen : a.length ≤ 12) : -2400000000 ≤ area2 a ∧ area2 a ≤ 2400000000 := by
  have h := area2To_bd hok a.length
  have e : area2To a a.length = area2 a := rfl
  rw [e] at h
  omega

set_option maxHeartbeats 8000000 in
set_option maxRecDepth 100000 in
theorem minkowski_law (hS : SortsPts) (hR : ReversesPts) (A0 : Option Addr) (n0 c0 : Nat) (xs0 : List Pt) (A1 : Option Addr) (n1 c1 : Nat) (xs1 : List Pt) (A2 : Option Addr) (n2 c2 : Nat) (xs2 : List Pt) (w : World)
    (hn0 : xs0.length = n0) (hbig0 : n0 ≤ 9223372036854775807) (hw0 : ∀ x ∈ xs0, (-9223372036854775808 ≤ x.1 ∧ x.1 ≤ 9223372036854775807) ∧ (-9223372036854775808 ≤ x.2 ∧ x.2 ≤ 9223372036854775807)) (hx0 : PtsAt w A0 xs0)
    (hn1 : xs1.length = n1) (hbig1 : n1 ≤ 9223372036854775807) (hw1 : ∀ x ∈ xs1, (-9223372036854775808 ≤ x.1 ∧ x.1 ≤ 9223372036854775807) ∧ (-9223372036854775808 ≤ x.2 ∧ x.2 ≤ 9223372036854775807)) (hx1 : PtsAt w A1 xs1)
    (hn2 : xs2.length = n2) (hbig2 : n2 ≤ 9223372036854775807) (hw2 : ∀ x ∈ xs2, (-9223372036854775808 ≤ x.1 ∧ x.1 ≤ 9223372036854775807) ∧ (-9223372036854775808 ≤ x.2 ∧ x.2 ≤ 9223372036854775807)) (hx2 : PtsAt w A2 xs2) :
    Calls Try.prog 6 #[.slice A0 n0 c0, .slice A1 n1 c1, .slice A2 n2 c2] w fun e w' => e = .returned (.bool true) ∧ Below w.heap.size w w' := by
  have K0 := Lib.hid (lawHull_any 3000 ⟨by omega, by omega⟩ A0 n0 c0 xs0 w hn0 hbig0 hx0 hw0)
  have K1 := fun W (hW : Below w.heap.size w W) => Lib.hid (lawHull_any 3000 ⟨by omega, by omega⟩ A1 n1 c1 xs1 W hn1 hbig1 (hx1.below hW) hw1)
  have K2 := fun W (hW : Below w.heap.size w W) => Lib.hid (lawHull_any 3000 ⟨by omega, by omega⟩ A2 n2 c2 xs2 W hn2 hbig2 (hx2.below hW) hw2)
  have LV := fun W => Lib.hid (lives4_any W)
  clear hn0 hbig0 hw0 hx0 hn1 hbig1 hw1 hx1 hn2 hbig2 hw2 hx2
  go_enter Try.func6, Try.ntmps6
  go_wp2_with fail
  refine (K0.out).mono ?_
  rintro e w1 ⟨va, a, a0, rfl, hoa, PA, hb1⟩
  clear K0
  go_wp2_with fail
  refine ((K1 _ hb1).out).mono ?_
  rintro e w2 ⟨vb, b, b0, rfl, hob, PB, hb2⟩
  have hbw2 := hb1.trans (hb2.mono hb1.size)
  clear K1
  go_wp2_with fail
  refine ((K2 _ hbw2).out).mono ?_
  rintro e w3 ⟨vc, c, c0', rfl, hoc, PC, hb3⟩
  have HB3 := Lib.hid (hbw2.trans (hb3.mono hbw2.size))
  clear K2
  obtain ⟨ga, ca, rfl, -, aa⟩ := hoa.slice_n (n := a.length) rfl
  obtain ⟨gb, cb, rfl, -, ab⟩ := hob.slice_n (n := b.length) rfl
  obtain ⟨gc, cc, rfl, -, ac⟩ := hoc.slice_n (n := c.length) rfl
  have Ha := Lib.hid ((aa.below hb2).below hb3)
  have Hb := Lib.hid (ab.below hb3)
  have Hc := Lib.hid ac
  clear hoa hob hoc aa ab ac hb1 hb2 hb3 hbw2
  -- what the sums are
  obtain ⟨AB, hAB, cAB⟩ := conv_sums PA.conv PB.conv
  obtain ⟨BC, hBC, cBC⟩ := conv_sums PB.conv PC.conv
  have hBA := hull_swap hAB
  have cBA : Conv AB (sumP b0 a0) := by rw [sumP_comm]; exact cAB
  obtain ⟨X, hX, cX⟩ := conv_sums cAB PC.conv
  obtain ⟨Y, hY, cY⟩ := conv_sums PA.conv cBC
  have eXY := sum_assoc PA.conv PB.conv PC.conv hAB cAB hBC cBC hX hY
  obtain ⟨D, hD, cD⟩ := conv_sums PA.conv PA.conv
  have eD : area2 D = 4 * area2 a := by rw [sum_self PA.conv hD cD, area2_dbl]
  have la := PA.len
  have lb := PB.len
  have lc := PC.len
  have lab : AB.length ≤ 24 := by have := sum_len PA.conv PB.conv hAB cAB; omega
  have lbc : BC.length ≤ 24 := by have := sum_len PB.conv PC.conv hBC cBC; omega
  have lX : X.length ≤ 36 := by have := sum_len cAB PC.conv hX cX; omega
  have lD : D.length ≤ 24 := by have := sum_len PA.conv PA.conv hD cD; omega
  have oa := ok_of_bd (by omega) PA.bd
  have ob := ok_of_bd (by omega) PB.bd
  have oc := ok_of_bd (by omega) PC.bd
  have oab := ok_of_bd (by omega) (bd_sums PA.bd PB.bd hAB)
  have obc := ok_of_bd (by omega) (bd_sums PB.bd PC.bd hBC)
  have oD := ok_of_bd (by omega) (bd_sums PA.bd PA.bd hD)
  subst eXY
  have KAB := fun W h h' => Lib.hid (sumX_any ga a.length ca gb b.length cb a b AB a0 b0 W rfl rfl (by omega) (by omega) h h' oa ob PA.conv PB.conv hAB cAB)
  have KBA := fun W h h' => Lib.hid (sumX_any gb b.length cb ga a.length ca b a AB b0 a0 W rfl rfl (by omega) (by omega) h h' ob oa PB.conv PA.conv hBA cBA)
  have KBC := fun W h h' => Lib.hid (sumX_any gb b.length cb gc c.length cc b c BC b0 c0' W rfl rfl (by omega) (by omega) h h' ob oc PB.conv PC.conv hBC cBC)
  have KL := fun g k W h h' => Lib.hid (sumX_any g AB.length k gc c.length cc AB c X _ c0' W rfl rfl (by omega) (by omega) h h' oab oc cAB PC.conv hX cX)
  have KR := fun g k W h h' => Lib.hid (sumX_any ga a.length ca g BC.length k a BC X a0 _ W rfl rfl (by omega) (by omega) h h' oa obc PA.conv cBC hY cY)
  have KD := fun W h h' => Lib.hid (sumX_any ga a.length ca ga a.length ca a a D a0 a0 W rfl rfl (by omega) (by omega) h h' oa oa PA.conv PA.conv hD cD)
  have KN := fun W h => Lib.hid (negX_any hS hR ga a.length ca a a0 W rfl (by omega) h oa PA.conv)
  have NEG : Hid (∀ s, s.Perm (a.map negP) → s.Pairwise leP → (hullL s).length ≤ 12 ∧ ∃ k0, Hull (a.map negP) (hullL s) k0 ∧ Conv (hullL s) k0 ∧ (hullL s).all okP = true) := Lib.hid fun s h1 h2 => by
    obtain ⟨k0, h3, h4, h5⟩ := neg_conv PA.conv h1 h2
    refine ⟨by omega, k0, h3, h4, ok_of_bd (L := 3000) (by omega) fun p hp => ?_⟩
    obtain ⟨q, hq, rfl⟩ := List.mem_map.1 (hull_sub h3 hp)
    have := PA.bd q hq
    unfold negP
    simp only
    omega
  have CONVA := Lib.hid PA.conv
  have ea : area2X a = area2 a := by unfold area2X; rw [conv_polyB PA.conv oa (by omega)]; rfl
  have ea' : errX a = 0 := by unfold errX; rw [conv_polyB PA.conv oa (by omega)]; rfl
  have eD1 : area2X D = 4 * area2 a := by unfold area2X; rw [conv_polyB cD oD (by omega), ← eD]; rfl
  have eD2 : errX D = 0 := by unfold errX; rw [conv_polyB cD oD (by omega)]; rfl
  have bA := area2_bd oa la
  have KA := fun W h => Lib.hid (area2X_any ga a.length ca a W rfl (by omega) h)
  have KDA := fun g k W h => Lib.hid (area2X_any g D.length k D W rfl (by omega) h)
  rw [ea, ea'] at KA
  rw [eD1, eD2] at KDA
  have SAB := fun g k g' k' W h h' => Lib.hid (same_any g g' AB.length AB.length k k' AB AB W rfl (by omega) h rfl (by omega) h')
  have SX := fun g k g' k' W h h' => Lib.hid (same_any g g' X.length X.length k k' X X W rfl (by omega) h rfl (by omega) h')
  have SA := fun g k g' k' W h h' => Lib.hid (same_any g g' a.length a.length k k' a a W rfl (by omega) h rfl (by omega) h')
  rw [decide_eq_true rfl] at SAB SX SA
  have la3 := PA.conv.three
  clear PA PB PC hAB cAB hBC cBC hBA cBA hX cX hY cY hD cD eD oa ob oc oab obc oD ea ea' eD1 eD2
  generalize area2 a = ar at *
  go_wp2_with fail
  refine ((KAB _ Ha.out Hb.out).out).mono ?_
  rintro e w4 ⟨v, rfl, ho, hb⟩
  have HB4 := Lib.hid (HB3.out.trans (hb.mono HB3.out.size))
  replace Ha := Lib.hid (Ha.out.below hb)
  replace Hb := Lib.hid (Hb.out.below hb)
  replace Hc := Lib.hid (Hc.out.below hb)
  obtain ⟨g1, k1, rfl, -, at1⟩ := ho.slice_n (n := AB.length) rfl
  have H1 := Lib.hid at1
  clear ho at1
  clear hb HB3
  go_wp2_with fail
  refine ((KBA _ Hb.out Ha.out).out).mono ?_
  rintro e w5 ⟨v, rfl, ho, hb⟩
  have HB5 := Lib.hid (HB4.out.trans (hb.mono HB4.out.size))
  replace Ha := Lib.hid (Ha.out.below hb)
  replace Hb := Lib.hid (Hb.out.below hb)
  replace Hc := Lib.hid (Hc.out.below hb)
  replace H1 := Lib.hid (H1.out.below hb)
  obtain ⟨g2, k2, rfl, -, at2⟩ := ho.slice_n (n := AB.length) rfl
  have H2 := Lib.hid at2
  clear ho at2
  clear hb HB4
  go_wp2_with fail
  refine ((KBC _ Hb.out Hc.out).out).mono ?_
  rintro e w6 ⟨v, rfl, ho, hb⟩
  have HB6 := Lib.hid (HB5.out.trans (hb.mono HB5.out.size))
  replace Ha := Lib.hid (Ha.out.below hb)
  replace Hb := Lib.hid (Hb.out.below hb)
  replace Hc := Lib.hid (Hc.out.below hb)
  replace H1 := Lib.hid (H1.out.below hb)
  replace H2 := Lib.hid (H2.out.below hb)
  obtain ⟨g3, k3, rfl, -, at3⟩ := ho.slice_n (n := BC.length) rfl
  have H3 := Lib.hid at3
  clear ho at3
  clear hb HB5
  have q1 : ¬ 32 < AB.length := by omega
  have q2 : ¬ 32 < BC.length := by omega
  generalize hlab : AB.length = nab at *
  generalize hlbc : BC.length = nbc at *
  go_wp2_with fail
  refine ((SAB _ _ _ _ _ H1.out H2.out).out).mono ?_
  rintro e w7 ⟨rfl, hb⟩
  have HB7 := Lib.hid (HB6.out.trans (hb.mono HB6.out.size))
  replace Ha := Lib.hid (Ha.out.below hb)
  replace Hb := Lib.hid (Hb.out.below hb)
  replace Hc := Lib.hid (Hc.out.below hb)
  replace H1 := Lib.hid (H1.out.below hb)
  replace H2 := Lib.hid (H2.out.below hb)
  replace H3 := Lib.hid (H3.out.below hb)
  clear hb HB6
  go_wp2_with fail
  refine ((LV _).out).mono ?_
  rintro e w8 ⟨rfl, hb⟩
  have HB8 := Lib.hid (HB7.out.trans (hb.mono HB7.out.size))
  replace Ha := Lib.hid (Ha.out.below hb)
  replace Hb := Lib.hid (Hb.out.below hb)
  replace Hc := Lib.hid (Hc.out.below hb)
  replace H1 := Lib.hid (H1.out.below hb)
  replace H3 := Lib.hid (H3.out.below hb)
  clear hb HB7
  go_wp2_with fail
  refine ((KL _ _ _ H1.out Hc.out).out).mono ?_
  rintro e w9 ⟨v, rfl, ho, hb⟩
  have HB9 := Lib.hid (HB8.out.trans (hb.mono HB8.out.size))
  replace Ha := Lib.hid (Ha.out.below hb)
  replace Hb := Lib.hid (Hb.out.below hb)
  replace Hc := Lib.hid (Hc.out.below hb)
  replace H1 := Lib.hid (H1.out.below hb)
  replace H3 := Lib.hid (H3.out.below hb)
  obtain ⟨g4, k4, rfl, -, at4⟩ := ho.slice_n (n := X.length) rfl
  have H4 := Lib.hid at4
  clear ho at4
  clear hb HB8
  go_wp2_with fail
  refine ((KR _ _ _ Ha.out H3.out).out).mono ?_
  rintro e w10 ⟨v, rfl, ho, hb⟩
  have HB10 := Lib.hid (HB9.out.trans (hb.mono HB9.out.size))
  replace Ha := Lib.hid (Ha.out.below hb)
  replace H3 := Lib.hid (H3.out.below hb)
  replace H4 := Lib.hid (H4.out.below hb)
  obtain ⟨g5, k5, rfl, -, at5⟩ := ho.slice_n (n := X.length) rfl
  have H5 := Lib.hid at5
  clear ho at5
  clear hb HB9
  go_wp2_with fail
  refine ((KD _ Ha.out Ha.out).out).mono ?_
  rintro e w11 ⟨v, rfl, ho, hb⟩
  have HB11 := Lib.hid (HB10.out.trans (hb.mono HB10.out.size))
  replace Ha := Lib.hid (Ha.out.below hb)
  replace H4 := Lib.hid (H4.out.below hb)
  replace H5 := Lib.hid (H5.out.below hb)
  obtain ⟨g6, k6, rfl, -, at6⟩ := ho.slice_n (n := D.length) rfl
  have H6 := Lib.hid at6
  clear ho at6
  clear hb HB10
  go_wp2_with fail
  refine ((KN _ Ha.out).out).mono ?_
  rintro e w12 ⟨s, v, hp, hs, rfl, ho, hb⟩
  have HB12 := Lib.hid (HB11.out.trans (hb.mono HB11.out.size))
  replace Ha := Lib.hid (Ha.out.below hb)
  replace H4 := Lib.hid (H4.out.below hb)
  replace H5 := Lib.hid (H5.out.below hb)
  replace H6 := Lib.hid (H6.out.below hb)
  obtain ⟨ln, z0, hN, cN, oN⟩ := NEG.out s hp hs
  have KB := fun g k W h => Lib.hid (negX_any hS hR g (hullL s).length k (hullL s) z0 W rfl (by omega) h oN cN)
  have BACK : Hid (∀ t, t.Perm ((hullL s).map negP) → t.Pairwise leP → hullL t = a) := Lib.hid fun t h1 h2 => neg_back CONVA.out hN h1 h2
  clear hN cN oN hp hs NEG
  generalize hullL s = M at *
  obtain ⟨g7, k7, rfl, -, at7⟩ := ho.slice_n (n := M.length) rfl
  have H7 := Lib.hid at7
  clear ho at7
  clear hb HB11
  go_wp2_with fail
  refine ((KB _ _ _ H7.out).out).mono ?_
  rintro e w13 ⟨t, v, hp, hs, rfl, ho, hb⟩
  have HB13 := Lib.hid (HB12.out.trans (hb.mono HB12.out.size))
  replace Ha := Lib.hid (Ha.out.below hb)
  replace H4 := Lib.hid (H4.out.below hb)
  replace H5 := Lib.hid (H5.out.below hb)
  replace H6 := Lib.hid (H6.out.below hb)
  replace H7 := Lib.hid (H7.out.below hb)
  rw [BACK.out t hp hs] at ho
  clear hp hs BACK
  obtain ⟨g8, k8, rfl, -, at8⟩ := ho.slice_n (n := a.length) rfl
  have H8 := Lib.hid at8
  clear ho at8
  clear hb HB12
  go_wp2_with fail
  refine ((KA _ Ha.out).out).mono ?_
  rintro e w14 ⟨rfl, hb⟩
  have HB14 := Lib.hid (HB13.out.trans (hb.mono HB13.out.size))
  replace Ha := Lib.hid (Ha.out.below hb)
  replace H4 := Lib.hid (H4.out.below hb)
  replace H5 := Lib.hid (H5.out.below hb)
  replace H6 := Lib.hid (H6.out.below hb)
  replace H8 := Lib.hid (H8.out.below hb)
  clear hb HB13
  go_wp2_with fail
  refine ((KDA _ _ _ H6.out).out).mono ?_
  rintro e w15 ⟨rfl, hb⟩
  have HB15 := Lib.hid (HB14.out.trans (hb.mono HB14.out.size))
  replace Ha := Lib.hid (Ha.out.below hb)
  replace H4 := Lib.hid (H4.out.below hb)
  replace H5 := Lib.hid (H5.out.below hb)
  replace H6 := Lib.hid (H6.out.below hb)
  replace H8 := Lib.hid (H8.out.below hb)
  clear hb HB14
  go_wp2_with fail
  refine ((SX _ _ _ _ _ H4.out H5.out).out).mono ?_
  rintro e w16 ⟨rfl, hb⟩
  have HB16 := Lib.hid (HB15.out.trans (hb.mono HB15.out.size))
  replace Ha := Lib.hid (Ha.out.below hb)
  replace H4 := Lib.hid (H4.out.below hb)
  replace H5 := Lib.hid (H5.out.below hb)
  replace H8 := Lib.hid (H8.out.below hb)
  clear hb HB15
  have e4 : IntKind.i64.wrap (4 * ar) = 4 * ar := by rw [IntKind.wrap_i64]; omega
  go_wp2_with fail
  refine ((SA _ _ _ _ _ H8.out Ha.out).out).mono ?_
  rintro e w17 ⟨rfl, hb⟩
  have HB17 := Lib.hid (HB16.out.trans (hb.mono HB16.out.size))
  replace Ha := Lib.hid (Ha.out.below hb)
  replace H4 := Lib.hid (H4.out.below hb)
  replace H5 := Lib.hid (H5.out.below hb)
  replace H8 := Lib.hid (H8.out.below hb)
  clear hb HB16
  go_wp2_with fail
  go_ret
  exact ⟨rfl, HB17.out⟩
end Go.Proofs.Ytlmdmgbhfoehgaa

/- The library's sort and reverse at points. -/
namespace Go.Proofs.Ytlmdmgbhfoehgaa
open Go.RowKit Go.Sort

theorem ltOf_cmpQ (x y : Pt) : ltOf cmpQ x y = firstP x y := cmpQ_first x y
theorem ltP_iff {a b : Pt} : firstP a b = true ↔ ltP a b := by
  unfold firstP firstB ltP
  simp only [Bool.or_eq_true, Bool.and_eq_true, decide_eq_true_eq, beq_iff_eq]
theorem swoPts : SWO (ltOf cmpQ) where
  irrefl x := by
    rw [ltOf_cmpQ]
    cases h : firstP x x
    · rfl
    · exact absurd (ltP_iff.1 h) (ltP_irrefl x)
  trans x y z h1 h2 := by
    rw [ltOf_cmpQ] at *
    exact ltP_iff.2 (ltP_trans (ltP_iff.1 h1) (ltP_iff.1 h2))
  ntrans x y z h1 h2 := by
    rw [ltOf_cmpQ] at *
    have k1 : leP y x := by
      rcases leP_total y x with g | g
      · exact g
      · rw [ltP_iff.2 g] at h1; cases h1
    have k2 : leP z y := by
      rcases leP_total z y with g | g
      · exact g
      · rw [ltP_iff.2 g] at h2; cases h2
    cases h : firstP x z
    · rfl
    · exact absurd (leP_ltP (leP_trans k2 k1) (ltP_iff.1 h)) (ltP_irrefl z)

theorem encP_one (x : Pt) : ∀ v ∈ encP x, v.oneCell' = true := fun v hv => by
  simp [encP] at hv; rcases hv with rfl | rfl <;> rfl

theorem sortsPts : SortsPts := fun blk off cap d w hH hblk hsz => by
  have eg : ∀ args w, (callFunc 78 args).run Try.prog w = .ok (.enter 78 args) w := enters_of Try.func78 (by kernel_rfl) rfl
  have h := AnyQ.slices_SortFunc Try.sortPt 2 Try.isAgg38 Try.sizeOf38 encP (fun _ => rfl) encP_one cmpQ swoPts 78 #[] blk off cap d w eg (fun _ _ _ _ x y => compare_lays x.1 x.2 y.1 y.2 _) hH hblk hsz
  exact h

theorem reversesPts : ReversesPts := fun blk off cap d w hH hsz h0 => by
  have h := AnyQ.slices_Reverse Try.reversePt 2 Try.isAgg38 Try.sizeOf38 encP (fun _ => rfl) encP_one blk off cap d w hH (by omega)
  exact h
end Go.Proofs.Ytlmdmgbhfoehgaa
