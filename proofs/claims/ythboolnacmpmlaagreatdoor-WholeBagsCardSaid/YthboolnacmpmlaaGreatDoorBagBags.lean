/- Bags: whole.Bags. -/
import Derived.Test.YthboolnacmpmlaaGreatDoorBagBetween
namespace Go.Proofs.YthboolnacmpmlaaGreatDoor
open Go.RowKit Go.Shelf Bag
attribute [local go_sem] Oper.semAt_some

theorem toI_zeros (n : Nat) : cellsOf (toI ([] ++ List.replicate (n - 0) 0)) = cellsOf (List.replicate n 0) := by simp [toI]
theorem cnt_get {p z : List Nat} {m k : Nat} (hk : p.length = k) : (cellsOf (toI (p ++ m :: z)))[k]? = some (.int .i64 (m : Int)) := by subst hk; simp [cellsOf_get, toI]
theorem cnt_set {p z : List Nat} {m k v : Nat} (hk : p.length = k) : (cellsOf (toI (p ++ m :: z))).setIfInBounds k (.int .i64 (v : Int)) = cellsOf (toI (p ++ v :: z)) := by
  subst hk; rw [cellsOf_set]; simp [toI]

set_option maxRecDepth 100000 in
set_option maxHeartbeats 4000000 in
theorem bags_any (A : Option Addr) (n c : Nat) (l : List Nat) (t : Nat) (w : World) (hn : l.length = n) (h0 : 1 ≤ n) (h8 : n ≤ 8) (hx : Ints w A (toI l)) (hs : ∀ x ∈ l, 1 ≤ x ∧ x ≤ 2000) (ht : t ≤ 1000000) :
    Calls Tryz.prog 8 #[.slice A n c, .int .i64 t] w (BagsTo w l t) := by
  have K := Lib.hid (areSizes_any A n c (toI l) w (by rw [toI_length]; exact hn) (by omega) hx)
  have HS := Lib.hid (sizes_ok (by omega) (by omega) hs)
  have KR := Lib.hid (repeat_any w.heap.size 0 1 1099511627776 (t + 1) (w.alloc (.cells #[.int .i64 1099511627776] 3)) ⟨by omega, by omega⟩ (by
        rw [(Blk.new w 3 _).cell]; rfl) (by simp))
  have hmk := make_slices n (by omega)
  have HN := Lib.hid hn
  have HX := Lib.hid hx
  have HSS := Lib.hid hs
  clear hn hx hs
  have e1 : ((t : Int) + 1) = ((t + 1 : Nat) : Int) := by push_cast; rfl
  have hw1 : 1 ≤ t + 1 := by omega
  have hw2 : t + 1 ≤ 1000001 := by omega
  have HE1 := Lib.hid e1
  generalize hN : t + 1 = N at *
  have HNN := Lib.hid hN
  clear hN
  refine (callsIn_wide (n := 3)).1 ?_
  refine callsIn_of_wp_marks Tryz.func8 rfl trivial ?_ rfl
  simp only [Tryz.ntmps8, List.size_toArray, List.length_cons, List.length_nil, Nat.reduceAdd, Nat.reduceSub, Array.replicate_succ, Array.replicate_zero, List.push_toArray, List.append_toArray, List.nil_append, List.cons_append]
  gi_wp2_with (first
    | (refine ⟨trivial, ?_⟩; gi_at_call 21; refine (callsIn_wide.2 K.out).mono ?_; rintro e w' ⟨rfl, rfl⟩; rw [HS.out])
    | (refine ⟨trivial, ?_⟩; gi_at_call 22; refine (callsIn_wide.2 KR.out).mono ?_; rintro e w2 ⟨g, rfl, hge, hBk, hb2⟩; have c0 : w2.cell? ⟨g, 0, none⟩ = some (.int .i64 1099511627776) := (rep_head hBk hw1); have f0 : w2.frozen? ⟨g, 0, none⟩ = false := hBk.frozen 0; have hgl : g < w2.heap.size := hBk.lt; have HGE := Lib.hid hge; have HBk := Lib.hid hBk; have HB2 := Lib.hid hb2; clear hge hBk hb2; rw [List.length_replicate])
    | (refine ⟨trivial, ?_⟩; gi_at_call 23; refine (backward_in _ _ trivial rfl _ _ _ _).mono ?_; rintro e w3 ⟨rfl, rfl⟩))
  have hs2 : w.heap.size + 1 ≤ w2.heap.size := by have := HB2.out.size; simpa using this
  have hg2 : w.heap.size + 1 ≤ g := by have := HGE.out; simpa using this
  have HW5 : Hid (∀ W5 : World, W5 = (((((w2.setCell ⟨g, 0, none⟩ (.int .i64 0)).alloc (.cells #[.slice (some ⟨g, 0, none⟩) N N] 22)).alloc (.cells (nilsOf n) 45)).alloc (.cells #[.slice (some ⟨w2.heap.size + 1, 0, none⟩) n n] 41)).alloc (.cells #[.slice A n c] 22)) →
      Between w l n N g w2.heap.size (w2.heap.size + 1 + 1 + 1 + 1) [] W5 ∧ W5.cell? ⟨w2.heap.size + 1 + 1 + 1, 0, none⟩ = some (.slice A n c) ∧ W5.heap.size = w2.heap.size + 1 + 1 + 1 + 1 ∧ Below w.heap.size w W5) := Lib.hid (by
    rintro W5 rfl
    have hb0 : Below w.heap.size w (w2.setCell ⟨g, 0, none⟩ (.int .i64 0)) := (((Below.refl _ _).alloc (Nat.le_refl _) _).trans (HB2.out.mono (by simp))).setCell (by show w.heap.size ≤ g; omega) _
    have hb5 := (((hb0.alloc hb0.size (.cells #[.slice (some ⟨g, 0, none⟩) N N] 22)).alloc (by simp; omega) (.cells (nilsOf n) 45)).alloc (by simp; omega) (.cells #[.slice (some ⟨w2.heap.size + 1, 0, none⟩) n n] 41)).alloc (by simp; omega) (.cells #[.slice A n c] 22)
    have m1 : Blk ((w2.setCell ⟨g, 0, none⟩ (.int .i64 0)).alloc (.cells #[.slice (some ⟨g, 0, none⟩) N N] 22)) w2.heap.size 22 #[.slice (some ⟨g, 0, none⟩) N N] := by
      have := Blk.new (w2.setCell ⟨g, 0, none⟩ (.int .i64 0)) 22 #[.slice (some ⟨g, 0, none⟩) N N]; simpa using this
    have m2 : Blk (((w2.setCell ⟨g, 0, none⟩ (.int .i64 0)).alloc (.cells #[.slice (some ⟨g, 0, none⟩) N N] 22)).alloc (.cells (nilsOf n) 45)) (w2.heap.size + 1) 45 (nilsOf n) := by
      have := Blk.new ((w2.setCell ⟨g, 0, none⟩ (.int .i64 0)).alloc (.cells #[.slice (some ⟨g, 0, none⟩) N N] 22)) 45 (nilsOf n); simpa using this
    have m3 : Blk ((((w2.setCell ⟨g, 0, none⟩ (.int .i64 0)).alloc (.cells #[.slice (some ⟨g, 0, none⟩) N N] 22)).alloc (.cells (nilsOf n) 45)).alloc (.cells #[.slice (some ⟨w2.heap.size + 1, 0, none⟩) n n] 41)) (w2.heap.size + 1 + 1) 41 #[.slice (some ⟨w2.heap.size + 1, 0, none⟩) n n] := by
      have := Blk.new (((w2.setCell ⟨g, 0, none⟩ (.int .i64 0)).alloc (.cells #[.slice (some ⟨g, 0, none⟩) N N] 22)).alloc (.cells (nilsOf n) 45)) 41 #[.slice (some ⟨w2.heap.size + 1, 0, none⟩) n n]; simpa using this
    have m4 : Blk (((((w2.setCell ⟨g, 0, none⟩ (.int .i64 0)).alloc (.cells #[.slice (some ⟨g, 0, none⟩) N N] 22)).alloc (.cells (nilsOf n) 45)).alloc (.cells #[.slice (some ⟨w2.heap.size + 1, 0, none⟩) n n] 41)).alloc (.cells #[.slice A n c] 22)) (w2.heap.size + 1 + 1 + 1) 22 #[.slice A n c] := by
      have := Blk.new ((((w2.setCell ⟨g, 0, none⟩ (.int .i64 0)).alloc (.cells #[.slice (some ⟨g, 0, none⟩) N N] 22)).alloc (.cells (nilsOf n) 45)).alloc (.cells #[.slice (some ⟨w2.heap.size + 1, 0, none⟩) n n] 41)) 22 #[.slice A n c]; simpa using this
    have m0 : NatBlk (w2.setCell ⟨g, 0, none⟩ (.int .i64 0)) g N (best []) := natblk_start HBk.out hw1
    refine ⟨⟨((m1.alloc _).alloc _).alloc _, m3.alloc _, (((Blk.alloc m0 _).alloc _).alloc _).alloc _, hb5, by simp, nilsOf n, (m2.alloc _).alloc _, by simp [nilsOf], fun k hk j hj => ?_⟩, by rw [m4.cell]; rfl, by simp, hb5⟩
    have : k = 0 := by have := hk.length; simpa using this.symm
    omega)
  have hgl5 : g < w2.heap.size := hgl
  obtain ⟨hI0, hbs, hsz5, hbel5⟩ := HW5.out _ rfl
  refine wpIn_rangeFunc_ownF (F := Fence.wide) rfl (by omega) (gf := 35) (lb := #[.pointer (some ⟨w2.heap.size + 1 + 1 + 1, 0, none⟩)]) rfl trivial (enters_of Tryz.func35 (by kernel_rfl) rfl)
    (backward_stops Fence.wide (3 - 1) trivial rfl (by omega) (w2.heap.size + 1 + 1 + 1) w.heap.size A n c (toI l) (by omega) _ (by rw [hsz5]; omega) (by rw [hsz5]; omega) hbs ?cells)
    (fun h k => h.trans k) ?putobj (Below.refl _ _) (fun _ => rfl)
    (Between w l n N g w2.heap.size (w2.heap.size + 1 + 1 + 1 + 1)) (fun _ _ _ => False) ?own (fun _ _ _ _ _ hs _ _ => hs) hI0 ?a1 ?assign ?body ?done ?stop
  case cells =>
    intro W' hb' j hj
    have hx := HX.out.below (hbel5.trans hb')
    have hj' : j < (toI l).length := by rw [toI_length, HN.out]; exact hj
    obtain ⟨b, off, e, hc⟩ := hx.at_ hj'
    exact ⟨b, off, e, by rw [hc, List.getElem?_eq_getElem hj']; rfl⟩
  case putobj =>
    intro W l' o o' hl' ho _ _
    rw [hsz5] at hl'
    exact KeepB.putObj (by omega) (by omega) ho
  case own => rw [hsz5]; exact Between.own (by omega)
  case assign =>
    intro l' x W K hK
    simp only [enc]
    gi_wp2
    exact hK
  case body =>
    clear hI0 hbs hsz5 hbel5 HW5
    rintro l' pre x W ⟨h1, h2, h3, h4, h5, cs, h6, h7, h8⟩ hpre
    have hmx : Tryz.prog.follows .mixedOrders = true := by kernel_rfl
    have hq : n - 1 - x.val < n := by omega
    have hql : n - 1 - x.val < l.length := by rw [HN.out]; exact hq
    have hz : (toI l)[n - 1 - x.val]?.getD 0 = ((l.getD (n - 1 - x.val) 0 : Nat) : Int) := by
      simp [toI, List.getD, hql]
    have hzb : 1 ≤ l.getD (n - 1 - x.val) 0 ∧ l.getD (n - 1 - x.val) 0 ≤ 2000 := by
      have e : l.getD (n - 1 - x.val) 0 = l[n - 1 - x.val] := by simp [List.getD, hql]
      rw [e]; exact HSS.out _ (List.getElem_mem hql)
    have HQX : Hid (∀ k, inOrder (pre ++ [x]) (k + 1) → inOrder pre k ∧ x.val = k) := Lib.hid fun k h => by
      unfold inOrder at *
      rw [List.map_append, List.range_succ] at h
      obtain ⟨a1, a2⟩ := List.append_inj' h rfl
      exact ⟨a1, by simpa using a2⟩
    have HSN := Lib.hid (seen_snoc l n pre x)
    have c7 : W.cell? ⟨w2.heap.size + 1 + 1, 0, none⟩ = some (.slice (some ⟨w2.heap.size + 1, 0, none⟩) n n) := by rw [h2.cell]; rfl
    have c6 : W.cell? ⟨w2.heap.size, 0, none⟩ = some (.slice (some ⟨g, 0, none⟩) N N) := by rw [h1.cell]; rfl
    have KA := Lib.hid (admit_any g N (l.getD (n - 1 - x.val) 0) (seen l n pre) W.drew h3 hw2 hzb)
    have H1 := Lib.hid h1
    have H2 := Lib.hid h2
    have H3 := Lib.hid h3
    have H4 := Lib.hid h4
    have H5 := Lib.hid h5
    have H6 := Lib.hid h6
    have H7 := Lib.hid h7
    have H8 := Lib.hid h8
    clear h1 h2 h3 h4 h6 h7 h8
    rw [hz]
    generalize hzz : l.getD (n - 1 - x.val) 0 = z at *
    have HZZ := Lib.hid hzz
    clear hzz
    generalize hqq : n - 1 - x.val = q at *
    have HQQ := Lib.hid hqq
    clear hqq hz
    obtain ⟨vq, hvq⟩ : ∃ v, cs[q]? = some v := ⟨cs[q]'(by rw [H7.out]; exact hq), Array.getElem?_eq_getElem _⟩
    have HCQ := Lib.hid hvq
    clear hvq
    gi_wp2
    gi_region_with_o (refine ⟨trivial, ?_⟩; gi_at_call 24; refine (CallsIn.inRound l' (callsIn_wide.2 KA.out)).mono ?_; rintro e w3 ⟨g3, rfl, hge3, hB3, hN3, hg3⟩; have d7 := (H2.out.gb hg3 (by omega)).get (i := 0) rfl; have dq := (H6.out.gb hg3 (by omega)).get HCQ.out; have fq := (H6.out.gb hg3 (by omega)).frozen q; have HGE3 := Lib.hid hge3; have HB3 := Lib.hid hB3; have HN3 := Lib.hid hN3; have HG3 := Lib.hid hg3; clear hge3 hB3 hN3 hg3)
    all_goals gi_wp2
    all_goals exact between_step hgl hs2 hg2 H1.out H2.out H3.out H4.out H5.out H6.out H7.out H8.out HQX.out HSN.out HQQ.out HZZ.out HN.out HCQ.out HGE3.out HB3.out HN3.out HG3.out
  case done =>
    rintro D ys W hD hS ⟨h1, h2, h3, h4, h5, cs, h6, h7, h8⟩ hP
    rw [seen_inOrder HN.out n ys (Nat.le_refl _) hS, Nat.sub_self, List.drop_zero] at h3
    rw [hsz5] at hD
    clear hI0 hbs hsz5 hbel5 HW5 h5
    have hDW : D < W.heap.size := (Array.getElem?_eq_some_iff.1 hP).1
    have tN : t < N := by have := HNN.out; omega
    have ct : W.cell? ⟨g, t, none⟩ = some (.int .i64 (best l t : Nat)) := h3.cell tN
    have c6 : W.cell? ⟨w2.heap.size, 0, none⟩ = some (.slice (some ⟨g, 0, none⟩) N N) := by rw [h1.cell]; rfl
    have HR : Hid (∀ k, k < n → ∃ gk, cs[k]? = some (.slice (some ⟨gk, 0, none⟩) N N) ∧ Blk W gk 4 (boolsOf N (need (l.getD k 0) (l.drop (k + 1))))) := Lib.hid fun k hk => by
      obtain ⟨gk, e1, _, e3⟩ := h8 n hS (n - 1 - k) (by omega)
      rw [show n - 1 - (n - 1 - k) = k by omega, show n - (n - 1 - k) = k + 1 by omega] at e3
      rw [show n - 1 - (n - 1 - k) = k by omega] at e1
      exact ⟨gk, e1, e3⟩
    have HP := Lib.hid hP
    have HW := Lib.hid h4
    have H2 := Lib.hid h2
    have H6 := Lib.hid h6
    have h1l := h1.lt
    have h2l := h2.lt
    clear h8 h3 h1 h2 h4 h6 h7 hP hS
    by_cases hy : best l t < never
    · have hyb : ((best l t : Nat) : Int) < 1099511627776 := by have hy' : best l t < 1099511627776 := hy; omega
      have HY := Lib.hid hy
      clear hy
      have hmkI := make_ints n (by omega)
      have HC0 : Hid (Blk (W.alloc (.cells (cellsOf (List.replicate n 0)) 3)) W.heap.size 3 (cellsOf (List.replicate n 0))) := Lib.hid (Blk.new _ _ _)
      generalize ((best l t : Nat) : Int) = y at *
      have HI0 : Hid (counts l t = [] ++ counts (l.drop 0) t ∧ Blk (W.alloc (.cells (cellsOf (List.replicate n 0)) 3)) W.heap.size 3 (cellsOf (toI ([] ++ List.replicate (n - 0) 0)))) := Lib.hid ⟨by simp, by rw [toI_zeros]; exact HC0.out⟩
      gi_wp2
      gi_loopw [1, 53] (fun u i wr => ∃ (k v : Nat) (ps : List Nat), k ≤ n ∧ i = .int .i64 k ∧ u = .int .i64 v ∧ v ≤ t ∧ ps.length = k ∧ counts l t = ps ++ counts (l.drop k) v ∧
        Blk wr W.heap.size 3 (cellsOf (toI (ps ++ List.replicate (n - k) 0))) ∧ Below W.heap.size W wr) (fun _ i _ => n - (intOf i).toNat)
      case atStart => exact ⟨0, t, [], Nat.zero_le _, rfl, rfl, Nat.le_refl _, rfl, HI0.out.1, HI0.out.2, (Below.refl _ _).alloc (Nat.le_refl _) _⟩
      case round =>
        clear HI0 HC0
        obtain ⟨k, v, ps, hk, rfl, rfl, hvt, hpl, hcs, hbk, hbw⟩ := hrel
        have HCS := Lib.hid hcs
        have HBK := Lib.hid hbk
        have HPL := Lib.hid hpl
        clear hcs hbk hpl
        by_cases hlt : k < n
        · have hl : k < l.length := by rw [HN.out]; exact hlt
          obtain ⟨b, off, rfl, hc⟩ := toI_at (HX.out.below (HW.out.trans (hbw.mono (by have := HW.out.size; omega)))) hl
          obtain ⟨gk, hgk, hbg⟩ := HR.out k hlt
          have hcount : ∀ v, counts (l.drop k) v = times (l.getD k 0) (l.drop (k + 1)) v :: counts (l.drop (k + 1)) (v - times (l.getD k 0) (l.drop (k + 1)) v * (l.getD k 0)) := fun v => by
            rw [List.drop_eq_getElem_cons hl, show l.getD k 0 = l[k] by simp [List.getD, hl]]; rfl
          have hs1 := HSS.out _ (List.getElem_mem hl)
          have hsd : l.getD k 0 = l[k] := by simp [List.getD, hl]
          rw [hsd] at hbg hcount
          have HCT := Lib.hid hcount
          have HBG := Lib.hid hbg
          have HGK := Lib.hid hgk
          have hrep : ps ++ List.replicate (n - k) 0 = ps ++ 0 :: List.replicate (n - (k + 1)) 0 := by
            rw [show n - k = (n - (k + 1)) + 1 by omega, List.replicate_succ]
          have HI1 : Hid (Blk wr W.heap.size 3 (cellsOf (toI (ps ++ 0 :: List.replicate (n - (k + 1)) 0))) ∧ 0 + times l[k] (l.drop (k + 1)) v = times l[k] (l.drop (k + 1)) v ∧ v + 0 * l[k] = v) := Lib.hid ⟨hrep ▸ HBK.out, by omega, by omega⟩
          clear hcount hbg hgk hrep hsd
          generalize l[k] = sz at *
          gi_wp2
          obtain ⟨wo, rfl⟩ : ∃ wo : World, wo = wr := ⟨_, rfl⟩
          gi_loopw [1] (fun u wq => ∃ (v' m : Nat), u = .int .i64 v' ∧ v' ≤ v ∧ m ≤ 1000000 ∧ m + times sz (l.drop (k + 1)) v' = times sz (l.drop (k + 1)) v ∧ v' + m * sz = v ∧
            Blk wq W.heap.size 3 (cellsOf (toI (ps ++ m :: List.replicate (n - (k + 1)) 0))) ∧ Below W.heap.size W wq) (fun u _ => (intOf u).toNat)
          case atStart => exact ⟨v, 0, rfl, Nat.le_refl _, by omega, HI1.out.2.1, HI1.out.2.2, HI1.out.1, hbw⟩
          case round =>
            clear HI1 hc HBK
            obtain ⟨v', m, rfl, hv', hm, hts, hvm, hbk, hbq⟩ := hrel
            have d7 : wr.cell? ⟨w2.heap.size + 1 + 1, 0, none⟩ = some (.slice (some ⟨w2.heap.size + 1, 0, none⟩) n n) := by rw [(H2.out.below hbq h2l).cell]; rfl
            have dk : wr.cell? ⟨w2.heap.size + 1, k, none⟩ = some (.slice (some ⟨gk, 0, none⟩) N N) := by rw [(H6.out.below hbq H6.out.lt).cell]; exact HGK.out
            have dg : wr.cell? ⟨gk, v', none⟩ = some (.bool (need sz (l.drop (k + 1)) v')) := by rw [(HBG.out.below hbq HBG.out.lt).cell]; exact boolsOf_get (by omega)
            have dc : wr.cell? ⟨W.heap.size, k, none⟩ = some (.int .i64 (m : Int)) := by rw [hbk.cell]; exact cnt_get HPL.out
            have fc : wr.frozen? ⟨W.heap.size, k, none⟩ = false := hbk.frozen k
            have HTS := Lib.hid hts
            have HVM := Lib.hid hvm
            have HBK := Lib.hid hbk
            clear hts hvm hbk
            cases hnd : need sz (l.drop (k + 1)) v'
            · have hz : times sz (l.drop (k + 1)) v' = 0 := times_done hnd
              have HF : Hid (counts l t = (ps ++ [m]) ++ counts (l.drop (k + 1)) v' ∧ Blk wr W.heap.size 3 (cellsOf (toI ((ps ++ [m]) ++ List.replicate (n - (k + 1)) 0)))) := Lib.hid (by
                have e1 := HTS.out
                rw [hz, Nat.add_zero] at e1
                refine ⟨?_, by rw [List.append_assoc]; exact HBK.out⟩
                rw [HCS.out, HCT.out, ← e1, List.append_assoc]
                have : v - m * sz = v' := by have := HVM.out; omega
                rw [this]; rfl)
              rw [hnd] at dg
              clear hz hnd
              gi_wp2
              go_roundw
              case rel => exact ⟨k + 1, v', ps ++ [m], by omega, by go_num, rfl, by omega, by simp [HPL.out], HF.out.1, HF.out.2, hbq⟩
              case measure => simp [intOf]; omega
            · have hle : sz ≤ v' := by unfold need at hnd; simp at hnd; omega
              have HN1 : Hid (m + 1 + times sz (l.drop (k + 1)) (v' - sz) = times sz (l.drop (k + 1)) v ∧ v' - sz + (m + 1) * sz = v) := Lib.hid (by
                have e1 := HTS.out
                have e2 := HVM.out
                rw [times_step hs1.1 hnd] at e1
                refine ⟨by omega, ?_⟩
                rw [Nat.add_mul]; omega)
              have hm1 : m + 1 ≤ 1000000 := by
                have e2 := HN1.out.2
                have : m + 1 ≤ (m + 1) * sz := Nat.le_mul_of_pos_right _ (by omega)
                omega
              have hsub : ((v' : Int) - sz) = ((v' - sz : Nat) : Int) := by omega
              rw [hnd] at dg
              clear hnd
              have HS2 := Lib.hid hsub
              clear hsub
              gi_wp2
              go_roundw
              case rel =>
                refine ⟨v' - sz, m + 1, by rw [HS2.out], by omega, hm1, HN1.out.1, HN1.out.2, ?_, ?_⟩
                · rw [← cnt_set (m := m) HPL.out]
                  exact HBK.out.set_ _ _
                · exact hbq.setCell (Nat.le_refl _) _
              case measure => simp [intOf]; omega
        · obtain rfl : k = n := by omega
          have HF : Hid (counts l t = ps ∧ Blk wr W.heap.size 3 (cellsOf (toI ps))) := Lib.hid (by
            have e1 := HCS.out
            have e2 := HBK.out
            rw [show l.drop k = [] from List.drop_eq_nil_of_le (by rw [HN.out]; exact Nat.le_refl _)] at e1
            rw [Nat.sub_self, List.replicate_zero, List.append_nil] at e2
            exact ⟨by rw [e1]; simp [counts], e2⟩)
          gi_wp2
          refine ⟨by simp, .inl ⟨_, _, rfl, run_takeDeferred ((hbw.block D hDW).trans HP.out), ?_⟩⟩
          have hbk : Blk (wr.putObj D (.deferred none)) W.heap.size 3 (cellsOf (toI (counts l t))) := by
            rw [HF.out.1]
            exact Blk.same HF.out.2 ((grownBy_putObj' wr D _).block _ HF.out.2.lt (fun e => by cases e; omega))
          refine ⟨_, results_tmp2 rfl _ _ _, (HW.out.trans (hbw.mono (by omega))).trans (belowK_b (w := w) (Nat.le_refl _) wr D _ _ (by omega) ((hbw.block D hDW).trans HP.out) rfl rfl), .inl ⟨HY.out, W.heap.size, ?_, by omega, hbk⟩⟩
          rw [HN.out]
          rfl
    · have hyb : ¬ ((best l t : Nat) : Int) < 1099511627776 := by have hy' : ¬ best l t < 1099511627776 := hy; omega
      have HY := Lib.hid hy
      clear hy
      generalize ((best l t : Nat) : Int) = y at *
      gi_wp2
      refine ⟨by simp, .inl ⟨_, _, rfl, run_takeDeferred HP.out, ?_⟩⟩
      exact ⟨_, results_tmp2 rfl _ _ _, HW.out.trans (belowK_b (w := w) (Nat.le_refl _) W D _ _ (by omega) HP.out rfl rfl), .inr ⟨HY.out, rfl⟩⟩
  case stop =>
    rintro D c' pre W _ _ h _
    exact h.elim

end Go.Proofs.YthboolnacmpmlaaGreatDoor
