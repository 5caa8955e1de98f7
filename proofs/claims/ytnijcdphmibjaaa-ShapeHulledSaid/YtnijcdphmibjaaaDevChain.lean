/- Package shape's chain. -/
import Derived.Test.YtnijcdphmibjaaaHullWrap
import Derived.Test.YtnijcdphmibjaaaRefApart
namespace Go.Proofs.Ytnijcdphmibjaaa
open Go.RowKit Go.Sort
attribute [local go_sem ↓] run_min_mn run_max_mx Go.wp_at_zero Go.wp_at_succ

theorem PtsOwn.nil (w : World) (base : Nat) : PtsOwn w base (.slice none 0 0) [] := by
  unfold PtsOwn World.ownsRow
  exact ⟨by simp [ptsV], .inl ⟨rfl, rfl⟩⟩
theorem ptsV_take : ∀ (l : List Pt) (k : Nat), (ptsV l).take (k * 2) = ptsV (l.take k)
  | [], k => by simp [ptsV]
  | p :: l, 0 => by simp [ptsV]
  | p :: l, k + 1 => by
    rw [show (k + 1) * 2 = k * 2 + 1 + 1 by omega]
    simp only [ptsV, List.take_succ_cons, ptsV_take l k]
theorem PtsOwn.shrink {w : World} {base : Nat} {A : Option Addr} {n c : Nat} {l : List Pt} (h : PtsOwn w base (.slice A n c) l) (hn : l.length = n) {k : Nat} (hk : k ≤ n) : PtsOwn w base (.slice A k c) (l.take k) := by
  have hlen : (l.take k).length = k := by rw [List.length_take]; omega
  unfold PtsOwn World.ownsRow at *
  rw [hn] at h
  rw [hlen]
  obtain ⟨h1, h2⟩ := h
  refine ⟨by rw [ptsV_length, hlen], ?_⟩
  rcases h2 with ⟨e1, e2⟩ | ⟨g, cap, cur, e, hb, hg, hnc, hh, hsz, ht⟩
  · left
    have : n = 0 := e2
    have hk0 : k = 0 := by omega
    subst hk0
    simp only [Value.slice.injEq] at e1
    exact ⟨by rw [e1.1, e1.2.2], rfl⟩
  · right
    simp only [Value.slice.injEq] at e
    obtain ⟨rfl, -, rfl⟩ := e
    refine ⟨g, c, cur, rfl, hb, hg, by omega, hh, hsz, ?_⟩
    rw [← ptsV_take, ← ht, List.take_take]
    congr 1
    omega
theorem PtsOwn.belows {w w' : World} {base B : Nat} {v : Value} {xs : List Pt} (h : PtsOwn w base v xs) (hb : Below B w w') (hB : w.heap.size ≤ B) : PtsOwn w' base v xs := by
  unfold PtsOwn World.ownsRow at *
  obtain ⟨h1, h2⟩ := h
  refine ⟨h1, ?_⟩
  rcases h2 with h2 | ⟨g, cap, cur, e, hb1, hg, hr⟩
  · exact .inl h2
  · exact .inr ⟨g, cap, cur, e, hb1, (hb.block g (Nat.lt_of_lt_of_le (Array.getElem?_eq_some_iff.1 hg).1 hB)).trans hg, hr⟩

theorem popW_suffix (x : Pt) : ∀ st : List Pt, popW x st <:+ st
  | [] => List.suffix_refl _
  | [_] => List.suffix_refl _
  | b :: a :: r => by
    rw [popW]
    split
    · exact (popW_suffix x (a :: r)).trans (List.suffix_cons _ _)
    · exact List.suffix_refl _
theorem chainW_mem : ∀ (l st : List Pt) (s : Pt), s ∈ l.foldl pushW st → s ∈ l ∨ s ∈ st
  | [], _, _, h => .inr h
  | x :: l, st, s, h => by
    rcases chainW_mem l (pushW st x) s h with h | h
    · exact .inl (List.mem_cons_of_mem _ h)
    · rcases List.mem_cons.1 h with rfl | h
      · exact .inl (by simp)
      · exact .inr ((popW_suffix x st).subset h)
theorem chainW_len : ∀ (l st : List Pt), (l.foldl pushW st).length ≤ l.length + st.length
  | [], _ => by simp
  | x :: l, st => by
    have h1 := chainW_len l (pushW st x)
    have h2 := (popW_suffix x st).length_le
    simp only [List.foldl_cons, List.length_cons, pushW] at h1 ⊢
    omega

theorem PtsOwn.slice_n {w : World} {base : Nat} {v : Value} {l : List Pt} (h : PtsOwn w base v l) {n : Nat} (hn : l.length = n) : ∃ A c, v = .slice A n c ∧ n ≤ c ∧ PtsAt w A l := by
  obtain ⟨A, c, h1, h2, h3, _⟩ := h.slice
  exact ⟨A, c, by rw [h1, hn], by rw [← hn]; exact h2, h3⟩
def slLen : Value → Nat
  | .slice _ n _ => n
  | _ => 0

set_option maxRecDepth 100000 in
set_option maxHeartbeats 4000000 in
theorem chain_any (b off n c : Nat) (l : List Pt) (w : World) (hl : l.length = n) (hn' : n ≤ 100) (h : PtsIn w b off l) (hb : b < w.heap.size) (hbd : ∀ x ∈ l, Bd x) :
    Calls Try.prog 101 #[.slice (some ⟨b, off, none⟩) n c] w (RefMovedTo (chainW l).reverse w) := by
  have HL := Lib.hid hl
  have HP := Lib.hid h
  have HBD := Lib.hid hbd
  clear hl h hbd
  go_enter Try.func101, Try.ntmps101
  go_wp2
  go_loopw [3, 8] (fun s i wr => ∃ k : Nat, k ≤ n ∧ i = .int .i64 k ∧ PtsOwn wr w.heap.size s ((l.take k).foldl pushW []).reverse ∧ Below w.heap.size w wr) (fun _ i _ => n - (intOf i).toNat)
  case atStart => exact ⟨0, Nat.zero_le _, rfl, PtsOwn.nil _ _, Below.refl _ _⟩
  case round =>
    obtain ⟨k, hk, rfl, hO, hbw⟩ := hrel
    have HO := Lib.hid hO
    have HBW := Lib.hid hbw
    clear hO
    by_cases hlt : k < n
    · have hkl : k < l.length := by rw [HL.out]; exact hlt
      obtain ⟨h1, h2⟩ := (HP.out.below hbw hb) k (gt l k) (by unfold gt; rw [List.getD_eq_getElem?_getD, List.getElem?_eq_getElem hkl]; rfl)
      have hB : b < wr.heap.size := Nat.lt_of_lt_of_le hb hbw.size
      have HN : Hid ((l.take (k + 1)).foldl pushW [] = pushW ((l.take k).foldl pushW []) (gt l k)) := Lib.hid (by
        rw [List.take_succ_eq_append_getElem hkl, List.foldl_append]
        simp [gt, List.getD, hkl])
      have HM : Hid (∀ s ∈ (l.take k).foldl pushW [], Bd s) := Lib.hid fun s hs => by
        rcases chainW_mem _ _ _ hs with h | h
        · exact HBD.out s (List.take_subset _ _ h)
        · cases h
      have HLN : Hid (((l.take k).foldl pushW []).length ≤ 100) := Lib.hid (by
        have := chainW_len (l.take k) []
        rw [List.length_take] at this
        simp only [List.length_nil] at this
        omega)
      have hx : Bd (gt l k) := HBD.out _ (by unfold gt; rw [List.getD_eq_getElem?_getD, List.getElem?_eq_getElem hkl]; exact List.getElem_mem hkl)
      generalize (l.take k).foldl pushW [] = st0 at *
      generalize gt l k = p at *
      obtain ⟨x, y⟩ := p
      obtain ⟨x1, x2⟩ := hx
      have hsz := hbw.size
      clear hbw
      obtain ⟨wo, rfl⟩ : ∃ wo : World, wo = wr := ⟨_, rfl⟩
      have Bq : PtAt (wo.alloc (bx x y)) wo.heap.size x y := PtAt.new
      have hbq : Below wo.heap.size wo (wo.alloc (bx x y)) := (Below.refl _ _).alloc (Nat.le_refl _) _
      have hzq : (wo.alloc (bx x y)).heap.size = wo.heap.size + 1 := by simp
      have O1 : PtsOwn (wo.alloc (bx x y)) w.heap.size u3 st0.reverse := HO.out.alloc _
      have HBQ : Hid (Below w.heap.size w (wo.alloc (bx x y))) := Lib.hid (HBW.out.trans (hbq.mono HBW.out.size))
      go_wp2_with fail
      generalize wo.alloc (bx x y) = wq at *
      generalize hgq : wo.heap.size = gq at *
      have HO1 := Lib.hid O1
      clear O1 hbq HO HBW h1 h2
      go_loopw [3] (fun s wi => ∃ st, PtsOwn wi w.heap.size s (List.reverse st) ∧ popW (x, y) st = popW (x, y) st0 ∧ st <:+ st0 ∧ Below wq.heap.size wq wi) (fun s _ => slLen s)
      case atStart => exact ⟨st0, HO1.out, rfl, List.suffix_refl _, Below.refl _ _⟩
      case round =>
        clear HO1
        obtain ⟨st, hO, hpop, hsuf, hbi⟩ := hrel
        have HPOP := Lib.hid hpop
        have HSUF := Lib.hid hsuf
        have hlen : st.length ≤ 100 := Nat.le_trans hsuf.length_le HLN.out
        have hgi : gq < wr.heap.size := by have := hbi.size; omega
        have Q0 : Hid (PtAt wr gq x y) := Lib.hid (PtAt.below hbi (by omega) Bq)
        obtain ⟨q1, q2⟩ := Q0.out
        have HBI := Lib.hid hbi
        have HBW := Lib.hid (HBQ.out.trans (hbi.mono HBQ.out.size))
        have HBDS : Hid (∀ s ∈ st, Bd s) := Lib.hid fun s hs => HM.out s (hsuf.subset hs)
        clear hpop hsuf hbi
        rcases st with _ | ⟨t, _ | ⟨a, r⟩⟩
        · obtain ⟨A1, c1, rfl, hc1, hat⟩ := hO.slice_n (n := 0) rfl
          have HO := Lib.hid hO
          clear hO hat
          go_wp2_with fail
          refine wp_region_quiet_below (by kernel_rfl) (by kernel_rfl) ?_
          repeat (go_big_quiet_step (fail))
          refine wpQuiet_nil ?_
          intro _ hw'
          obtain ⟨⟨dq, osq⟩, hw''⟩ := hw'
          subst hw''
          have hbr := below_regrown wr dq osq
          generalize grow (redrawn wr dq) osq = w2 at *
          have O2 : Hid (PtsOwn w2 w.heap.size _ (([] : List Pt)).reverse) := Lib.hid (HO.out.belows hbr (Nat.le_refl _))
          have HB2 := Lib.hid (HBW.out.trans (hbr.mono HBW.out.size))
          have hg2 : gq < w2.heap.size := Nat.lt_of_lt_of_le hgi hbr.size
          obtain ⟨q1, q2⟩ := PtAt.below hbr hgi Q0.out
          have HE : Hid ((pushW st0 (x, y)).reverse = (([] : List Pt)).reverse ++ [(x, y)]) := Lib.hid (by
            have e : popW (x, y) (([] : List Pt)) = ([] : List Pt) := rfl
            unfold pushW
            rw [List.reverse_cons, ← HPOP.out, e])
          have hsz2 := HB2.out.size
          clear hbr
          have hA1 : (([] : List Pt)).reverse.length + [(x, y)].length ≤ 100000 := by first | (rw [List.length_reverse, hq2]; simp; omega) | simp
          have hA2 : w.heap.size ≤ (w2.alloc (bx x y)).heap.size := by rw [World.size_alloc]; omega
          go_wp2_with (at_builtin; refine wpList_papp rfl (.tmp 37) (.tmp 39) rfl w.heap.size _ ((([] : List Pt)).reverse) [(x, y)] (some ⟨w2.heap.size, 0, none⟩) 1 1 rfl rfl (O2.out.alloc _) rfl (PtsAt.one w2 x y) hA1 hA2 ?_; intro v1 w3 ho hg hat; have HO3 := Lib.hid ho; have HG3 := Lib.hid hg; clear ho hg hat)
          have HB3 : Hid (Below w.heap.size w w3) := Lib.hid ((HB2.out.alloc hsz2 _).grown HG3.out (by simp; omega) (fun k hk => (O2.out.base k hk).1))
          go_wp2_with fail
          go_roundw
          case rel => exact ⟨k + 1, by omega, by go_num, by rw [HN.out, HE.out]; exact HO3.out, HB3.out⟩
          case measure => simp [intOf]; omega
        · obtain ⟨A1, c1, rfl, hc1, hat⟩ := hO.slice_n (n := 1) rfl
          have HO := Lib.hid hO
          clear hO hat
          go_wp2_with fail
          refine wp_region_quiet_below (by kernel_rfl) (by kernel_rfl) ?_
          repeat (go_big_quiet_step (fail))
          refine wpQuiet_nil ?_
          intro _ hw'
          obtain ⟨⟨dq, osq⟩, hw''⟩ := hw'
          subst hw''
          have hbr := below_regrown wr dq osq
          generalize grow (redrawn wr dq) osq = w2 at *
          have O2 : Hid (PtsOwn w2 w.heap.size _ ([t]).reverse) := Lib.hid (HO.out.belows hbr (Nat.le_refl _))
          have HB2 := Lib.hid (HBW.out.trans (hbr.mono HBW.out.size))
          have hg2 : gq < w2.heap.size := Nat.lt_of_lt_of_le hgi hbr.size
          obtain ⟨q1, q2⟩ := PtAt.below hbr hgi Q0.out
          have HE : Hid ((pushW st0 (x, y)).reverse = ([t]).reverse ++ [(x, y)]) := Lib.hid (by
            have e : popW (x, y) ([t]) = [t] := rfl
            unfold pushW
            rw [List.reverse_cons, ← HPOP.out, e])
          have hsz2 := HB2.out.size
          clear hbr
          have hA1 : ([t]).reverse.length + [(x, y)].length ≤ 100000 := by first | (rw [List.length_reverse, hq2]; simp; omega) | simp
          have hA2 : w.heap.size ≤ (w2.alloc (bx x y)).heap.size := by rw [World.size_alloc]; omega
          go_wp2_with (at_builtin; refine wpList_papp rfl (.tmp 37) (.tmp 39) rfl w.heap.size _ (([t]).reverse) [(x, y)] (some ⟨w2.heap.size, 0, none⟩) 1 1 rfl rfl (O2.out.alloc _) rfl (PtsAt.one w2 x y) hA1 hA2 ?_; intro v1 w3 ho hg hat; have HO3 := Lib.hid ho; have HG3 := Lib.hid hg; clear ho hg hat)
          have HB3 : Hid (Below w.heap.size w w3) := Lib.hid ((HB2.out.alloc hsz2 _).grown HG3.out (by simp; omega) (fun k hk => (O2.out.base k hk).1))
          go_wp2_with fail
          go_roundw
          case rel => exact ⟨k + 1, by omega, by go_num, by rw [HN.out, HE.out]; exact HO3.out, HB3.out⟩
          case measure => simp [intOf]; omega
        · have hlr : (t :: a :: r).reverse.length = r.length + 2 := by simp
          have ha : (t :: a :: r).reverse[r.length]? = some a := by
            rw [List.getElem?_reverse (by simp; omega)]
            rw [show (t :: a :: r).length - 1 - r.length = 1 by simp]; rfl
          have ht : (t :: a :: r).reverse[r.length + 1]? = some t := by
            rw [List.getElem?_reverse (by simp)]
            rw [show (t :: a :: r).length - 1 - (r.length + 1) = 0 by simp]; rfl
          obtain ⟨A1, c1, rfl, hc1, hat⟩ := hO.slice_n hlr
          obtain ⟨g, og, rfl, hgl, hin⟩ := hat (by simp)
          obtain ⟨a1, a2⟩ := hin _ _ ha
          obtain ⟨t1, t2⟩ := hin _ _ ht
          have HO := Lib.hid hO
          have HPS : Hid (popW (x, y) (t :: a :: r) = if crossP a t (x, y) ≤ 0 then popW (x, y) (a :: r) else t :: a :: r) := Lib.hid (by rw [popW])
          have hbt := HBDS.out t (by simp)
          have hba := HBDS.out a (by simp)
          have hq : r.length ≤ 100 := by simp at hlen; omega
          clear hO hat hin ha ht hlr hlen
          generalize hql : r.length = q at *
          have HQL := Lib.hid hql
          clear hql
          obtain ⟨tx, ty⟩ := t
          obtain ⟨ax, ay⟩ := a
          have C := fun W => Lib.hid (turn_any ax ay tx ty x y W hba.1 hba.2 hbt.1 hbt.2 x1 x2)
          have HCR : Hid (crossP (ax, ay) (tx, ty) (x, y) = cross ax ay tx ty x y) := Lib.hid rfl
          clear hba hbt
          generalize cross ax ay tx ty x y = cr at *
          have K1 := fun d os => Lib.hid (Calls.regrown_of ((C (grow (redrawn wr d) os)).out))
          have k1 := cell_regrown q1
          have k2 := cell_regrown q2
          have k3 := cell_regrown a1
          have k4 := cell_regrown a2
          have k5 := cell_regrown t1
          have k6 := cell_regrown t2
          clear q1 q2 a1 a2 t1 t2 C
          have hg : decide ((1 : Int) < (q : Int) + 2) = true := decide_eq_true (by omega)
          go_wp2_with fail
          refine wp_region_quiet_below (by kernel_rfl) (by kernel_rfl) ?_
          repeat (go_big_quiet_step (first | (with_reducible exact (K1 _ _).out)))
          refine wpQuiet_nil ?_
          intro _ hw'
          obtain ⟨⟨dq, osq⟩, hw''⟩ := hw'
          subst hw''
          by_cases hcr : cr ≤ 0
          · have HP2 : Hid (popW (x, y) ((ax, ay) :: r) = popW (x, y) st0) := Lib.hid (by rw [← HPOP.out, HPS.out, HCR.out, if_pos hcr])
            have hbr := below_regrown wr dq osq
            generalize grow (redrawn wr dq) osq = w2 at *
            have O2 : Hid (PtsOwn w2 w.heap.size (.slice (some ⟨g, og, none⟩) (q + 1) c1) (((ax, ay) :: r).reverse)) := Lib.hid (by
              have h := (HO.out.belows hbr (Nat.le_refl _)).shrink (n := q + 2) (k := q + 1) (by have := HQL.out; simp; omega) (by omega)
              rw [show ((tx, ty) :: (ax, ay) :: r).reverse.take (q + 1) = ((ax, ay) :: r).reverse by
                rw [List.reverse_cons, List.take_append_of_le_length (by have := HQL.out; simp; omega), List.take_of_length_le (by have := HQL.out; simp; omega)]] at h
              exact h)
            have HB2 := Lib.hid (HBI.out.trans (hbr.mono HBI.out.size))
            clear hbr
            go_wp2_with fail
            go_roundw
            case rel => exact ⟨(ax, ay) :: r, O2.out, HP2.out, (List.suffix_cons _ _).trans HSUF.out, HB2.out⟩
            case measure => simp [slLen]
          · have HNP : Hid (popW (x, y) ((tx, ty) :: (ax, ay) :: r) = (tx, ty) :: (ax, ay) :: r) := Lib.hid (by rw [HPS.out, HCR.out, if_neg hcr])
            have hq2 : ((tx, ty) :: (ax, ay) :: r).length = q + 2 := by have := HQL.out; simp; omega
            have hbr := below_regrown wr dq osq
            generalize grow (redrawn wr dq) osq = w2 at *
            have O2 : Hid (PtsOwn w2 w.heap.size _ ((tx, ty) :: (ax, ay) :: r).reverse) := Lib.hid (HO.out.belows hbr (Nat.le_refl _))
            have HB2 := Lib.hid (HBW.out.trans (hbr.mono HBW.out.size))
            have hg2 : gq < w2.heap.size := Nat.lt_of_lt_of_le hgi hbr.size
            obtain ⟨q1, q2⟩ := PtAt.below hbr hgi Q0.out
            have HE : Hid ((pushW st0 (x, y)).reverse = ((tx, ty) :: (ax, ay) :: r).reverse ++ [(x, y)]) := Lib.hid (by
              have e : popW (x, y) ((tx, ty) :: (ax, ay) :: r) = (tx, ty) :: (ax, ay) :: r := HNP.out
              unfold pushW
              rw [List.reverse_cons, ← HPOP.out, e])
            have hsz2 := HB2.out.size
            clear hbr
            have hA1 : ((tx, ty) :: (ax, ay) :: r).reverse.length + [(x, y)].length ≤ 100000 := by first | (rw [List.length_reverse, hq2]; simp; omega) | simp
            have hA2 : w.heap.size ≤ (w2.alloc (bx x y)).heap.size := by rw [World.size_alloc]; omega
            go_wp2_with (at_builtin; refine wpList_papp rfl (.tmp 37) (.tmp 39) rfl w.heap.size _ (((tx, ty) :: (ax, ay) :: r).reverse) [(x, y)] (some ⟨w2.heap.size, 0, none⟩) 1 1 rfl rfl (O2.out.alloc _) rfl (PtsAt.one w2 x y) hA1 hA2 ?_; intro v1 w3 ho hg hat; have HO3 := Lib.hid ho; have HG3 := Lib.hid hg; clear ho hg hat)
            have HB3 : Hid (Below w.heap.size w w3) := Lib.hid ((HB2.out.alloc hsz2 _).grown HG3.out (by simp; omega) (fun k hk => (O2.out.base k hk).1))
            go_wp2_with fail
            go_roundw
            case rel => exact ⟨k + 1, by omega, by go_num, by rw [HN.out, HE.out]; exact HO3.out, HB3.out⟩
            case measure => simp [intOf]; omega
    · obtain rfl : k = n := by omega
      have HF : Hid ((l.take k).foldl pushW [] = chainW l) := Lib.hid (by rw [List.take_of_length_le (by rw [HL.out]; omega)]; rfl)
      clear hbw
      go_wp2_with fail
      go_ret
      exact ⟨_, rfl, by rw [← HF.out]; exact HO.out, HBW.out⟩
end Go.Proofs.Ytnijcdphmibjaaa
