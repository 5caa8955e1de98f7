/- The reference's Hull. -/
import Derived.Test.YtnijcdphmibjaaaDevChain
namespace Go.Proofs.Ytnijcdphmibjaaa
open Go.RowKit Go.Sort
attribute [local go_sem ↓] run_min_mn run_max_mx Go.wp_at_zero Go.wp_at_succ

def flat0 (l : List Pt) (i k : Nat) : Bool := crossP (gt l 0) (gt l i) (gt l k) == 0
def flatAt (l : List Pt) (i : Nat) : Bool := (List.range l.length).all (flat0 l i)
def flatTo (l : List Pt) (i : Nat) : Bool := (List.range i).all (flatAt l)
def lowTo (l : List Pt) : Nat → Pt
  | 0 => gt l 0
  | i + 1 => if firstP (gt l i) (lowTo l i) then gt l i else lowTo l i

/-- What the reference's Hull leaves: nothing where the points lie on one line, else the hull. -/
def RefHullTo (l H : List Pt) (w : World) (e : Ending) (w' : World) : Prop :=
  Below w.heap.size w w' ∧ ((flatTo l l.length = true ∧ e = .returned (.tuple #[.slice none 0 0, .bool false])) ∨
    (flatTo l l.length = false ∧ ∃ v, e = .returned (.tuple #[v, .bool true]) ∧ PtsOwn w' w.heap.size v H))

theorem PtBlk.one {w : World} {g : Nat} {x y : Int} (h : PtBlk w g [(x, y)]) : PtAt w g x y := by
  obtain ⟨h1, h2⟩ := h.cell (i := 0) (p := (x, y)) rfl
  exact ⟨by simpa using h1, by simpa using h2⟩
theorem PtBlk.put {w : World} {g : Nat} {p : Pt} (h : PtBlk w g [p]) (x y : Int) : PtBlk ((w.setCell ⟨g, 0, none⟩ (.int .i64 x)).setCell ⟨g, 1, none⟩ (.int .i64 y)) g [(x, y)] := by
  simpa using h.set 0 x y
theorem PtBlk.box (w : World) (x y : Int) : PtBlk (w.alloc (bx x y)) w.heap.size [(x, y)] := heap_alloc_new _ _

theorem PtsOwn.one (W : World) (x y : Int) {base : Nat} (hb : base ≤ W.heap.size) : PtsOwn (W.alloc (bx x y)) base (.slice (some ⟨W.heap.size, 0, none⟩) 1 1) [(x, y)] := by
  unfold PtsOwn World.ownsRow
  exact ⟨rfl, .inr ⟨W.heap.size, 1, _, rfl, hb, heap_alloc_new _ _, Nat.le_refl _, by simp [maxLen], rfl, rfl⟩⟩
theorem eqI_iff {a b c d : Int} : eqI a b c d = true ↔ (a, b) = (c, d) := by simp [eqI]

theorem wrap_mem (a : Pt) : ∀ (l : List Pt) (cur : Pt), l.foldl (wrapStep a) cur ∈ l ∨ l.foldl (wrapStep a) cur = cur
  | [], _ => .inr rfl
  | p :: l, cur => by
    rw [List.foldl_cons]
    rcases wrap_mem a l (wrapStep a cur p) with h | h
    · exact .inl (List.mem_cons_of_mem _ h)
    · rw [h]
      unfold wrapStep
      split
      · exact .inr rfl
      · split
        · exact .inl (by simp)
        · exact .inr rfl

theorem flatTo_succ (l : List Pt) (i : Nat) : flatTo l (i + 1) = (flatTo l i && flatAt l i) := by
  unfold flatTo; rw [List.range_succ, List.all_append]; simp
theorem range_all_succ (f : Nat → Bool) (k : Nat) : (List.range (k + 1)).all f = ((List.range k).all f && f k) := by
  rw [List.range_succ, List.all_append]; simp
theorem lowTo_mem {l : List Pt} (h : 0 < l.length) : ∀ i, i ≤ l.length → lowTo l i ∈ l
  | 0, _ => by
    show gt l 0 ∈ l
    unfold gt; rw [List.getD_eq_getElem?_getD, List.getElem?_eq_getElem h]; exact List.getElem_mem h
  | i + 1, hi => by
    unfold lowTo
    split
    · have : i < l.length := by omega
      unfold gt; rw [List.getD_eq_getElem?_getD, List.getElem?_eq_getElem this]; exact List.getElem_mem this
    · exact lowTo_mem h i (by omega)

set_option maxRecDepth 100000 in
set_option maxHeartbeats 8000000 in
theorem refHull_any (b off n c : Nat) (l H : List Pt) (w : World) (hl : l.length = n) (hn : 0 < n) (hn' : n ≤ 100) (h : PtsIn w b off l) (hb : b < w.heap.size) (hbd : ∀ x ∈ l, Bd x)
    (hH : flatTo l n = false → Hull l H (lowTo l n)) (hHn : H.length ≤ 1000) :
    Calls Try.prog 33 #[.slice (some ⟨b, off, none⟩) n c] w (RefHullTo l H w) := by
  have gmem : ∀ i, i < n → gt l i ∈ l := fun i hi => by
    unfold gt; rw [List.getD_eq_getElem?_getD, List.getElem?_eq_getElem (by omega)]; exact List.getElem_mem (by omega)
  have cells : ∀ W, Below w.heap.size w W → ∀ i, i < n → W.cell? ⟨b, off + i * 2, none⟩ = some (.int .i64 (gt l i).1) ∧ W.cell? ⟨b, off + i * 2 + 1, none⟩ = some (.int .i64 (gt l i).2) := fun W hW i hi =>
    (h.below hW hb) i (gt l i) (by unfold gt; rw [List.getD_eq_getElem?_getD, List.getElem?_eq_getElem (by omega)]; rfl)
  have HC := Lib.hid cells
  have HG := Lib.hid gmem
  have HL := Lib.hid hl
  have HBD := Lib.hid hbd
  have HLM : Hid (∀ i, i ≤ n → lowTo l i ∈ l) := Lib.hid fun i hi => lowTo_mem (by omega) i (by omega)
  have HHL := Lib.hid hH
  obtain ⟨z1, z2⟩ := cells w (Below.refl _ _) 0 hn
  simp only [Nat.zero_mul, Nat.add_zero] at z1 z2
  clear hl h hbd cells gmem hH
  go_enter Try.func33, Try.ntmps33
  generalize hz0 : gt l 0 = o at z1 z2
  obtain ⟨ox, oy⟩ := o
  go_upto_region 3 with (fail)
  have B0 : PtBlk (w.alloc (bx ox oy)) w.heap.size [(ox, oy)] := PtBlk.box _ _ _
  have hb0 : Below w.heap.size w (w.alloc (bx ox oy)) := (Below.refl _ _).alloc (Nat.le_refl _) _
  have hs0 : (w.alloc (bx ox oy)).heap.size = w.heap.size + 1 := by simp
  generalize w.alloc (bx ox oy) = w0 at *
  go_wp2_with fail
  have HZ : Hid (∀ W, Below w.heap.size w W → W.cell? ⟨b, off, none⟩ = some (.int .i64 ox) ∧ W.cell? ⟨b, off + 1, none⟩ = some (.int .i64 oy)) := Lib.hid fun W hW =>
    ⟨(hW.cell (p := ⟨b, off, none⟩) hb).trans z1, (hW.cell (p := ⟨b, off + 1, none⟩) hb).trans z2⟩
  have L0 : lowTo l 0 = (ox, oy) := hz0
  clear z1 z2
  go_loopw [4, 6] (fun s i wr => ∃ k : Nat, k ≤ n ∧ i = .int .i64 k ∧ s = .bool (flatTo l k) ∧ PtBlk wr w.heap.size [lowTo l k] ∧ Below w.heap.size w wr ∧ w.heap.size < wr.heap.size) (fun _ i _ => n - (intOf i).toNat)
  case atStart => exact ⟨0, Nat.zero_le _, rfl, rfl, by rw [L0]; exact B0, hb0, by omega⟩
  case round =>
    clear B0 hb0 hs0 L0
    obtain ⟨k, hk, rfl, rfl, hlow, hbw, hgr⟩ := hrel
    have HBW := Lib.hid hbw
    by_cases hlt : k < n
    · obtain ⟨h1, h2⟩ := HC.out wr hbw k hlt
      have hB : b < wr.heap.size := by omega
      have dk := HBD.out _ (HG.out k hlt)
      have dl := HBD.out _ (HLM.out k hk)
      have EL : Hid (lowTo l (k + 1) = if firstP (gt l k) (lowTo l k) then gt l k else lowTo l k) := Lib.hid rfl
      have EF : Hid (flatTo l (k + 1) = (flatTo l k && flatAt l k)) := Lib.hid (flatTo_succ l k)
      have EA : Hid (flatAt l k = (List.range n).all (flat0 l k)) := Lib.hid (by unfold flatAt; rw [HL.out])
      have EC : Hid (∀ q, flat0 l k q = (crossP (ox, oy) (gt l k) (gt l q) == 0)) := Lib.hid fun q => by unfold flat0; rw [hz0]
      have EC2 : Hid (∀ q, q < n → Bd (gt l q)) := Lib.hid fun q hq => HBD.out _ (HG.out q hq)
      have d0 : Bd (ox, oy) := hz0 ▸ HBD.out _ (HG.out 0 (by omega))
      generalize hpk : gt l k = p at *
      generalize hpl : lowTo l k = lo at *
      obtain ⟨x, y⟩ := p
      obtain ⟨lx, ly⟩ := lo
      have HLO := Lib.hid hlow
      obtain ⟨l1, l2⟩ := hlow.one
      have F := fun W => Lib.hid (first_any x y lx ly W)
      have EFB : Hid (firstP (x, y) (lx, ly) = firstB x y lx ly) := Lib.hid rfl
      have K1 := fun d os => Lib.hid (Calls.regrown_of ((F (grow (redrawn wr d) os)).out))
      have k1 := cell_regrown h1
      have k2 := cell_regrown h2
      have k3 := cell_regrown l1
      have k4 := cell_regrown l2
      clear h1 h2 l1 l2 F
      go_wp2_with fail
      refine wp_region_quiet_below (by kernel_rfl) (by kernel_rfl) ?_
      repeat (go_big_quiet_step (first | (with_reducible exact (K1 _ _).out)))
      refine wpQuiet_nil ?_
      intro _ hw'
      obtain ⟨⟨dq, osq⟩, hw''⟩ := hw'
      subst hw''
      have hbr := below_regrown wr dq osq
      have HB2 := Lib.hid (HBW.out.trans (hbr.mono HBW.out.size))
      have HLO2 := Lib.hid (HLO.out.below hbr hgr)
      have hg2 := Nat.lt_of_lt_of_le hgr hbr.size
      obtain ⟨h1, h2⟩ := HC.out _ HB2.out k hlt
      rw [hpk] at h1 h2
      generalize grow (redrawn wr dq) osq = w2 at *
      clear hbr k1 k2 k3 k4
      obtain ⟨l1, l2⟩ := HLO2.out.one
      have f1 := HLO2.out.frozen 0
      have f2 := HLO2.out.frozen 1
      cases hf : firstB x y lx ly
      · have LO3 : Hid (PtBlk w2 w.heap.size [lowTo l (k + 1)]) := Lib.hid (by
          rw [EL.out, EFB.out, hf]; exact HLO2.out)
        have HB3 := HB2
        have hg3 := hg2
        clear f1 f2 l1 l2 h1 h2 HB2 HLO2
        have HT : Hid (∀ q, (List.range (q + 1)).all (flat0 l k) = ((List.range q).all (flat0 l k) && flat0 l k q)) := Lib.hid fun q => range_all_succ _ q
        go_wp2_with fail
        go_loopw [4, 7] (fun s i wi => ∃ q : Nat, q ≤ n ∧ i = .int .i64 q ∧ s = .bool (flatTo l k && (List.range q).all (flat0 l k)) ∧ PtBlk wi w.heap.size [lowTo l (k + 1)] ∧ Below w.heap.size w wi ∧ w.heap.size < wi.heap.size) (fun _ i _ => n - (intOf i).toNat)
        case atStart => exact ⟨0, Nat.zero_le _, rfl, by simp, LO3.out, HB3.out, hg3⟩
        case round =>
          clear LO3 HB3 hg3
          obtain ⟨q, hq, rfl, rfl, hlo, hbq, hgq⟩ := hrel
          have HLQ := Lib.hid hlo
          have HBQ := Lib.hid hbq
          by_cases hlq : q < n
          · have HS : Hid ((flatTo l k && (List.range (q + 1)).all (flat0 l k)) = ((flatTo l k && (List.range q).all (flat0 l k)) && flat0 l k q)) := Lib.hid (by rw [HT.out, Bool.and_assoc])
            have HFE : Hid ((flatTo l k && (List.range q).all (flat0 l k)) = false → flatTo l (k + 1) = false) := Lib.hid fun hh => by
              rw [EF.out, EA.out]
              cases hf2 : flatTo l k
              · rfl
              · rw [hf2, Bool.true_and] at hh
                rw [Bool.true_and]
                rw [List.all_eq_false] at hh ⊢
                obtain ⟨z, hz, hz2⟩ := hh
                exact ⟨z, List.mem_range.2 (by have := List.mem_range.1 hz; omega), hz2⟩
            generalize (flatTo l k && (List.range q).all (flat0 l k)) = tb at *
            cases tb
            · have HF0 := Lib.hid (HFE.out rfl)
              go_wp2_with fail
              go_roundw
              case rel => exact ⟨k + 1, by omega, by go_num, by rw [HF0.out], HLQ.out, HBQ.out, hgq⟩
              case measure => simp [intOf]; omega
            · obtain ⟨j1, j2⟩ := HZ.out wr hbq
              obtain ⟨j3, j4⟩ := HC.out wr hbq k hlt
              obtain ⟨j5, j6⟩ := HC.out wr hbq q hlq
              rw [hpk] at j3 j4
              have ECQ := Lib.hid (EC.out q)
              have dq2 := EC2.out q hlq
              generalize gt l q = pq at *
              obtain ⟨rx, ry⟩ := pq
              have C := fun W => Lib.hid (cross_any ox oy x y rx ry W d0.1 d0.2 dk.1 dk.2 dq2.1 dq2.2)
              replace ECQ : Hid (flat0 l k q = (cross ox oy x y rx ry == 0)) := ECQ
              clear dq2
              generalize cross ox oy x y rx ry = cr at *
              have KC := fun d os => Lib.hid (Calls.regrown_of ((C (grow (redrawn wr d) os)).out))
              have t1 := cell_regrown j1
              have t2 := cell_regrown j2
              have t3 := cell_regrown j3
              have t4 := cell_regrown j4
              have t5 := cell_regrown j5
              have t6 := cell_regrown j6
              clear j1 j2 j3 j4 j5 j6 C
              go_wp2_with fail
              refine wp_region_quiet_below (by kernel_rfl) (by kernel_rfl) ?_
              repeat (go_big_quiet_step (first | (with_reducible exact (KC _ _).out)))
              refine wpQuiet_nil ?_
              intro _ hw'
              obtain ⟨⟨dq, osq⟩, hw''⟩ := hw'
              subst hw''
              have hbr := below_regrown wr dq osq
              have HBQ2 := Lib.hid (HBQ.out.trans (hbr.mono HBQ.out.size))
              have HLQ2 := Lib.hid (HLQ.out.below hbr hgq)
              have hgq2 := Nat.lt_of_lt_of_le hgq hbr.size
              generalize grow (redrawn wr dq) osq = w4 at *
              clear hbr t1 t2 t3 t4 t5 t6
              go_wp2_with fail
              go_roundw
              case rel => exact ⟨q + 1, by omega, by go_num, by rw [HS.out, ECQ.out]; rfl, HLQ2.out, HBQ2.out, hgq2⟩
              case measure => simp [intOf]; omega
          · obtain rfl : q = n := by omega
            have HFE : Hid ((flatTo l k && (List.range q).all (flat0 l k)) = flatTo l (k + 1)) := Lib.hid (by rw [EF.out, EA.out])
            have HFI : Hid (∀ tb, (flatTo l k && (List.range q).all (flat0 l k)) = tb → tb = flatTo l (k + 1)) := Lib.hid fun tb e => e ▸ HFE.out
            generalize htb : (flatTo l k && (List.range q).all (flat0 l k)) = tb at *
            have HFT := Lib.hid (HFI.out tb rfl)
            clear HFE HFI htb
            cases tb
            all_goals
              go_wp2_with fail
              go_roundw
              case rel => exact ⟨k + 1, by omega, by go_num, by rw [← HFT.out], HLQ.out, HBQ.out, hgq⟩
              case measure => simp [intOf]; omega
      · have LO3 : Hid (PtBlk ((w2.setCell ⟨w.heap.size, 0, none⟩ (.int .i64 x)).setCell ⟨w.heap.size, 1, none⟩ (.int .i64 y)) w.heap.size [lowTo l (k + 1)]) := Lib.hid (by
          rw [EL.out, EFB.out, hf]; exact HLO2.out.put x y)
        have HB3 : Hid (Below w.heap.size w ((w2.setCell ⟨w.heap.size, 0, none⟩ (.int .i64 x)).setCell ⟨w.heap.size, 1, none⟩ (.int .i64 y))) := Lib.hid ((HB2.out.setCell (by simp) _).setCell (by simp) _)
        have hg3 : w.heap.size < ((w2.setCell ⟨w.heap.size, 0, none⟩ (.int .i64 x)).setCell ⟨w.heap.size, 1, none⟩ (.int .i64 y)).heap.size := by simpa using hg2
        clear HB2 HLO2
        have HT : Hid (∀ q, (List.range (q + 1)).all (flat0 l k) = ((List.range q).all (flat0 l k) && flat0 l k q)) := Lib.hid fun q => range_all_succ _ q
        go_wp2_with fail
        go_loopw [4, 7] (fun s i wi => ∃ q : Nat, q ≤ n ∧ i = .int .i64 q ∧ s = .bool (flatTo l k && (List.range q).all (flat0 l k)) ∧ PtBlk wi w.heap.size [lowTo l (k + 1)] ∧ Below w.heap.size w wi ∧ w.heap.size < wi.heap.size) (fun _ i _ => n - (intOf i).toNat)
        case atStart => exact ⟨0, Nat.zero_le _, rfl, by simp, LO3.out, HB3.out, hg3⟩
        case round =>
          clear LO3 HB3 hg3
          obtain ⟨q, hq, rfl, rfl, hlo, hbq, hgq⟩ := hrel
          have HLQ := Lib.hid hlo
          have HBQ := Lib.hid hbq
          by_cases hlq : q < n
          · have HS : Hid ((flatTo l k && (List.range (q + 1)).all (flat0 l k)) = ((flatTo l k && (List.range q).all (flat0 l k)) && flat0 l k q)) := Lib.hid (by rw [HT.out, Bool.and_assoc])
            have HFE : Hid ((flatTo l k && (List.range q).all (flat0 l k)) = false → flatTo l (k + 1) = false) := Lib.hid fun hh => by
              rw [EF.out, EA.out]
              cases hf2 : flatTo l k
              · rfl
              · rw [hf2, Bool.true_and] at hh
                rw [Bool.true_and]
                rw [List.all_eq_false] at hh ⊢
                obtain ⟨z, hz, hz2⟩ := hh
                exact ⟨z, List.mem_range.2 (by have := List.mem_range.1 hz; omega), hz2⟩
            generalize (flatTo l k && (List.range q).all (flat0 l k)) = tb at *
            cases tb
            · have HF0 := Lib.hid (HFE.out rfl)
              go_wp2_with fail
              go_roundw
              case rel => exact ⟨k + 1, by omega, by go_num, by rw [HF0.out], HLQ.out, HBQ.out, hgq⟩
              case measure => simp [intOf]; omega
            · obtain ⟨j1, j2⟩ := HZ.out wr hbq
              obtain ⟨j3, j4⟩ := HC.out wr hbq k hlt
              obtain ⟨j5, j6⟩ := HC.out wr hbq q hlq
              rw [hpk] at j3 j4
              have ECQ := Lib.hid (EC.out q)
              have dq2 := EC2.out q hlq
              generalize gt l q = pq at *
              obtain ⟨rx, ry⟩ := pq
              have C := fun W => Lib.hid (cross_any ox oy x y rx ry W d0.1 d0.2 dk.1 dk.2 dq2.1 dq2.2)
              replace ECQ : Hid (flat0 l k q = (cross ox oy x y rx ry == 0)) := ECQ
              clear dq2
              generalize cross ox oy x y rx ry = cr at *
              have KC := fun d os => Lib.hid (Calls.regrown_of ((C (grow (redrawn wr d) os)).out))
              have t1 := cell_regrown j1
              have t2 := cell_regrown j2
              have t3 := cell_regrown j3
              have t4 := cell_regrown j4
              have t5 := cell_regrown j5
              have t6 := cell_regrown j6
              clear j1 j2 j3 j4 j5 j6 C
              go_wp2_with fail
              refine wp_region_quiet_below (by kernel_rfl) (by kernel_rfl) ?_
              repeat (go_big_quiet_step (first | (with_reducible exact (KC _ _).out)))
              refine wpQuiet_nil ?_
              intro _ hw'
              obtain ⟨⟨dq, osq⟩, hw''⟩ := hw'
              subst hw''
              have hbr := below_regrown wr dq osq
              have HBQ2 := Lib.hid (HBQ.out.trans (hbr.mono HBQ.out.size))
              have HLQ2 := Lib.hid (HLQ.out.below hbr hgq)
              have hgq2 := Nat.lt_of_lt_of_le hgq hbr.size
              generalize grow (redrawn wr dq) osq = w4 at *
              clear hbr t1 t2 t3 t4 t5 t6
              go_wp2_with fail
              go_roundw
              case rel => exact ⟨q + 1, by omega, by go_num, by rw [HS.out, ECQ.out]; rfl, HLQ2.out, HBQ2.out, hgq2⟩
              case measure => simp [intOf]; omega
          · obtain rfl : q = n := by omega
            have HFE : Hid ((flatTo l k && (List.range q).all (flat0 l k)) = flatTo l (k + 1)) := Lib.hid (by rw [EF.out, EA.out])
            have HFI : Hid (∀ tb, (flatTo l k && (List.range q).all (flat0 l k)) = tb → tb = flatTo l (k + 1)) := Lib.hid fun tb e => e ▸ HFE.out
            generalize htb : (flatTo l k && (List.range q).all (flat0 l k)) = tb at *
            have HFT := Lib.hid (HFI.out tb rfl)
            clear HFE HFI htb
            cases tb
            all_goals
              go_wp2_with fail
              go_roundw
              case rel => exact ⟨k + 1, by omega, by go_num, by rw [← HFT.out], HLQ.out, HBQ.out, hgq⟩
              case measure => simp [intOf]; omega
    · obtain rfl : k = n := by omega
      generalize hfl : flatTo l k = fb at *
      cases fb
      · have HH := Lib.hid (HHL.out rfl)
        have HFL : Hid (flatTo l l.length = false) := Lib.hid (by rw [HL.out]; exact hfl)
        clear HHL hfl
        have HLO := Lib.hid hlow
        have hlm := HBD.out _ (HLM.out k (Nat.le_refl _))
        clear hlow hbw
        generalize lowTo l k = lo at *
        obtain ⟨lx, ly⟩ := lo
        obtain ⟨l1, l2⟩ := HLO.out.one
        have hsz := HBW.out.size
        have O1 : Hid (PtsOwn (wr.alloc (bx lx ly)) (w.heap.size + 1) (.slice (some ⟨wr.heap.size, 0, none⟩) 1 1) (H.take (0 + 1))) := Lib.hid (by
          have : H.take (0 + 1) = [(lx, ly)] := by
            have h0 : 0 < H.length := by have := HH.out.two; omega
            have e := HH.out.first
            unfold gt at e
            rw [List.getD_eq_getElem?_getD, List.getElem?_eq_getElem h0] at e
            simp only [Option.getD_some] at e
            rw [List.take_succ_eq_append_getElem h0, e]; rfl
          rw [this]
          exact PtsOwn.one wr lx ly hgr)
        have L1 := Lib.hid (HLO.out.alloc (bx lx ly))
        have B1 : Hid (Below w.heap.size w (wr.alloc (bx lx ly))) := Lib.hid (HBW.out.alloc hsz _)
        have hg1 : w.heap.size + 1 ≤ (wr.alloc (bx lx ly)).heap.size := by simp; omega
        obtain ⟨wo, rfl⟩ : ∃ wo : World, wo = wr := ⟨_, rfl⟩
        go_wp2_with fail
        go_loopw [8] (fun s wr => ∃ j : Nat, j < H.length ∧ PtsOwn wr (w.heap.size + 1) s (H.take (j + 1)) ∧ PtBlk wr w.heap.size [(lx, ly)] ∧ Below w.heap.size w wr ∧ w.heap.size + 1 ≤ wr.heap.size) (fun s _ => H.length - slLen s)
        case atStart => exact ⟨0, by have := HH.out.two; omega, O1.out, L1.out, B1.out, hg1⟩
        case round =>
          clear O1 L1 B1 hg1 HLO HBW l1 l2 hsz hgr
          obtain ⟨j, hj, hO, hlo, hbw, hgr⟩ := hrel
          have hjl : (H.take (j + 1)).length = j + 1 := by rw [List.length_take]; omega
          obtain ⟨A1, c1, rfl, hc1, hat⟩ := hO.slice_n hjl
          obtain ⟨g, og, rfl, hgl, hin⟩ := hat (by intro e; rw [e] at hjl; simp at hjl)
          obtain ⟨a1, a2⟩ := hin j (gt H j) (by
            rw [List.getElem?_take, if_pos (by omega)]
            unfold gt; rw [List.getD_eq_getElem?_getD, List.getElem?_eq_getElem hj]; rfl)
          have HO := Lib.hid hO
          have HLO := Lib.hid hlo
          have HBW := Lib.hid hbw
          have HED := Lib.hid (HH.out.edge j hj)
          have HNX : Hid (nx H j = (lx, ly) → j + 1 = H.length) := Lib.hid fun e => by
            rcases Nat.lt_or_ge (j + 1) H.length with q | q
            · rw [gt_nx q] at e
              exact absurd e (HH.out.once (j + 1) (by omega) q)
            · omega
          have HNY : Hid (nx H j ≠ (lx, ly) → j + 1 < H.length ∧ H.take (j + 2) = H.take (j + 1) ++ [nx H j]) := Lib.hid fun e => by
            rcases Nat.lt_or_ge (j + 1) H.length with q | q
            · refine ⟨q, ?_⟩
              rw [gt_nx q, List.take_succ_eq_append_getElem q]
              simp [gt, List.getD, q]
            · exfalso
              apply e
              have : j + 1 = H.length := by omega
              show gt H ((j + 1) % H.length) = _
              rw [this, Nat.mod_self]; exact HH.out.first
          have da := HBD.out _ HED.out.fst
          have hle := HBD.out _ HED.out.snd
          clear hO hat hin hlo hbw
          generalize hpa : gt H j = p at *
          obtain ⟨ax, ay⟩ := p
          have A0 : Hid (PtAt ((wr.alloc (bx ax ay)).alloc (bx ax ay)) wr.heap.size ax ay) := Lib.hid (PtAt.new.alloc _ (by simp))
          have T0 : Hid (PtBlk ((wr.alloc (bx ax ay)).alloc (bx ax ay)) (wr.heap.size + 1) [(ax, ay)]) := Lib.hid (by
            have := PtBlk.box (wr.alloc (bx ax ay)) ax ay
            rwa [World.size_alloc] at this)
          have B0' : Hid (Below wr.heap.size wr ((wr.alloc (bx ax ay)).alloc (bx ax ay))) := Lib.hid ((Below.refl _ _).alloc (Nat.le_refl _) _ |>.alloc (by simp) _)
          have hz2 : ((wr.alloc (bx ax ay)).alloc (bx ax ay)).heap.size = wr.heap.size + 2 := by simp
          obtain ⟨wo, rfl⟩ : ∃ wo : World, wo = wr := ⟨_, rfl⟩
          have hgo : g < wo.heap.size := hgl
          go_wp2_with fail
          generalize (wo.alloc (bx ax ay)).alloc (bx ax ay) = wb at *
          generalize hgo' : wo.heap.size = ga at *
          have hba : w.heap.size < ga := by omega
          go_loopw [11] (fun i wr => ∃ q : Nat, q ≤ k ∧ i = .int .i64 q ∧ PtBlk wr (ga + 1) [(l.take q).foldl (wrapStep (ax, ay)) (ax, ay)] ∧ Below (ga + 1) wb wr ∧ ga + 2 ≤ wr.heap.size) (fun i _ => k - (intOf i).toNat)
          case atStart => exact ⟨0, Nat.zero_le _, rfl, T0.out, Below.refl _ _, by omega⟩
          case round =>
            clear T0 hz2 a1 a2
            obtain ⟨q, hq, rfl, hto, hbi, hgi⟩ := hrel
            have HTO := Lib.hid hto
            have HBI := Lib.hid hbi
            have HBO : Hid (Below ga wo wr) := Lib.hid (B0'.out.trans (hbi.mono (by omega)))
            have HBWQ : Hid (Below w.heap.size w wr) := Lib.hid (HBW.out.trans (HBO.out.mono (by omega)))
            have HLQ : Hid (PtBlk wr w.heap.size [(lx, ly)]) := Lib.hid (HLO.out.below HBO.out hba)
            have HAQ : Hid (PtAt wr ga ax ay) := Lib.hid (PtAt.below hbi (by omega) A0.out)
            have HTM : Hid (Bd ((l.take q).foldl (wrapStep (ax, ay)) (ax, ay))) := Lib.hid (by
              rcases wrap_mem (ax, ay) (l.take q) (ax, ay) with h | h
              · exact HBD.out _ (List.take_subset _ _ h)
              · rw [h]; exact da)
            clear hto hbi
            by_cases hlq : q < k
            · obtain ⟨h1, h2⟩ := HC.out wr HBWQ.out q hlq
              have hB : b < wr.heap.size := by omega
              have ES : Hid ((l.take (q + 1)).foldl (wrapStep (ax, ay)) (ax, ay) = wrapStep (ax, ay) ((l.take q).foldl (wrapStep (ax, ay)) (ax, ay)) (gt l q)) := Lib.hid (by
                have hql : q < l.length := by rw [HL.out]; exact hlq
                rw [List.take_succ_eq_append_getElem hql, List.foldl_append]
                simp [gt, List.getD, hql])
              have dp := HBD.out _ (HG.out q hlq)
              have dt := HTM.out
              generalize (l.take q).foldl (wrapStep (ax, ay)) (ax, ay) = tt at *
              generalize gt l q = pp at *
              obtain ⟨tx, ty⟩ := tt
              obtain ⟨px, py⟩ := pp
              have gp := guard_pt
              have ep := eq_pt px py ax ay
              have hb5 : Below wr.heap.size wr (wr.alloc (bx px py)) := (Below.refl _ _).alloc (Nat.le_refl _) _
              have hs5 : (wr.alloc (bx px py)).heap.size = wr.heap.size + 1 := by simp
              have hs5' : (wr.alloc (.cells #[.int .i64 px, .int .i64 py] 33)).heap.size = wr.heap.size + 1 := by simp
              have P5 : PtAt (wr.alloc (bx px py)) wr.heap.size px py := PtAt.new
              obtain ⟨b1, b2⟩ := HAQ.out
              obtain ⟨c1', c2'⟩ := HTO.out.one
              have hg1 : ga < wr.heap.size := by omega
              have hg2 : ga + 1 < wr.heap.size := by omega
              cases he : eqI px py ax ay
              · have hne : ¬ ((px, py) = (ax, ay)) := fun e => by rw [eqI_iff.2 e] at he; cases he
                have HYES : Hid ((tx, ty) = (ax, ay) ∨ crossP (ax, ay) (tx, ty) (px, py) < 0 ∨ (crossP (ax, ay) (tx, ty) (px, py) = 0 ∧ onP (ax, ay) (px, py) (tx, ty) = true) → wrapStep (ax, ay) (tx, ty) (px, py) = (px, py)) := Lib.hid fun hh => by
                  unfold wrapStep; rw [if_neg hne, if_pos hh]
                have HNO : Hid (¬ ((tx, ty) = (ax, ay) ∨ crossP (ax, ay) (tx, ty) (px, py) < 0 ∨ (crossP (ax, ay) (tx, ty) (px, py) = 0 ∧ onP (ax, ay) (px, py) (tx, ty) = true)) → wrapStep (ax, ay) (tx, ty) (px, py) = (tx, ty)) := Lib.hid fun hh => by
                  unfold wrapStep; rw [if_neg hne, if_neg hh]
                have C := fun W => Lib.hid (cross_any ax ay tx ty px py W da.1 da.2 dt.1 dt.2 dp.1 dp.2)
                have TO := fun W => Lib.hid (on_any ax ay px py tx ty W da.1 da.2 dp.1 dp.2 dt.1 dt.2)
                have HCR : Hid (crossP (ax, ay) (tx, ty) (px, py) = cross ax ay tx ty px py) := Lib.hid rfl
                have HON : Hid (onP (ax, ay) (px, py) (tx, ty) = onB ax ay px py tx ty) := Lib.hid rfl
                clear hne
                generalize cross ax ay tx ty px py = cr at *
                generalize onB ax ay px py tx ty = ob at *
                go_wp2_with fail
                refine ((C _).out).mono ?_
                rintro e w5 ⟨rfl, hb6⟩
                have hb7 := hb5.trans (hb6.mono hb5.size)
                obtain ⟨b1, b2⟩ := PtAt.below hb7 hg1 HAQ.out
                have HT5 := Lib.hid (HTO.out.below hb7 hg2)
                obtain ⟨c1', c2'⟩ := HT5.out.one
                have f1 := HT5.out.frozen 0
                have f2 := HT5.out.frozen 1
                obtain ⟨e1, e2⟩ := PtAt.below hb6 (by rw [hs5]; omega) P5
                have HBI5 : Hid (Below (ga + 1) wb w5) := Lib.hid (HBI.out.trans (hb7.mono (by omega)))
                have hgi5 : ga + 2 ≤ w5.heap.size := by have := hb7.size; omega
                have hgp : wr.heap.size < w5.heap.size := by have := hb6.size; rw [hs5'] at this; omega
                clear hb5 hb6 hb7 P5 ep h1 h2 he C
                have ep := eq_pt tx ty ax ay
                cases he2 : eqI tx ty ax ay
                · have hne2 : ¬ ((tx, ty) = (ax, ay)) := fun e => by rw [eqI_iff.2 e] at he2; cases he2
                  by_cases hc0 : cr < 0
                  · have hd1 : decide (cr < 0) = true := decide_eq_true hc0
                    have HSIDE : Hid ((tx, ty) = (ax, ay) ∨ crossP (ax, ay) (tx, ty) (px, py) < 0 ∨ (crossP (ax, ay) (tx, ty) (px, py) = 0 ∧ onP (ax, ay) (px, py) (tx, ty) = true)) := Lib.hid (.inr (.inl (by rw [HCR.out]; exact hc0)))
                    clear hne2
                    go_wp2_with fail
                    go_roundw
                    case rel => exact ⟨q + 1, by omega, by go_num, by rw [ES.out, HYES.out HSIDE.out]; exact HT5.out.put px py, (HBI5.out.setCell (by simp) _).setCell (by simp) _, by simpa using hgi5⟩
                    case measure => simp [intOf]; omega
                  · have hd1 : decide (cr < 0) = false := decide_eq_false hc0
                    cases hd2 : (cr == 0)
                    · have HSIDE : Hid (¬ ((tx, ty) = (ax, ay) ∨ crossP (ax, ay) (tx, ty) (px, py) < 0 ∨ (crossP (ax, ay) (tx, ty) (px, py) = 0 ∧ onP (ax, ay) (px, py) (tx, ty) = true))) := Lib.hid (by
                        rw [HCR.out]
                        rintro (h | h | ⟨h, _⟩)
                        · exact hne2 h
                        · exact hc0 h
                        · rw [h] at hd2; cases hd2)
                      clear hne2
                      go_wp2_with fail
                      go_roundw
                      case rel => exact ⟨q + 1, by omega, by go_num, by rw [ES.out, HNO.out HSIDE.out]; exact HT5.out, HBI5.out, hgi5⟩
                      case measure => simp [intOf]; omega
                    · have hcz : cr = 0 := by simpa using hd2
                      cases hob : ob
                      · have HSIDE : Hid (¬ ((tx, ty) = (ax, ay) ∨ crossP (ax, ay) (tx, ty) (px, py) < 0 ∨ (crossP (ax, ay) (tx, ty) (px, py) = 0 ∧ onP (ax, ay) (px, py) (tx, ty) = true))) := Lib.hid (by
                          rw [HCR.out, HON.out, hob]
                          rintro (h | h | ⟨_, h⟩)
                          · exact hne2 h
                          · exact hc0 h
                          · cases h)
                        rw [hob] at TO
                        clear hne2
                        go_wp2_with fail
                        refine ((TO _).out).mono ?_
                        rintro e w6 ⟨rfl, hb6⟩
                        replace HT5 := Lib.hid (HT5.out.below hb6 (by omega))
                        replace HBI5 : Hid (Below (ga + 1) wb w6) := Lib.hid (HBI5.out.trans (hb6.mono (by omega)))
                        replace hgi5 : ga + 2 ≤ w6.heap.size := by have := hb6.size; omega
                        go_wp2_with fail
                        go_roundw
                        case rel => exact ⟨q + 1, by omega, by go_num, by rw [ES.out, HNO.out HSIDE.out]; exact HT5.out, HBI5.out, hgi5⟩
                        case measure => simp [intOf]; omega
                      · have HSIDE : Hid ((tx, ty) = (ax, ay) ∨ crossP (ax, ay) (tx, ty) (px, py) < 0 ∨ (crossP (ax, ay) (tx, ty) (px, py) = 0 ∧ onP (ax, ay) (px, py) (tx, ty) = true)) := Lib.hid (.inr (.inr ⟨by rw [HCR.out]; exact hcz, by rw [HON.out, hob]⟩))
                        rw [hob] at TO
                        clear hne2
                        go_wp2_with fail
                        refine ((TO _).out).mono ?_
                        rintro e w6 ⟨rfl, hb6⟩
                        obtain ⟨e1, e2⟩ := PtAt.below hb6 hgp ⟨e1, e2⟩
                        replace HT5 := Lib.hid (HT5.out.below hb6 (by omega))
                        replace HBI5 : Hid (Below (ga + 1) wb w6) := Lib.hid (HBI5.out.trans (hb6.mono (by omega)))
                        replace hgi5 : ga + 2 ≤ w6.heap.size := by have := hb6.size; omega
                        obtain ⟨c1', c2'⟩ := HT5.out.one
                        have f1 := HT5.out.frozen 0
                        have f2 := HT5.out.frozen 1
                        go_wp2_with fail
                        go_roundw
                        case rel => exact ⟨q + 1, by omega, by go_num, by rw [ES.out, HYES.out HSIDE.out]; exact HT5.out.put px py, (HBI5.out.setCell (by simp) _).setCell (by simp) _, by simpa using hgi5⟩
                        case measure => simp [intOf]; omega
                · have HSIDE : Hid ((tx, ty) = (ax, ay) ∨ crossP (ax, ay) (tx, ty) (px, py) < 0 ∨ (crossP (ax, ay) (tx, ty) (px, py) = 0 ∧ onP (ax, ay) (px, py) (tx, ty) = true)) := Lib.hid (.inl (eqI_iff.1 he2))
                  go_wp2_with fail
                  go_roundw
                  case rel => exact ⟨q + 1, by omega, by go_num, by rw [ES.out, HYES.out HSIDE.out]; exact HT5.out.put px py, (HBI5.out.setCell (by simp) _).setCell (by simp) _, by simpa using hgi5⟩
                  case measure => simp [intOf]; omega
              · have HKE : Hid (wrapStep (ax, ay) (tx, ty) (px, py) = (tx, ty)) := Lib.hid (by unfold wrapStep; rw [if_pos (eqI_iff.1 he)])
                go_wp2_with fail
                go_roundw
                case rel => exact ⟨q + 1, by omega, by go_num, by rw [ES.out, HKE.out]; exact HTO.out.alloc _, HBI.out.trans (hb5.mono (by omega)), by rw [hs5']; omega⟩
                case measure => simp [intOf]; omega
            · obtain rfl : q = k := by omega
              have HW : Hid ((l.take q).foldl (wrapStep (ax, ay)) (ax, ay) = nx H j) := Lib.hid (by
                rw [List.take_of_length_le (by rw [HL.out]; omega)]
                exact wrap_edge HED.out)
              rw [HW.out] at HTO
              clear HTM HW
              have O6 := Lib.hid (HO.out.belows HBO.out (Nat.le_of_eq hgo'))
              obtain ⟨l1, l2⟩ := HLQ.out.one
              generalize hnt : nx H j = t at *
              obtain ⟨tx, ty⟩ := t
              obtain ⟨t1, t2⟩ := HTO.out.one
              have gp := guard_pt
              have ep := eq_pt tx ty lx ly
              cases he : eqI tx ty lx ly
              · obtain ⟨hj2, htk⟩ := HNY.out (fun e => by rw [eqI_iff.2 e] at he; cases he)
                have HTK := Lib.hid htk
                have hA1 : (H.take (j + 1)).length + [(tx, ty)].length ≤ 100000 := by rw [hjl]; simp; omega
                have hA2 : w.heap.size + 1 ≤ (wr.alloc (bx tx ty)).heap.size := by rw [World.size_alloc]; omega
                clear htk HNX HNY HED
                go_wp2_with (at_builtin; refine wpList_papp rfl (.tmp 104) (.tmp 106) rfl (w.heap.size + 1) _ (H.take (j + 1)) [(tx, ty)] (some ⟨wr.heap.size, 0, none⟩) 1 1 rfl rfl (O6.out.alloc _) rfl (PtsAt.one wr tx ty) hA1 hA2 ?_; intro v1 w7 ho hg hat; have HO7 := Lib.hid ho; have HG7 := Lib.hid hg; clear ho hg hat)
                have HB7 : Hid (Below (w.heap.size + 1) wr w7) := Lib.hid (((Below.refl _ _).alloc (by omega) _).grown HG7.out hA2 (fun k hk => (O6.out.base k hk).1))
                have HO8 : Hid (PtsOwn w7 (w.heap.size + 1) v1 (H.take (j + 1 + 1))) := Lib.hid (by rw [HTK.out]; exact HO7.out)
                have hs7 : w.heap.size + 1 ≤ w7.heap.size := by have := HB7.out.size; omega
                have HL7 := Lib.hid (HLQ.out.below HB7.out (by omega))
                have HW7 := Lib.hid (HBWQ.out.trans (HB7.out.mono (by omega)))
                clear HO7 HG7 hA1 hA2
                go_wp2_with fail
                go_roundw
                case rel => exact ⟨j + 1, hj2, HO8.out, HL7.out, HW7.out, hs7⟩
                case measure =>
                  obtain ⟨A9, c9, e9, _, _⟩ := HO8.out.slice_n (n := j + 2) (by rw [List.length_take]; omega)
                  rw [e9]
                  simp [slLen]; omega
              · have hjH : j + 1 = H.length := HNX.out (eqI_iff.1 he)
                have HOF : Hid (PtsOwn wr w.heap.size (.slice (some ⟨g, og, none⟩) (j + 1) c1) H) := Lib.hid (by
                  have := O6.out.low (base' := w.heap.size) (by omega)
                  rwa [show H.take (j + 1) = H by rw [hjH, List.take_length]] at this)
                clear HNX HNY HED
                go_wp2_with fail
                go_ret2
                exact ⟨HBWQ.out, .inr ⟨HFL.out, _, rfl, HOF.out⟩⟩
      · have HFL : Hid (flatTo l l.length = true) := Lib.hid (by rw [HL.out]; exact hfl)
        go_wp2_with fail
        go_ret2
        exact ⟨HBW.out, .inl ⟨HFL.out, rfl⟩⟩
end Go.Proofs.Ytnijcdphmibjaaa
