/- Parts of the proof, one after the other: RefHull, BoxDev, BoxRef, PolysOwn, HullConvex, HullWhere, DevClone, DevSort, DevHull. -/
import Derived.Test.YthbekbfhpedghaaNd3
import Derived.Test.YthbekbfhpedghaaNd1
import Derived.StillTailTactics
import Derived.Lib.SliceRun
import Derived.Shelf.GgSortFunc.InsertionK
/- The reference's Hull. -/
namespace Go.Proofs.Ythbekbfhpedghaa
open Go.RowKit Go.Sort
attribute [local go_sem ↓] run_min_mn run_max_mx Go.wp_at_zero Go.wp_at_succ

def flat0 (l : List Pt) (i k : Nat) : Bool := crossP (gt l 0) (gt l i) (gt l k) == 0
def flatAt (l : List Pt) (i : Nat) : Bool := (List.range l.length).all (flat0 l i)
def flatTo (l : List Pt) (i : Nat) : Bool := (List.range i).all (flatAt l)
def lowTo (l : List Pt) : Nat → Pt
  | 0 => gt l 0
  | i + 1 => if firstP (gt l i) (lowTo l i) then gt l i else lowTo l i

/-- What the reference's Hull leaves: nothing where the points lie on one line, else the hull. -/
def RefHullTo (l H : List Pt) (w : World) (e : Ending) (w' : World) : Prop :=
  Below w.heap.size w w' ∧ ((flatTo l l.length = true ∧ e = .returned (.tuple #[.slice none 0 0, .bool false])) ∨
    (flatTo l l.length = false ∧ ∃ v, e = .returned (.tuple #[v, .bool true]) ∧ PtsOwn w' w.heap.size v H))

theorem PtBlk.one {w : World} {g : Nat} {x y : Int} (h : PtBlk w g [(x, y)]) : PtAt w g x y := by
  obtain ⟨h1, h2⟩ := h.cell (i := 0) (p := (x, y)) rfl
  exact ⟨by simpa using h1, by simpa using h2⟩
theorem PtBlk.put {w : World} {g : Nat} {p : Pt} (h : PtBlk w g [p]) (x y : Int) : PtBlk ((w.setCell ⟨g, 0, none⟩ (.int .i64 x)).setCell ⟨g, 1, none⟩ (.int .i64 y)) g [(x, y)] := by
  simpa using h.set 0 x y
theorem PtBlk.box (w : World) (x y : Int) : PtBlk (w.alloc (bx x y)) w.heap.size [(x, y)] := heap_alloc_new _ _

theorem PtsOwn.one (W : World) (x y : Int) {base : Nat} (hb : base ≤ W.heap.size) : PtsOwn (W.alloc (bx x y)) base (.slice (some ⟨W.heap.size, 0, none⟩) 1 1) [(x, y)] := by
  unfold PtsOwn World.ownsRow
  exact ⟨rfl, .inr ⟨W.heap.size, 1, _, rfl, hb, heap_alloc_new _ _, Nat.le_refl _, by simp [maxLen], rfl, rfl⟩⟩
theorem eqI_iff {a b c d : Int} : eqI a b c d = true ↔ (a, b) = (c, d) := by simp [eqI]

theorem wrap_mem (a : Pt) : ∀ (l : List Pt) (cur : Pt), l.foldl (wrapStep a) cur ∈ l ∨ l.foldl (wrapStep a) cur = cur
  | [], _ => .inr rfl
  | p :: l, cur => by
    rw [List.foldl_cons]
    rcases wrap_mem a l (wrapStep a cur p) with h | h
    · exact .inl (List.mem_cons_of_mem _ h)
    · rw [h]
      unfold wrapStep
      split
      · exact .inr rfl
      · split
        · exact .inl (by simp)
        · exact .inr rfl

theorem flatTo_succ (l : List Pt) (i : Nat) : flatTo l (i + 1) = (flatTo l i && flatAt l i) := by
  unfold flatTo; rw [List.range_succ, List.all_append]; simp
theorem range_all_succ (f : Nat → Bool) (k : Nat) : (List.range (k + 1)).all f = ((List.range k).all f && f k) := by
  rw [List.range_succ, List.all_append]; simp
theorem lowTo_mem {l : List Pt} (h : 0 < l.length) : ∀ i, i ≤ l.length → lowTo l i ∈ l
  | 0, _ => by
    show gt l 0 ∈ l
    unfold gt; rw [List.getD_eq_getElem?_getD, List.getElem?_eq_getElem h]; exact List.getElem_mem h
  | i + 1, hi => by
    unfold lowTo
    split
    · have : i < l.length := by omega
      unfold gt; rw [List.getD_eq_getElem?_getD, List.getElem?_eq_getElem this]; exact List.getElem_mem this
    · exact lowTo_mem h i (by omega)

set_option maxRecDepth 100000 in
set_option maxHeartbeats 8000000 in
theorem refHull_any (b off n c : Nat) (l H : List Pt) (w : World) (hl : l.length = n) (hn : 0 < n) (hn' : n ≤ 1000) (h : PtsIn w b off l) (hb : b < w.heap.size) (hbd : ∀ x ∈ l, Bd x)
    (hH : flatTo l n = false → Hull l H (lowTo l n)) (hHn : H.length ≤ 1000) :
    Calls Try.prog 26 #[.slice (some ⟨b, off, none⟩) n c] w (RefHullTo l H w) := by
  have gmem : ∀ i, i < n → gt l i ∈ l := fun i hi => by
    unfold gt; rw [List.getD_eq_getElem?_getD, List.getElem?_eq_getElem (by omega)]; exact List.getElem_mem (by omega)
  have cells : ∀ W, Below w.heap.size w W → ∀ i, i < n → W.cell? ⟨b, off + i * 2, none⟩ = some (.int .i64 (gt l i).1) ∧ W.cell? ⟨b, off + i * 2 + 1, none⟩ = some (.int .i64 (gt l i).2) := fun W hW i hi =>
    (h.below hW hb) i (gt l i) (by unfold gt; rw [List.getD_eq_getElem?_getD, List.getElem?_eq_getElem (by omega)]; rfl)
  have HC := Lib.hid cells
  have HG := Lib.hid gmem
  have HL := Lib.hid hl
  have HBD := Lib.hid hbd
  have HLM : Hid (∀ i, i ≤ n → lowTo l i ∈ l) := Lib.hid fun i hi => lowTo_mem (by omega) i (by omega)
  have HHL := Lib.hid hH
  obtain ⟨z1, z2⟩ := cells w (Below.refl _ _) 0 hn
  simp only [Nat.zero_mul, Nat.add_zero] at z1 z2
  clear hl h hbd cells gmem hH
  go_enter Try.func26, Try.ntmps26
  generalize hz0 : gt l 0 = o at z1 z2
  obtain ⟨ox, oy⟩ := o
  go_upto_region 3 with (fail)
  have B0 : PtBlk (w.alloc (bx ox oy)) w.heap.size [(ox, oy)] := PtBlk.box _ _ _
  have hb0 : Below w.heap.size w (w.alloc (bx ox oy)) := (Below.refl _ _).alloc (Nat.le_refl _) _
  have hs0 : (w.alloc (bx ox oy)).heap.size = w.heap.size + 1 := by simp
  generalize w.alloc (bx ox oy) = w0 at *
  go_wp2_with fail
  have HZ : Hid (∀ W, Below w.heap.size w W → W.cell? ⟨b, off, none⟩ = some (.int .i64 ox) ∧ W.cell? ⟨b, off + 1, none⟩ = some (.int .i64 oy)) := Lib.hid fun W hW =>
    ⟨(hW.cell (p := ⟨b, off, none⟩) hb).trans z1, (hW.cell (p := ⟨b, off + 1, none⟩) hb).trans z2⟩
  have L0 : lowTo l 0 = (ox, oy) := hz0
  clear z1 z2
  go_loopw [4, 6] (fun s i wr => ∃ k : Nat, k ≤ n ∧ i = .int .i64 k ∧ s = .bool (flatTo l k) ∧ PtBlk wr w.heap.size [lowTo l k] ∧ Below w.heap.size w wr ∧ w.heap.size < wr.heap.size) (fun _ i _ => n - (intOf i).toNat)
  case atStart => exact ⟨0, Nat.zero_le _, rfl, rfl, by rw [L0]; exact B0, hb0, by omega⟩
  case round =>
    clear B0 hb0 hs0 L0
    obtain ⟨k, hk, rfl, rfl, hlow, hbw, hgr⟩ := hrel
    have HBW := Lib.hid hbw
    by_cases hlt : k < n
    · obtain ⟨h1, h2⟩ := HC.out wr hbw k hlt
      have hB : b < wr.heap.size := by omega
      have dk := HBD.out _ (HG.out k hlt)
      have dl := HBD.out _ (HLM.out k hk)
      have EL : Hid (lowTo l (k + 1) = if firstP (gt l k) (lowTo l k) then gt l k else lowTo l k) := Lib.hid rfl
      have EF : Hid (flatTo l (k + 1) = (flatTo l k && flatAt l k)) := Lib.hid (flatTo_succ l k)
      have EA : Hid (flatAt l k = (List.range n).all (flat0 l k)) := Lib.hid (by unfold flatAt; rw [HL.out])
      have EC : Hid (∀ q, flat0 l k q = (crossP (ox, oy) (gt l k) (gt l q) == 0)) := Lib.hid fun q => by unfold flat0; rw [hz0]
      have EC2 : Hid (∀ q, q < n → Bd (gt l q)) := Lib.hid fun q hq => HBD.out _ (HG.out q hq)
      have d0 : Bd (ox, oy) := hz0 ▸ HBD.out _ (HG.out 0 (by omega))
      generalize hpk : gt l k = p at *
      generalize hpl : lowTo l k = lo at *
      obtain ⟨x, y⟩ := p
      obtain ⟨lx, ly⟩ := lo
      have HLO := Lib.hid hlow
      obtain ⟨l1, l2⟩ := hlow.one
      have F := fun W => Lib.hid (first_any x y lx ly W)
      have EFB : Hid (firstP (x, y) (lx, ly) = firstB x y lx ly) := Lib.hid rfl
      have K1 := fun d os => Lib.hid (Calls.regrown_of ((F (grow (redrawn wr d) os)).out))
      have k1 := cell_regrown h1
      have k2 := cell_regrown h2
      have k3 := cell_regrown l1
      have k4 := cell_regrown l2
      clear h1 h2 l1 l2 F
      go_wp2_with fail
      refine wp_region_quiet_below (by kernel_rfl) (by kernel_rfl) ?_
      repeat (go_big_quiet_step (first | (with_reducible exact (K1 _ _).out)))
      refine wpQuiet_nil ?_
      intro _ hw'
      obtain ⟨⟨dq, osq⟩, hw''⟩ := hw'
      subst hw''
      have hbr := below_regrown wr dq osq
      have HB2 := Lib.hid (HBW.out.trans (hbr.mono HBW.out.size))
      have HLO2 := Lib.hid (HLO.out.below hbr hgr)
      have hg2 := Nat.lt_of_lt_of_le hgr hbr.size
      obtain ⟨h1, h2⟩ := HC.out _ HB2.out k hlt
      rw [hpk] at h1 h2
      generalize grow (redrawn wr dq) osq = w2 at *
      clear hbr k1 k2 k3 k4
      obtain ⟨l1, l2⟩ := HLO2.out.one
      have f1 := HLO2.out.frozen 0
      have f2 := HLO2.out.frozen 1
      cases hf : firstB x y lx ly
      · have LO3 : Hid (PtBlk w2 w.heap.size [lowTo l (k + 1)]) := Lib.hid (by
          rw [EL.out, EFB.out, hf]; exact HLO2.out)
        have HB3 := HB2
        have hg3 := hg2
        clear f1 f2 l1 l2 h1 h2 HB2 HLO2
        have HT : Hid (∀ q, (List.range (q + 1)).all (flat0 l k) = ((List.range q).all (flat0 l k) && flat0 l k q)) := Lib.hid fun q => range_all_succ _ q
        go_wp2_with fail
        go_loopw [4, 7] (fun s i wi => ∃ q : Nat, q ≤ n ∧ i = .int .i64 q ∧ s = .bool (flatTo l k && (List.range q).all (flat0 l k)) ∧ PtBlk wi w.heap.size [lowTo l (k + 1)] ∧ Below w.heap.size w wi ∧ w.heap.size < wi.heap.size) (fun _ i _ => n - (intOf i).toNat)
        case atStart => exact ⟨0, Nat.zero_le _, rfl, by simp, LO3.out, HB3.out, hg3⟩
        case round =>
          clear LO3 HB3 hg3
          obtain ⟨q, hq, rfl, rfl, hlo, hbq, hgq⟩ := hrel
          have HLQ := Lib.hid hlo
          have HBQ := Lib.hid hbq
          by_cases hlq : q < n
          · have HS : Hid ((flatTo l k && (List.range (q + 1)).all (flat0 l k)) = ((flatTo l k && (List.range q).all (flat0 l k)) && flat0 l k q)) := Lib.hid (by rw [HT.out, Bool.and_assoc])
            have HFE : Hid ((flatTo l k && (List.range q).all (flat0 l k)) = false → flatTo l (k + 1) = false) := Lib.hid fun hh => by
              rw [EF.out, EA.out]
              cases hf2 : flatTo l k
              · rfl
              · rw [hf2, Bool.true_and] at hh
                rw [Bool.true_and]
                rw [List.all_eq_false] at hh ⊢
                obtain ⟨z, hz, hz2⟩ := hh
                exact ⟨z, List.mem_range.2 (by have := List.mem_range.1 hz; omega), hz2⟩
            generalize (flatTo l k && (List.range q).all (flat0 l k)) = tb at *
            cases tb
            · have HF0 := Lib.hid (HFE.out rfl)
              go_wp2_with fail
              go_roundw
              case rel => exact ⟨k + 1, by omega, by go_num, by rw [HF0.out], HLQ.out, HBQ.out, hgq⟩
              case measure => simp [intOf]; omega
            · obtain ⟨j1, j2⟩ := HZ.out wr hbq
              obtain ⟨j3, j4⟩ := HC.out wr hbq k hlt
              obtain ⟨j5, j6⟩ := HC.out wr hbq q hlq
              rw [hpk] at j3 j4
              have ECQ := Lib.hid (EC.out q)
              have dq2 := EC2.out q hlq
              generalize gt l q = pq at *
              obtain ⟨rx, ry⟩ := pq
              have C := fun W => Lib.hid (cross_any ox oy x y rx ry W d0.1 d0.2 dk.1 dk.2 dq2.1 dq2.2)
              replace ECQ : Hid (flat0 l k q = (cross ox oy x y rx ry == 0)) := ECQ
              clear dq2
              generalize cross ox oy x y rx ry = cr at *
              have KC := fun d os => Lib.hid (Calls.regrown_of ((C (grow (redrawn wr d) os)).out))
              have t1 := cell_regrown j1
              have t2 := cell_regrown j2
              have t3 := cell_regrown j3
              have t4 := cell_regrown j4
              have t5 := cell_regrown j5
              have t6 := cell_regrown j6
              clear j1 j2 j3 j4 j5 j6 C
              go_wp2_with fail
              refine wp_region_quiet_below (by kernel_rfl) (by kernel_rfl) ?_
              repeat (go_big_quiet_step (first | (with_reducible exact (KC _ _).out)))
              refine wpQuiet_nil ?_
              intro _ hw'
              obtain ⟨⟨dq, osq⟩, hw''⟩ := hw'
              subst hw''
              have hbr := below_regrown wr dq osq
              have HBQ2 := Lib.hid (HBQ.out.trans (hbr.mono HBQ.out.size))
              have HLQ2 := Lib.hid (HLQ.out.below hbr hgq)
              have hgq2 := Nat.lt_of_lt_of_le hgq hbr.size
              generalize grow (redrawn wr dq) osq = w4 at *
              clear hbr t1 t2 t3 t4 t5 t6
              go_wp2_with fail
              go_roundw
              case rel => exact ⟨q + 1, by omega, by go_num, by rw [HS.out, ECQ.out]; rfl, HLQ2.out, HBQ2.out, hgq2⟩
              case measure => simp [intOf]; omega
          · obtain rfl : q = n := by omega
            have HFE : Hid ((flatTo l k && (List.range q).all (flat0 l k)) = flatTo l (k + 1)) := Lib.hid (by rw [EF.out, EA.out])
            have HFI : Hid (∀ tb, (flatTo l k && (List.range q).all (flat0 l k)) = tb → tb = flatTo l (k + 1)) := Lib.hid fun tb e => e ▸ HFE.out
            generalize htb : (flatTo l k && (List.range q).all (flat0 l k)) = tb at *
            have HFT := Lib.hid (HFI.out tb rfl)
            clear HFE HFI htb
            cases tb
            all_goals
              go_wp2_with fail
              go_roundw
              case rel => exact ⟨k + 1, by omega, by go_num, by rw [← HFT.out], HLQ.out, HBQ.out, hgq⟩
              case measure => simp [intOf]; omega
      · have LO3 : Hid (PtBlk ((w2.setCell ⟨w.heap.size, 0, none⟩ (.int .i64 x)).setCell ⟨w.heap.size, 1, none⟩ (.int .i64 y)) w.heap.size [lowTo l (k + 1)]) := Lib.hid (by
          rw [EL.out, EFB.out, hf]; exact HLO2.out.put x y)
        have HB3 : Hid (Below w.heap.size w ((w2.setCell ⟨w.heap.size, 0, none⟩ (.int .i64 x)).setCell ⟨w.heap.size, 1, none⟩ (.int .i64 y))) := Lib.hid ((HB2.out.setCell (by simp) _).setCell (by simp) _)
        have hg3 : w.heap.size < ((w2.setCell ⟨w.heap.size, 0, none⟩ (.int .i64 x)).setCell ⟨w.heap.size, 1, none⟩ (.int .i64 y)).heap.size := by simpa using hg2
        clear HB2 HLO2
        have HT : Hid (∀ q, (List.range (q + 1)).all (flat0 l k) = ((List.range q).all (flat0 l k) && flat0 l k q)) := Lib.hid fun q => range_all_succ _ q
        go_wp2_with fail
        go_loopw [4, 7] (fun s i wi => ∃ q : Nat, q ≤ n ∧ i = .int .i64 q ∧ s = .bool (flatTo l k && (List.range q).all (flat0 l k)) ∧ PtBlk wi w.heap.size [lowTo l (k + 1)] ∧ Below w.heap.size w wi ∧ w.heap.size < wi.heap.size) (fun _ i _ => n - (intOf i).toNat)
        case atStart => exact ⟨0, Nat.zero_le _, rfl, by simp, LO3.out, HB3.out, hg3⟩
        case round =>
          clear LO3 HB3 hg3
          obtain ⟨q, hq, rfl, rfl, hlo, hbq, hgq⟩ := hrel
          have HLQ := Lib.hid hlo
          have HBQ := Lib.hid hbq
          by_cases hlq : q < n
          · have HS : Hid ((flatTo l k && (List.range (q + 1)).all (flat0 l k)) = ((flatTo l k && (List.range q).all (flat0 l k)) && flat0 l k q)) := Lib.hid (by rw [HT.out, Bool.and_assoc])
            have HFE : Hid ((flatTo l k && (List.range q).all (flat0 l k)) = false → flatTo l (k + 1) = false) := Lib.hid fun hh => by
              rw [EF.out, EA.out]
              cases hf2 : flatTo l k
              · rfl
              · rw [hf2, Bool.true_and] at hh
                rw [Bool.true_and]
                rw [List.all_eq_false] at hh ⊢
                obtain ⟨z, hz, hz2⟩ := hh
                exact ⟨z, List.mem_range.2 (by have := List.mem_range.1 hz; omega), hz2⟩
            generalize (flatTo l k && (List.range q).all (flat0 l k)) = tb at *
            cases tb
            · have HF0 := Lib.hid (HFE.out rfl)
              go_wp2_with fail
              go_roundw
              case rel => exact ⟨k + 1, by omega, by go_num, by rw [HF0.out], HLQ.out, HBQ.out, hgq⟩
              case measure => simp [intOf]; omega
            · obtain ⟨j1, j2⟩ := HZ.out wr hbq
              obtain ⟨j3, j4⟩ := HC.out wr hbq k hlt
              obtain ⟨j5, j6⟩ := HC.out wr hbq q hlq
              rw [hpk] at j3 j4
              have ECQ := Lib.hid (EC.out q)
              have dq2 := EC2.out q hlq
              generalize gt l q = pq at *
              obtain ⟨rx, ry⟩ := pq
              have C := fun W => Lib.hid (cross_any ox oy x y rx ry W d0.1 d0.2 dk.1 dk.2 dq2.1 dq2.2)
              replace ECQ : Hid (flat0 l k q = (cross ox oy x y rx ry == 0)) := ECQ
              clear dq2
              generalize cross ox oy x y rx ry = cr at *
              have KC := fun d os => Lib.hid (Calls.regrown_of ((C (grow (redrawn wr d) os)).out))
              have t1 := cell_regrown j1
              have t2 := cell_regrown j2
              have t3 := cell_regrown j3
              have t4 := cell_regrown j4
              have t5 := cell_regrown j5
              have t6 := cell_regrown j6
              clear j1 j2 j3 j4 j5 j6 C
              go_wp2_with fail
              refine wp_region_quiet_below (by kernel_rfl) (by kernel_rfl) ?_
              repeat (go_big_quiet_step (first | (with_reducible exact (KC _ _).out)))
              refine wpQuiet_nil ?_
              intro _ hw'
              obtain ⟨⟨dq, osq⟩, hw''⟩ := hw'
              subst hw''
              have hbr := below_regrown wr dq osq
              have HBQ2 := Lib.hid (HBQ.out.trans (hbr.mono HBQ.out.size))
              have HLQ2 := Lib.hid (HLQ.out.below hbr hgq)
              have hgq2 := Nat.lt_of_lt_of_le hgq hbr.size
              generalize grow (redrawn wr dq) osq = w4 at *
              clear hbr t1 t2 t3 t4 t5 t6
              go_wp2_with fail
              go_roundw
              case rel => exact ⟨q + 1, by omega, by go_num, by rw [HS.out, ECQ.out]; rfl, HLQ2.out, HBQ2.out, hgq2⟩
              case measure => simp [intOf]; omega
          · obtain rfl : q = n := by omega
            have HFE : Hid ((flatTo l k && (List.range q).all (flat0 l k)) = flatTo l (k + 1)) := Lib.hid (by rw [EF.out, EA.out])
            have HFI : Hid (∀ tb, (flatTo l k && (List.range q).all (flat0 l k)) = tb → tb = flatTo l (k + 1)) := Lib.hid fun tb e => e ▸ HFE.out
            generalize htb : (flatTo l k && (List.range q).all (flat0 l k)) = tb at *
            have HFT := Lib.hid (HFI.out tb rfl)
            clear HFE HFI htb
            cases tb
            all_goals
              go_wp2_with fail
              go_roundw
              case rel => exact ⟨k + 1, by omega, by go_num, by rw [← HFT.out], HLQ.out, HBQ.out, hgq⟩
              case measure => simp [intOf]; omega
    · obtain rfl : k = n := by omega
      generalize hfl : flatTo l k = fb at *
      cases fb
      · have HH := Lib.hid (HHL.out rfl)
        have HFL : Hid (flatTo l l.length = false) := Lib.hid (by rw [HL.out]; exact hfl)
        clear HHL hfl
        have HLO := Lib.hid hlow
        have hlm := HBD.out _ (HLM.out k (Nat.le_refl _))
        clear hlow hbw
        generalize lowTo l k = lo at *
        obtain ⟨lx, ly⟩ := lo
        obtain ⟨l1, l2⟩ := HLO.out.one
        have hsz := HBW.out.size
        have O1 : Hid (PtsOwn (wr.alloc (bx lx ly)) (w.heap.size + 1) (.slice (some ⟨wr.heap.size, 0, none⟩) 1 1) (H.take (0 + 1))) := Lib.hid (by
          have : H.take (0 + 1) = [(lx, ly)] := by
            have h0 : 0 < H.length := by have := HH.out.two; omega
            have e := HH.out.first
            unfold gt at e
            rw [List.getD_eq_getElem?_getD, List.getElem?_eq_getElem h0] at e
            simp only [Option.getD_some] at e
            rw [List.take_succ_eq_append_getElem h0, e]; rfl
          rw [this]
          exact PtsOwn.one wr lx ly hgr)
        have L1 := Lib.hid (HLO.out.alloc (bx lx ly))
        have B1 : Hid (Below w.heap.size w (wr.alloc (bx lx ly))) := Lib.hid (HBW.out.alloc hsz _)
        have hg1 : w.heap.size + 1 ≤ (wr.alloc (bx lx ly)).heap.size := by simp; omega
        obtain ⟨wo, rfl⟩ : ∃ wo : World, wo = wr := ⟨_, rfl⟩
        go_wp2_with fail
        go_loopw [8] (fun s wr => ∃ j : Nat, j < H.length ∧ PtsOwn wr (w.heap.size + 1) s (H.take (j + 1)) ∧ PtBlk wr w.heap.size [(lx, ly)] ∧ Below w.heap.size w wr ∧ w.heap.size + 1 ≤ wr.heap.size) (fun s _ => H.length - slLen s)
        case atStart => exact ⟨0, by have := HH.out.two; omega, O1.out, L1.out, B1.out, hg1⟩
        case round =>
          clear O1 L1 B1 hg1 HLO HBW l1 l2 hsz hgr
          obtain ⟨j, hj, hO, hlo, hbw, hgr⟩ := hrel
          have hjl : (H.take (j + 1)).length = j + 1 := by rw [List.length_take]; omega
          obtain ⟨A1, c1, rfl, hc1, hat⟩ := hO.slice_n hjl
          obtain ⟨g, og, rfl, hgl, hin⟩ := hat (by intro e; rw [e] at hjl; simp at hjl)
          obtain ⟨a1, a2⟩ := hin j (gt H j) (by
            rw [List.getElem?_take, if_pos (by omega)]
            unfold gt; rw [List.getD_eq_getElem?_getD, List.getElem?_eq_getElem hj]; rfl)
          have HO := Lib.hid hO
          have HLO := Lib.hid hlo
          have HBW := Lib.hid hbw
          have HED := Lib.hid (HH.out.edge j hj)
          have HNX : Hid (nx H j = (lx, ly) → j + 1 = H.length) := Lib.hid fun e => by
            rcases Nat.lt_or_ge (j + 1) H.length with q | q
            · rw [gt_nx q] at e
              exact absurd e (HH.out.once (j + 1) (by omega) q)
            · omega
          have HNY : Hid (nx H j ≠ (lx, ly) → j + 1 < H.length ∧ H.take (j + 2) = H.take (j + 1) ++ [nx H j]) := Lib.hid fun e => by
            rcases Nat.lt_or_ge (j + 1) H.length with q | q
            · refine ⟨q, ?_⟩
              rw [gt_nx q, List.take_succ_eq_append_getElem q]
              simp [gt, List.getD, q]
            · exfalso
              apply e
              have : j + 1 = H.length := by omega
              show gt H ((j + 1) % H.length) = _
              rw [this, Nat.mod_self]; exact HH.out.first
          have da := HBD.out _ HED.out.fst
          have hle := HBD.out _ HED.out.snd
          clear hO hat hin hlo hbw
          generalize hpa : gt H j = p at *
          obtain ⟨ax, ay⟩ := p
          have A0 : Hid (PtAt ((wr.alloc (bx ax ay)).alloc (bx ax ay)) wr.heap.size ax ay) := Lib.hid (PtAt.new.alloc _ (by simp))
          have T0 : Hid (PtBlk ((wr.alloc (bx ax ay)).alloc (bx ax ay)) (wr.heap.size + 1) [(ax, ay)]) := Lib.hid (by
            have := PtBlk.box (wr.alloc (bx ax ay)) ax ay
            rwa [World.size_alloc] at this)
          have B0' : Hid (Below wr.heap.size wr ((wr.alloc (bx ax ay)).alloc (bx ax ay))) := Lib.hid ((Below.refl _ _).alloc (Nat.le_refl _) _ |>.alloc (by simp) _)
          have hz2 : ((wr.alloc (bx ax ay)).alloc (bx ax ay)).heap.size = wr.heap.size + 2 := by simp
          obtain ⟨wo, rfl⟩ : ∃ wo : World, wo = wr := ⟨_, rfl⟩
          have hgo : g < wo.heap.size := hgl
          go_wp2_with fail
          generalize (wo.alloc (bx ax ay)).alloc (bx ax ay) = wb at *
          generalize hgo' : wo.heap.size = ga at *
          have hba : w.heap.size < ga := by omega
          go_loopw [11] (fun i wr => ∃ q : Nat, q ≤ k ∧ i = .int .i64 q ∧ PtBlk wr (ga + 1) [(l.take q).foldl (wrapStep (ax, ay)) (ax, ay)] ∧ Below (ga + 1) wb wr ∧ ga + 2 ≤ wr.heap.size) (fun i _ => k - (intOf i).toNat)
          case atStart => exact ⟨0, Nat.zero_le _, rfl, T0.out, Below.refl _ _, by omega⟩
          case round =>
            clear T0 hz2 a1 a2
            obtain ⟨q, hq, rfl, hto, hbi, hgi⟩ := hrel
            have HTO := Lib.hid hto
            have HBI := Lib.hid hbi
            have HBO : Hid (Below ga wo wr) := Lib.hid (B0'.out.trans (hbi.mono (by omega)))
            have HBWQ : Hid (Below w.heap.size w wr) := Lib.hid (HBW.out.trans (HBO.out.mono (by omega)))
            have HLQ : Hid (PtBlk wr w.heap.size [(lx, ly)]) := Lib.hid (HLO.out.below HBO.out hba)
            have HAQ : Hid (PtAt wr ga ax ay) := Lib.hid (PtAt.below hbi (by omega) A0.out)
            have HTM : Hid (Bd ((l.take q).foldl (wrapStep (ax, ay)) (ax, ay))) := Lib.hid (by
              rcases wrap_mem (ax, ay) (l.take q) (ax, ay) with h | h
              · exact HBD.out _ (List.take_subset _ _ h)
              · rw [h]; exact da)
            clear hto hbi
            by_cases hlq : q < k
            · obtain ⟨h1, h2⟩ := HC.out wr HBWQ.out q hlq
              have hB : b < wr.heap.size := by omega
              have ES : Hid ((l.take (q + 1)).foldl (wrapStep (ax, ay)) (ax, ay) = wrapStep (ax, ay) ((l.take q).foldl (wrapStep (ax, ay)) (ax, ay)) (gt l q)) := Lib.hid (by
                have hql : q < l.length := by rw [HL.out]; exact hlq
                rw [List.take_succ_eq_append_getElem hql, List.foldl_append]
                simp [gt, List.getD, hql])
              have dp := HBD.out _ (HG.out q hlq)
              have dt := HTM.out
              generalize (l.take q).foldl (wrapStep (ax, ay)) (ax, ay) = tt at *
              generalize gt l q = pp at *
              obtain ⟨tx, ty⟩ := tt
              obtain ⟨px, py⟩ := pp
              have gp := guard_pt
              have ep := eq_pt px py ax ay
              have hb5 : Below wr.heap.size wr (wr.alloc (bx px py)) := (Below.refl _ _).alloc (Nat.le_refl _) _
              have hs5 : (wr.alloc (bx px py)).heap.size = wr.heap.size + 1 := by simp
              have hs5' : (wr.alloc (.cells #[.int .i64 px, .int .i64 py] 37)).heap.size = wr.heap.size + 1 := by simp
              have P5 : PtAt (wr.alloc (bx px py)) wr.heap.size px py := PtAt.new
              obtain ⟨b1, b2⟩ := HAQ.out
              obtain ⟨c1', c2'⟩ := HTO.out.one
              have hg1 : ga < wr.heap.size := by omega
              have hg2 : ga + 1 < wr.heap.size := by omega
              cases he : eqI px py ax ay
              · have hne : ¬ ((px, py) = (ax, ay)) := fun e => by rw [eqI_iff.2 e] at he; cases he
                have HYES : Hid ((tx, ty) = (ax, ay) ∨ crossP (ax, ay) (tx, ty) (px, py) < 0 ∨ (crossP (ax, ay) (tx, ty) (px, py) = 0 ∧ onP (ax, ay) (px, py) (tx, ty) = true) → wrapStep (ax, ay) (tx, ty) (px, py) = (px, py)) := Lib.hid fun hh => by
                  unfold wrapStep; rw [if_neg hne, if_pos hh]
                have HNO : Hid (¬ ((tx, ty) = (ax, ay) ∨ crossP (ax, ay) (tx, ty) (px, py) < 0 ∨ (crossP (ax, ay) (tx, ty) (px, py) = 0 ∧ onP (ax, ay) (px, py) (tx, ty) = true)) → wrapStep (ax, ay) (tx, ty) (px, py) = (tx, ty)) := Lib.hid fun hh => by
                  unfold wrapStep; rw [if_neg hne, if_neg hh]
                have C := fun W => Lib.hid (cross_any ax ay tx ty px py W da.1 da.2 dt.1 dt.2 dp.1 dp.2)
                have TO := fun W => Lib.hid (on_any ax ay px py tx ty W da.1 da.2 dp.1 dp.2 dt.1 dt.2)
                have HCR : Hid (crossP (ax, ay) (tx, ty) (px, py) = cross ax ay tx ty px py) := Lib.hid rfl
                have HON : Hid (onP (ax, ay) (px, py) (tx, ty) = onB ax ay px py tx ty) := Lib.hid rfl
                clear hne
                generalize cross ax ay tx ty px py = cr at *
                generalize onB ax ay px py tx ty = ob at *
                go_wp2_with fail
                refine ((C _).out).mono ?_
                rintro e w5 ⟨rfl, hb6⟩
                have hb7 := hb5.trans (hb6.mono hb5.size)
                obtain ⟨b1, b2⟩ := PtAt.below hb7 hg1 HAQ.out
                have HT5 := Lib.hid (HTO.out.below hb7 hg2)
                obtain ⟨c1', c2'⟩ := HT5.out.one
                have f1 := HT5.out.frozen 0
                have f2 := HT5.out.frozen 1
                obtain ⟨e1, e2⟩ := PtAt.below hb6 (by rw [hs5]; omega) P5
                have HBI5 : Hid (Below (ga + 1) wb w5) := Lib.hid (HBI.out.trans (hb7.mono (by omega)))
                have hgi5 : ga + 2 ≤ w5.heap.size := by have := hb7.size; omega
                have hgp : wr.heap.size < w5.heap.size := by have := hb6.size; rw [hs5'] at this; omega
                clear hb5 hb6 hb7 P5 ep h1 h2 he C
                have ep := eq_pt tx ty ax ay
                cases he2 : eqI tx ty ax ay
                · have hne2 : ¬ ((tx, ty) = (ax, ay)) := fun e => by rw [eqI_iff.2 e] at he2; cases he2
                  by_cases hc0 : cr < 0
                  · have hd1 : decide (cr < 0) = true := decide_eq_true hc0
                    have HSIDE : Hid ((tx, ty) = (ax, ay) ∨ crossP (ax, ay) (tx, ty) (px, py) < 0 ∨ (crossP (ax, ay) (tx, ty) (px, py) = 0 ∧ onP (ax, ay) (px, py) (tx, ty) = true)) := Lib.hid (.inr (.inl (by rw [HCR.out]; exact hc0)))
                    clear hne2
                    go_wp2_with fail
                    go_roundw
                    case rel => exact ⟨q + 1, by omega, by go_num, by rw [ES.out, HYES.out HSIDE.out]; exact HT5.out.put px py, (HBI5.out.setCell (by simp) _).setCell (by simp) _, by simpa using hgi5⟩
                    case measure => simp [intOf]; omega
                  · have hd1 : decide (cr < 0) = false := decide_eq_false hc0
                    cases hd2 : (cr == 0)
                    · have HSIDE : Hid (¬ ((tx, ty) = (ax, ay) ∨ crossP (ax, ay) (tx, ty) (px, py) < 0 ∨ (crossP (ax, ay) (tx, ty) (px, py) = 0 ∧ onP (ax, ay) (px, py) (tx, ty) = true))) := Lib.hid (by
                        rw [HCR.out]
                        rintro (h | h | ⟨h, _⟩)
                        · exact hne2 h
                        · exact hc0 h
                        · rw [h] at hd2; cases hd2)
                      clear hne2
                      go_wp2_with fail
                      go_roundw
                      case rel => exact ⟨q + 1, by omega, by go_num, by rw [ES.out, HNO.out HSIDE.out]; exact HT5.out, HBI5.out, hgi5⟩
                      case measure => simp [intOf]; omega
                    · have hcz : cr = 0 := by simpa using hd2
                      cases hob : ob
                      · have HSIDE : Hid (¬ ((tx, ty) = (ax, ay) ∨ crossP (ax, ay) (tx, ty) (px, py) < 0 ∨ (crossP (ax, ay) (tx, ty) (px, py) = 0 ∧ onP (ax, ay) (px, py) (tx, ty) = true))) := Lib.hid (by
                          rw [HCR.out, HON.out, hob]
                          rintro (h | h | ⟨_, h⟩)
                          · exact hne2 h
                          · exact hc0 h
                          · cases h)
                        rw [hob] at TO
                        clear hne2
                        go_wp2_with fail
                        refine ((TO _).out).mono ?_
                        rintro e w6 ⟨rfl, hb6⟩
                        replace HT5 := Lib.hid (HT5.out.below hb6 (by omega))
                        replace HBI5 : Hid (Below (ga + 1) wb w6) := Lib.hid (HBI5.out.trans (hb6.mono (by omega)))
                        replace hgi5 : ga + 2 ≤ w6.heap.size := by have := hb6.size; omega
                        go_wp2_with fail
                        go_roundw
                        case rel => exact ⟨q + 1, by omega, by go_num, by rw [ES.out, HNO.out HSIDE.out]; exact HT5.out, HBI5.out, hgi5⟩
                        case measure => simp [intOf]; omega
                      · have HSIDE : Hid ((tx, ty) = (ax, ay) ∨ crossP (ax, ay) (tx, ty) (px, py) < 0 ∨ (crossP (ax, ay) (tx, ty) (px, py) = 0 ∧ onP (ax, ay) (px, py) (tx, ty) = true)) := Lib.hid (.inr (.inr ⟨by rw [HCR.out]; exact hcz, by rw [HON.out, hob]⟩))
                        rw [hob] at TO
                        clear hne2
                        go_wp2_with fail
                        refine ((TO _).out).mono ?_
                        rintro e w6 ⟨rfl, hb6⟩
                        obtain ⟨e1, e2⟩ := PtAt.below hb6 hgp ⟨e1, e2⟩
                        replace HT5 := Lib.hid (HT5.out.below hb6 (by omega))
                        replace HBI5 : Hid (Below (ga + 1) wb w6) := Lib.hid (HBI5.out.trans (hb6.mono (by omega)))
                        replace hgi5 : ga + 2 ≤ w6.heap.size := by have := hb6.size; omega
                        obtain ⟨c1', c2'⟩ := HT5.out.one
                        have f1 := HT5.out.frozen 0
                        have f2 := HT5.out.frozen 1
                        go_wp2_with fail
                        go_roundw
                        case rel => exact ⟨q + 1, by omega, by go_num, by rw [ES.out, HYES.out HSIDE.out]; exact HT5.out.put px py, (HBI5.out.setCell (by simp) _).setCell (by simp) _, by simpa using hgi5⟩
                        case measure => simp [intOf]; omega
                · have HSIDE : Hid ((tx, ty) = (ax, ay) ∨ crossP (ax, ay) (tx, ty) (px, py) < 0 ∨ (crossP (ax, ay) (tx, ty) (px, py) = 0 ∧ onP (ax, ay) (px, py) (tx, ty) = true)) := Lib.hid (.inl (eqI_iff.1 he2))
                  go_wp2_with fail
                  go_roundw
                  case rel => exact ⟨q + 1, by omega, by go_num, by rw [ES.out, HYES.out HSIDE.out]; exact HT5.out.put px py, (HBI5.out.setCell (by simp) _).setCell (by simp) _, by simpa using hgi5⟩
                  case measure => simp [intOf]; omega
              · have HKE : Hid (wrapStep (ax, ay) (tx, ty) (px, py) = (tx, ty)) := Lib.hid (by unfold wrapStep; rw [if_pos (eqI_iff.1 he)])
                go_wp2_with fail
                go_roundw
                case rel => exact ⟨q + 1, by omega, by go_num, by rw [ES.out, HKE.out]; exact HTO.out.alloc _, HBI.out.trans (hb5.mono (by omega)), by rw [hs5']; omega⟩
                case measure => simp [intOf]; omega
            · obtain rfl : q = k := by omega
              have HW : Hid ((l.take q).foldl (wrapStep (ax, ay)) (ax, ay) = nx H j) := Lib.hid (by
                rw [List.take_of_length_le (by rw [HL.out]; omega)]
                exact wrap_edge HED.out)
              rw [HW.out] at HTO
              clear HTM HW
              have O6 := Lib.hid (HO.out.belows HBO.out (Nat.le_of_eq hgo'))
              obtain ⟨l1, l2⟩ := HLQ.out.one
              generalize hnt : nx H j = t at *
              obtain ⟨tx, ty⟩ := t
              obtain ⟨t1, t2⟩ := HTO.out.one
              have gp := guard_pt
              have ep := eq_pt tx ty lx ly
              cases he : eqI tx ty lx ly
              · obtain ⟨hj2, htk⟩ := HNY.out (fun e => by rw [eqI_iff.2 e] at he; cases he)
                have HTK := Lib.hid htk
                have hA1 : (H.take (j + 1)).length + [(tx, ty)].length ≤ 100000 := by rw [hjl]; simp; omega
                have hA2 : w.heap.size + 1 ≤ (wr.alloc (bx tx ty)).heap.size := by rw [World.size_alloc]; omega
                clear htk HNX HNY HED
                go_wp2_with (at_builtin; refine wpList_papp rfl (.tmp 104) (.tmp 106) rfl (w.heap.size + 1) _ (H.take (j + 1)) [(tx, ty)] (some ⟨wr.heap.size, 0, none⟩) 1 1 rfl rfl (O6.out.alloc _) rfl (PtsAt.one wr tx ty) hA1 hA2 ?_; intro v1 w7 ho hg hat; have HO7 := Lib.hid ho; have HG7 := Lib.hid hg; clear ho hg hat)
                have HB7 : Hid (Below (w.heap.size + 1) wr w7) := Lib.hid (((Below.refl _ _).alloc (by omega) _).grown HG7.out hA2 (fun k hk => (O6.out.base k hk).1))
                have HO8 : Hid (PtsOwn w7 (w.heap.size + 1) v1 (H.take (j + 1 + 1))) := Lib.hid (by rw [HTK.out]; exact HO7.out)
                have hs7 : w.heap.size + 1 ≤ w7.heap.size := by have := HB7.out.size; omega
                have HL7 := Lib.hid (HLQ.out.below HB7.out (by omega))
                have HW7 := Lib.hid (HBWQ.out.trans (HB7.out.mono (by omega)))
                clear HO7 HG7 hA1 hA2
                go_wp2_with fail
                go_roundw
                case rel => exact ⟨j + 1, hj2, HO8.out, HL7.out, HW7.out, hs7⟩
                case measure =>
                  obtain ⟨A9, c9, e9, _, _⟩ := HO8.out.slice_n (n := j + 2) (by rw [List.length_take]; omega)
                  rw [e9]
                  simp [slLen]; omega
              · have hjH : j + 1 = H.length := HNX.out (eqI_iff.1 he)
                have HOF : Hid (PtsOwn wr w.heap.size (.slice (some ⟨g, og, none⟩) (j + 1) c1) H) := Lib.hid (by
                  have := O6.out.low (base' := w.heap.size) (by omega)
                  rwa [show H.take (j + 1) = H by rw [hjH, List.take_length]] at this)
                clear HNX HNY HED
                go_wp2_with fail
                go_ret2
                exact ⟨HBWQ.out, .inr ⟨HFL.out, _, rfl, HOF.out⟩⟩
      · have HFL : Hid (flatTo l l.length = true) := Lib.hid (by rw [HL.out]; exact hfl)
        go_wp2_with fail
        go_ret2
        exact ⟨HBW.out, .inl ⟨HFL.out, rfl⟩⟩
end Go.Proofs.Ythbekbfhpedghaa

/- Package shape's box, and the reference's. -/
namespace Go.Proofs.Ythbekbfhpedghaa
open Go.RowKit Go.Sort
attribute [local go_sem ↓] run_min_mn run_max_mx Go.wp_at_zero Go.wp_at_succ

/-- Two variables of the call's own that hold points. -/
def OwnTwo (wr : World) (x y qx qy : Int) (s t : Value) (wx : World) : Prop :=
  ∃ g h : Nat, s = .pointer (some ⟨g, 0, none⟩) ∧ t = .pointer (some ⟨h, 0, none⟩) ∧ g ≠ h ∧ wr.heap.size ≤ g ∧ wr.heap.size ≤ h ∧ PtBlk wx g [(x, y)] ∧ PtBlk wx h [(qx, qy)] ∧ Below wr.heap.size wr wx

theorem ptBlk_box (w : World) (x y : Int) : PtBlk (w.alloc (bx x y)) w.heap.size [(x, y)] := heap_alloc_new _ _

theorem ownTwo (w : World) (x y a b : Int) : OwnTwo w x y a b (.pointer (some ⟨w.heap.size, 0, none⟩)) (.pointer (some ⟨w.heap.size + 1, 0, none⟩)) ((w.alloc (bx x y)).alloc (bx a b)).drew := by
  refine ⟨_, _, rfl, rfl, by omega, Nat.le_refl _, by omega, (ptBlk_box w x y).alloc _, ?_, ((Below.refl _ _).alloc (Nat.le_refl _) _ |>.alloc (by simp) _).drew⟩
  have := ptBlk_box (w.alloc (bx x y)) a b
  rw [World.size_alloc] at this
  exact this
theorem ownTwo' (w : World) (x y a b : Int) : OwnTwo w x y a b (.pointer (some ⟨w.heap.size + 1, 0, none⟩)) (.pointer (some ⟨w.heap.size, 0, none⟩)) ((w.alloc (bx a b)).alloc (bx x y)).drew := by
  refine ⟨_, _, rfl, rfl, by omega, by omega, Nat.le_refl _, ?_, (ptBlk_box w a b).alloc _, ((Below.refl _ _).alloc (Nat.le_refl _) _ |>.alloc (by simp) _).drew⟩
  have := ptBlk_box (w.alloc (bx a b)) x y
  rw [World.size_alloc] at this
  exact this

set_option maxRecDepth 100000 in
set_option maxHeartbeats 4000000 in
theorem boxD_any (b off n c : Nat) (l : List Pt) (w : World) (hl : l.length = n) (hn : 0 < n) (hn' : n ≤ 100) (h : PtsIn w b off l) (hb : b < w.heap.size) :
    Calls Try.prog 30 #[.slice (some ⟨b, off, none⟩) n c] w fun e w' =>
      e = .returned (.tuple #[.agg #[.int .i64 (lowL l).1, .int .i64 (lowL l).2], .agg #[.int .i64 (highL l).1, .int .i64 (highL l).2]]) ∧ Below w.heap.size w w' := by
  have HL := Lib.hid hl
  have HP := Lib.hid h
  have HE1 : Hid ((boxTo l n).1 = lowL l) := Lib.hid (by rw [← hl]; rfl)
  have HE2 : Hid ((boxTo l n).2 = highL l) := Lib.hid (by rw [← hl]; rfl)
  have HE0 : Hid (boxTo l 0 = (gt l 0, gt l 0)) := Lib.hid rfl
  clear hl h
  generalize lowL l = lo at *
  generalize highL l = hi at *
  obtain ⟨lo1, lo2⟩ := lo
  obtain ⟨hi1, hi2⟩ := hi
  go_enter Try.func30, Try.ntmps30
  go_upto_region 1 with (fail)
  have B0 := (ptBlk_box w 0 0)
  have hb0 : Below w.heap.size w ((w.alloc (bx 0 0)).alloc (bx 0 0)) := (Below.refl _ _).alloc (Nat.le_refl _) _ |>.alloc (by simp) _
  have B1 : PtBlk ((w.alloc (bx 0 0)).alloc (bx 0 0)) w.heap.size [(0, 0)] := (ptBlk_box w 0 0).alloc _
  have B2 : PtBlk ((w.alloc (bx 0 0)).alloc (bx 0 0)) (w.heap.size + 1) [(0, 0)] := by
    have := ptBlk_box (w.alloc (bx 0 0)) 0 0
    rwa [World.size_alloc] at this
  clear B0
  have hz0 : ((w.alloc (bx 0 0)).alloc (bx 0 0)).heap.size = w.heap.size + 2 := by simp
  have HP1 : Hid (PtsIn ((w.alloc (bx 0 0)).alloc (bx 0 0)) b off l) := Lib.hid (HP.out.below hb0 hb)
  generalize (w.alloc (bx 0 0)).alloc (bx 0 0) = wr at *
  have HB0 := Lib.hid hb0
  have HR := Lib.hid (And.intro B1 B2)
  have hB : b < wr.heap.size := by omega
  have hgw : w.heap.size + 1 < wr.heap.size := by omega
  clear hb0 B1 B2 hz0
  have hne : (gt l 0) = (gt l 0) := rfl
  obtain ⟨h1, h2⟩ := HP1.out 0 (gt l 0) (by unfold gt; rw [List.getD_eq_getElem?_getD, List.getElem?_eq_getElem (by rw [HL.out]; exact hn)]; rfl)
  generalize hg0 : gt l 0 = p0 at *
  have HG0 := Lib.hid hg0
  clear hg0 hne
  obtain ⟨x, y⟩ := p0
  simp only [Nat.zero_mul, Nat.add_zero] at h1 h2
  go_cut [4, 5] (fun s t wx => OwnTwo wr x y x y s t wx)
  case first =>
    have lt2 : wr.heap.size < wr.heap.size + 1 + 1 := by omega
    have n1 := World.new_ne wr _ h1
    have n2 := World.new_ne wr _ h2
    go_region_held3 (fun w' => Below wr.heap.size wr w' ∧ w'.cell? ⟨b, off, none⟩ = some (.int .i64 x) ∧ w'.cell? ⟨b, off + 1, none⟩ = some (.int .i64 y))
      (((repeat (first | refine keep_drew ?_ | refine keep_alloc ?_ hB _ | refine keep_set ?_ hB _ (by simp) _)); (first | assumption | exact hS | exact ⟨Below.refl _ _, h1, h2⟩)))
      (fail)
    all_goals (go_wp2_with fail; go_meet)
    · exact ownTwo wr x y x y
    · exact ownTwo' wr x y x y
  case rest =>
    obtain ⟨g, h, rfl, rfl, hne, hg, hh, PG, PH, hb1⟩ := hcut
    have HR1 := Lib.hid (And.intro (HR.out.1.below hb1 (by omega)) (HR.out.2.below hb1 (by omega)))
    have HBW := Lib.hid (HB0.out.trans (hb1.mono HB0.out.size))
    have HP2 := Lib.hid (HP1.out.below hb1 hB)
    have hB2 : b < wc.heap.size := Nat.lt_of_lt_of_le hB hb1.size
    have hgs : g < wc.heap.size := PG.lt
    have hhs : h < wc.heap.size := PH.lt
    have hgw2 : w.heap.size + 1 < g := by omega
    have hhw2 : w.heap.size + 1 < h := by omega
    have HPG : Hid (PtBlk wc g [(boxTo l 0).1] ∧ PtBlk wc h [(boxTo l 0).2]) := Lib.hid (by rw [HE0.out]; exact ⟨PG, PH⟩)
    clear hb1 HB0 HR HP1 h1 h2 hg hh HE0 HG0 PG PH hB hgw
    go_wp2_with fail
    go_loopw [16] (fun i wr => ∃ k : Nat, k ≤ n ∧ i = .int .i64 k ∧ PtBlk wr g [(boxTo l k).1] ∧ PtBlk wr h [(boxTo l k).2] ∧ PtBlk wr w.heap.size [(0, 0)] ∧ PtBlk wr (w.heap.size + 1) [(0, 0)] ∧ PtsIn wr b off l ∧ Below w.heap.size w wr) (fun i _ => n - (intOf i).toNat)
    case atStart => exact ⟨0, Nat.zero_le _, rfl, HPG.out.1, HPG.out.2, HR1.out.1, HR1.out.2, HP2.out, HBW.out⟩
    case round =>
      clear HR1 HBW HP2 HPG
      obtain ⟨k, hk, rfl, PG, PH, R1, R2, hp, hbw⟩ := hrel
      by_cases hlt : k < n
      · have HP3 := Lib.hid hp
        have HRR := Lib.hid (And.intro R1 R2)
        have HPG := Lib.hid (And.intro PG PH)
        obtain ⟨h1, h2⟩ := hp k (gt l k) (by unfold gt; rw [List.getD_eq_getElem?_getD, List.getElem?_eq_getElem (by rw [HL.out]; exact hlt)]; rfl)
        have HS : Hid (boxTo l (k + 1) = ((mn (boxTo l k).1.1 (gt l k).1, mn (boxTo l k).1.2 (gt l k).2), (mx (boxTo l k).2.1 (gt l k).1, mx (boxTo l k).2.2 (gt l k).2))) := Lib.hid rfl
        obtain ⟨g1, g2⟩ := PG.one
        obtain ⟨k1, k2⟩ := PH.one
        have f1 := PG.frozen 0
        have f2 := PG.frozen 1
        have f3 := PH.frozen 0
        have f4 := PH.frozen 1
        have hgz := PG.lt
        have hhz := PH.lt
        have hbz : b < wr.heap.size := block_lt_of_cell h1
        have hne' : h ≠ g := Ne.symm hne
        clear hp R1 R2 PG PH
        generalize gt l k = p at *
        generalize hbo : boxTo l k = bo at *
        clear hbo
        obtain ⟨x, y⟩ := p
        obtain ⟨⟨lx, ly⟩, hx, hy⟩ := bo
        simp only at g1 g2 k1 k2 h1 h2
        go_wp2_with fail
        go_roundw
        case rel =>
          have hbe : Below w.heap.size w (((((wr.setCell ⟨g, 0, none⟩ (.int .i64 (mn lx x))).setCell ⟨g, 1, none⟩ (.int .i64 (mn ly y))).setCell ⟨h, 0, none⟩ (.int .i64 (mx hx x))).setCell ⟨h, 1, none⟩ (.int .i64 (mx hy y))).alloc (bx x y)) :=
            ((((hbw.setCell (by simp; omega) _).setCell (by simp; omega) _).setCell (by simp; omega) _).setCell (by simp; omega) _).alloc (by simp; have := hbw.size; omega) _
          refine ⟨k + 1, by omega, by go_num, ?_, ?_, ?_, ?_, HP.out.below hbe hb, hbe⟩
          · rw [HS.out]
            exact (((HPG.out.1.put _ _).far hne _).far hne _).alloc _
          · rw [HS.out]
            exact (((HPG.out.2.far hne' _).far hne' _).put _ _).alloc _
          · exact ((((HRR.out.1.far (by simp; omega) _).far (by simp; omega) _).far (by simp; omega) _).far (by simp; omega) _).alloc _
          · exact ((((HRR.out.2.far (by simp; omega) _).far (by simp; omega) _).far (by simp; omega) _).far (by simp; omega) _).alloc _
        case measure => simp [intOf]; omega
      · obtain rfl : k = n := by omega
        rw [HE1.out] at PG
        rw [HE2.out] at PH
        obtain ⟨g1, g2⟩ := PG.one
        obtain ⟨k1, k2⟩ := PH.one
        obtain ⟨r1, r2⟩ := R1.one
        obtain ⟨s1, s2⟩ := R2.one
        have f1 := R1.frozen 0
        have f2 := R1.frozen 1
        have f3 := R2.frozen 0
        have f4 := R2.frozen 1
        have hgz := PG.lt
        have hhz := PH.lt
        have hrz := R2.lt
        have n1 : ¬ g = w.heap.size := by omega
        have n2 : ¬ w.heap.size = g := by omega
        have n3 : ¬ h = w.heap.size := by omega
        have n4 : ¬ w.heap.size = h := by omega
        have n5 : ¬ g = w.heap.size + 1 := by omega
        have n6 : ¬ w.heap.size + 1 = g := by omega
        have n7 : ¬ h = w.heap.size + 1 := by omega
        have n8 : ¬ w.heap.size + 1 = h := by omega
        have HBW := Lib.hid hbw
        clear PG PH R1 R2 hp hbw
        go_wp2_with fail
        go_region
        all_goals
          go_wp2
          refine bodyPost_ret (v := .tuple #[.agg #[.int .i64 lo1, .int .i64 lo2], .agg #[.int .i64 hi1, .int .i64 hi2]]) (by simp [results, Try.results30, go_sem, *]) rfl ⟨rfl, ?_⟩
          exact ((((HBW.out.setCell (by simp) _).setCell (by simp) _).setCell (by simp) _).setCell (by simp) _).drew
end Go.Proofs.Ythbekbfhpedghaa

/- The reference's box. -/
namespace Go.Proofs.Ythbekbfhpedghaa
open Go.RowKit Go.Sort
attribute [local go_sem ↓] run_min_mn run_max_mx Go.wp_at_zero Go.wp_at_succ

set_option maxRecDepth 100000 in
set_option maxHeartbeats 4000000 in
theorem refBox_any (b off n c : Nat) (l : List Pt) (w : World) (hl : l.length = n) (hn : 0 < n) (hn' : n ≤ 100) (h : PtsIn w b off l) (hb : b < w.heap.size) :
    Calls Try.prog 24 #[.slice (some ⟨b, off, none⟩) n c] w fun e w' =>
      e = .returned (.tuple #[.agg #[.int .i64 (lowL l).1, .int .i64 (lowL l).2], .agg #[.int .i64 (highL l).1, .int .i64 (highL l).2]]) ∧ Below w.heap.size w w' := by
  have HL := Lib.hid hl
  have HP := Lib.hid h
  have HE1 : Hid ((boxTo l n).1 = lowL l) := Lib.hid (by rw [← hl]; rfl)
  have HE2 : Hid ((boxTo l n).2 = highL l) := Lib.hid (by rw [← hl]; rfl)
  have HE0 : Hid (boxTo l 0 = (gt l 0, gt l 0)) := Lib.hid rfl
  clear hl h
  generalize lowL l = lo at *
  generalize highL l = hi at *
  obtain ⟨lo1, lo2⟩ := lo
  obtain ⟨hi1, hi2⟩ := hi
  go_enter Try.func24, Try.ntmps24
  go_upto_region 1 with (fail)
  have B0 := (ptBlk_box w 0 0)
  have hb0 : Below w.heap.size w ((w.alloc (bx 0 0)).alloc (bx 0 0)) := (Below.refl _ _).alloc (Nat.le_refl _) _ |>.alloc (by simp) _
  have B1 : PtBlk ((w.alloc (bx 0 0)).alloc (bx 0 0)) w.heap.size [(0, 0)] := (ptBlk_box w 0 0).alloc _
  have B2 : PtBlk ((w.alloc (bx 0 0)).alloc (bx 0 0)) (w.heap.size + 1) [(0, 0)] := by
    have := ptBlk_box (w.alloc (bx 0 0)) 0 0
    rwa [World.size_alloc] at this
  clear B0
  have hz0 : ((w.alloc (bx 0 0)).alloc (bx 0 0)).heap.size = w.heap.size + 2 := by simp
  have HP1 : Hid (PtsIn ((w.alloc (bx 0 0)).alloc (bx 0 0)) b off l) := Lib.hid (HP.out.below hb0 hb)
  generalize (w.alloc (bx 0 0)).alloc (bx 0 0) = wr at *
  have HB0 := Lib.hid hb0
  have HR := Lib.hid (And.intro B1 B2)
  have hB : b < wr.heap.size := by omega
  have hgw : w.heap.size + 1 < wr.heap.size := by omega
  clear hb0 B1 B2 hz0
  have hne : (gt l 0) = (gt l 0) := rfl
  obtain ⟨h1, h2⟩ := HP1.out 0 (gt l 0) (by unfold gt; rw [List.getD_eq_getElem?_getD, List.getElem?_eq_getElem (by rw [HL.out]; exact hn)]; rfl)
  generalize hg0 : gt l 0 = p0 at *
  have HG0 := Lib.hid hg0
  clear hg0 hne
  obtain ⟨x, y⟩ := p0
  simp only [Nat.zero_mul, Nat.add_zero] at h1 h2
  go_cut [4, 5] (fun s t wx => OwnTwo wr x y x y s t wx)
  case first =>
    have lt2 : wr.heap.size < wr.heap.size + 1 + 1 := by omega
    have n1 := World.new_ne wr _ h1
    have n2 := World.new_ne wr _ h2
    go_region_held3 (fun w' => Below wr.heap.size wr w' ∧ w'.cell? ⟨b, off, none⟩ = some (.int .i64 x) ∧ w'.cell? ⟨b, off + 1, none⟩ = some (.int .i64 y))
      (((repeat (first | refine keep_drew ?_ | refine keep_alloc ?_ hB _ | refine keep_set ?_ hB _ (by simp) _)); (first | assumption | exact hS | exact ⟨Below.refl _ _, h1, h2⟩)))
      (fail)
    all_goals (go_wp2_with fail; go_meet)
    · exact ownTwo wr x y x y
    · exact ownTwo' wr x y x y
  case rest =>
    obtain ⟨g, h, rfl, rfl, hne, hg, hh, PG, PH, hb1⟩ := hcut
    have HR1 := Lib.hid (And.intro (HR.out.1.below hb1 (by omega)) (HR.out.2.below hb1 (by omega)))
    have HBW := Lib.hid (HB0.out.trans (hb1.mono HB0.out.size))
    have HP2 := Lib.hid (HP1.out.below hb1 hB)
    have hB2 : b < wc.heap.size := Nat.lt_of_lt_of_le hB hb1.size
    have hgs : g < wc.heap.size := PG.lt
    have hhs : h < wc.heap.size := PH.lt
    have hgw2 : w.heap.size + 1 < g := by omega
    have hhw2 : w.heap.size + 1 < h := by omega
    have HPG : Hid (PtBlk wc g [(boxTo l 0).1] ∧ PtBlk wc h [(boxTo l 0).2]) := Lib.hid (by rw [HE0.out]; exact ⟨PG, PH⟩)
    clear hb1 HB0 HR HP1 h1 h2 hg hh HE0 HG0 PG PH hB hgw
    go_wp2_with fail
    go_loopw [6] (fun i wr => ∃ k : Nat, k ≤ n ∧ i = .int .i64 k ∧ PtBlk wr g [(boxTo l k).1] ∧ PtBlk wr h [(boxTo l k).2] ∧ PtBlk wr w.heap.size [(0, 0)] ∧ PtBlk wr (w.heap.size + 1) [(0, 0)] ∧ PtsIn wr b off l ∧ Below w.heap.size w wr) (fun i _ => n - (intOf i).toNat)
    case atStart => exact ⟨0, Nat.zero_le _, rfl, HPG.out.1, HPG.out.2, HR1.out.1, HR1.out.2, HP2.out, HBW.out⟩
    case round =>
      clear HR1 HBW HP2 HPG
      obtain ⟨k, hk, rfl, PG, PH, R1, R2, hp, hbw⟩ := hrel
      by_cases hlt : k < n
      · have HP3 := Lib.hid hp
        have HRR := Lib.hid (And.intro R1 R2)
        have HPG := Lib.hid (And.intro PG PH)
        obtain ⟨h1, h2⟩ := hp k (gt l k) (by unfold gt; rw [List.getD_eq_getElem?_getD, List.getElem?_eq_getElem (by rw [HL.out]; exact hlt)]; rfl)
        have HS : Hid (boxTo l (k + 1) = ((mn (boxTo l k).1.1 (gt l k).1, mn (boxTo l k).1.2 (gt l k).2), (mx (boxTo l k).2.1 (gt l k).1, mx (boxTo l k).2.2 (gt l k).2))) := Lib.hid rfl
        obtain ⟨g1, g2⟩ := PG.one
        obtain ⟨k1, k2⟩ := PH.one
        have f1 := PG.frozen 0
        have f2 := PG.frozen 1
        have f3 := PH.frozen 0
        have f4 := PH.frozen 1
        have hgz := PG.lt
        have hhz := PH.lt
        have hbz : b < wr.heap.size := block_lt_of_cell h1
        have hne' : h ≠ g := Ne.symm hne
        clear hp R1 R2 PG PH
        generalize hgk : gt l k = p at *
        generalize hbo : boxTo l k = bo at *
        clear hbo
        obtain ⟨x, y⟩ := p
        obtain ⟨⟨lx, ly⟩, hx, hy⟩ := bo
        simp only at g1 g2 k1 k2 h1 h2
        go_wp2_with fail
        go_still_tail 17, (by kernel_rfl)
        change wpList _ _ _ _ _ wr.drew
        go_wp2_with fail
        have hbe : Below w.heap.size w ((wr.setCell ⟨g, 0, none⟩ (.int .i64 (mn lx x))).setCell ⟨g, 1, none⟩ (.int .i64 (mn ly y))).drew := ((hbw.setCell (by simp; omega) _).setCell (by simp; omega) _).drew
        have Q1 : PtBlk ((wr.setCell ⟨g, 0, none⟩ (.int .i64 (mn lx x))).setCell ⟨g, 1, none⟩ (.int .i64 (mn ly y))).drew g [(mn lx x, mn ly y)] := HPG.out.1.put _ _
        have Q2 : PtBlk ((wr.setCell ⟨g, 0, none⟩ (.int .i64 (mn lx x))).setCell ⟨g, 1, none⟩ (.int .i64 (mn ly y))).drew h [(hx, hy)] := (HPG.out.2.far hne' _).far hne' _
        have Q3 : PtBlk ((wr.setCell ⟨g, 0, none⟩ (.int .i64 (mn lx x))).setCell ⟨g, 1, none⟩ (.int .i64 (mn ly y))).drew w.heap.size [(0, 0)] := (HRR.out.1.far (by simp; omega) _).far (by simp; omega) _
        have Q4 : PtBlk ((wr.setCell ⟨g, 0, none⟩ (.int .i64 (mn lx x))).setCell ⟨g, 1, none⟩ (.int .i64 (mn ly y))).drew (w.heap.size + 1) [(0, 0)] := (HRR.out.2.far (by simp; omega) _).far (by simp; omega) _
        clear g1 g2 k1 k2 f1 f2 f3 f4 h1 h2 HPG HRR hbw HP3 hgz hhz hbz
        generalize ((wr.setCell ⟨g, 0, none⟩ (.int .i64 (mn lx x))).setCell ⟨g, 1, none⟩ (.int .i64 (mn ly y))).drew = w1 at *
        have HQ := Lib.hid (And.intro Q1 (And.intro Q2 (And.intro Q3 Q4)))
        obtain ⟨h1, h2⟩ := (HP.out.below hbe hb) k (gt l k) (by unfold gt; rw [List.getD_eq_getElem?_getD, List.getElem?_eq_getElem (by rw [HL.out]; exact hlt)]; rfl)
        rw [hgk] at h1 h2
        simp only at h1 h2
        obtain ⟨k1, k2⟩ := Q2.one
        have f3 := Q2.frozen 0
        have f4 := Q2.frozen 1
        have hhz := Q2.lt
        have hbz : b < w1.heap.size := block_lt_of_cell h1
        clear Q1 Q2 Q3 Q4
        go_still_tail 17, (by kernel_rfl)
        change wpList _ _ _ _ _ w1.drew
        go_wp2_with fail
        go_roundw
        case rel =>
          have hbf : Below w.heap.size w ((w1.setCell ⟨h, 0, none⟩ (.int .i64 (mx hx x))).setCell ⟨h, 1, none⟩ (.int .i64 (mx hy y))).drew := ((hbe.setCell (by simp; omega) _).setCell (by simp; omega) _).drew
          refine ⟨k + 1, by omega, by go_num, ?_, ?_, ?_, ?_, HP.out.below hbf hb, hbf⟩
          · rw [HS.out]
            exact (HQ.out.1.far hne _).far hne _
          · rw [HS.out]
            exact HQ.out.2.1.put _ _
          · exact (HQ.out.2.2.1.far (by simp; omega) _).far (by simp; omega) _
          · exact (HQ.out.2.2.2.far (by simp; omega) _).far (by simp; omega) _
        case measure => simp [intOf]; omega
      · obtain rfl : k = n := by omega
        rw [HE1.out] at PG
        rw [HE2.out] at PH
        obtain ⟨g1, g2⟩ := PG.one
        obtain ⟨k1, k2⟩ := PH.one
        obtain ⟨r1, r2⟩ := R1.one
        obtain ⟨s1, s2⟩ := R2.one
        have f1 := R1.frozen 0
        have f2 := R1.frozen 1
        have f3 := R2.frozen 0
        have f4 := R2.frozen 1
        have hgz := PG.lt
        have hhz := PH.lt
        have hrz := R2.lt
        have n1 : ¬ g = w.heap.size := by omega
        have n2 : ¬ w.heap.size = g := by omega
        have n3 : ¬ h = w.heap.size := by omega
        have n4 : ¬ w.heap.size = h := by omega
        have n5 : ¬ g = w.heap.size + 1 := by omega
        have n6 : ¬ w.heap.size + 1 = g := by omega
        have n7 : ¬ h = w.heap.size + 1 := by omega
        have n8 : ¬ w.heap.size + 1 = h := by omega
        have HBW := Lib.hid hbw
        clear PG PH R1 R2 hp hbw
        go_wp2_with fail
        go_region
        all_goals
          go_wp2
          refine bodyPost_ret (v := .tuple #[.agg #[.int .i64 lo1, .int .i64 lo2], .agg #[.int .i64 hi1, .int .i64 hi2]]) (by simp [results, Try.results24, go_sem, *]) rfl ⟨rfl, ?_⟩
          exact ((((HBW.out.setCell (by simp) _).setCell (by simp) _).setCell (by simp) _).setCell (by simp) _).drew
end Go.Proofs.Ythbekbfhpedghaa

/- Lists of polygons in slices of a call's own. -/
namespace Go.Proofs.Ythbekbfhpedghaa
open Go.RowKit Go.Sort

/-- A list of points at the head of a block of points. -/
def PtsTy (w : World) (A : Option Addr) (l : List Pt) : Prop := ∃ g cur, A = some ⟨g, 0, none⟩ ∧ w.heap[g]? = some (.cells cur 37 (0, 0)) ∧ PtsIn w g 0 l
theorem PtsTy.lt {w : World} {A : Option Addr} {l : List Pt} (h : PtsTy w A l) : ∃ g, A = some ⟨g, 0, none⟩ ∧ g < w.heap.size ∧ PtsIn w g 0 l := by
  obtain ⟨g, cur, rfl, h1, h2⟩ := h
  exact ⟨g, rfl, (Array.getElem?_eq_some_iff.1 h1).1, h2⟩
theorem PtsTy.at {w : World} {A : Option Addr} {l : List Pt} (h : PtsTy w A l) : PtsAt w A l := fun _ => by
  obtain ⟨g, e, h1, h2⟩ := h.lt
  exact ⟨g, 0, e, h1, h2⟩
theorem PtsIn.same {w w' : World} {g off : Nat} {l : List Pt} (h : PtsIn w g off l) (e : w'.heap[g]? = w.heap[g]?) : PtsIn w' g off l := fun i p hp => by
  obtain ⟨h1, h2⟩ := h i p hp
  exact ⟨(World.cell?_of_block (a := ⟨g, _, none⟩) e).trans h1, (World.cell?_of_block (a := ⟨g, _, none⟩) e).trans h2⟩
theorem PtsTy.below {w w' : World} {A : Option Addr} {l : List Pt} (h : PtsTy w A l) (hb : Below w.heap.size w w') : PtsTy w' A l := by
  obtain ⟨g, cur, rfl, h1, h2⟩ := h
  have hlt := (Array.getElem?_eq_some_iff.1 h1).1
  have e := hb.block g hlt
  exact ⟨g, cur, rfl, e.trans h1, h2.same e⟩
/-- It stays behind an append to a row of another type. -/
theorem PtsTy.kept {w w' : World} {A : Option Addr} {l : List Pt} {row : Option Nat} (h : PtsTy w A l) (hg : w.grownBy w' row) (hne : ∀ k cur, row = some k → w.heap[k]? ≠ some (.cells cur 37 (0, 0))) : PtsTy w' A l := by
  obtain ⟨g, cur, rfl, h1, h2⟩ := h
  have hlt := (Array.getElem?_eq_some_iff.1 h1).1
  have e := hg.block g hlt (fun e => hne g cur e.symm h1)
  exact ⟨g, cur, rfl, e.trans h1, h2.same e⟩
theorem PtBlk.ty {w : World} {g : Nat} {l : List Pt} (h : PtBlk w g l) : PtsTy w (some ⟨g, 0, none⟩) l := ⟨g, _, rfl, h, h.pts⟩
theorem PtsOwn.ty {w : World} {base : Nat} {v : Value} {l : List Pt} (h : PtsOwn w base v l) (hl : l ≠ []) : ∃ A c, v = .slice A l.length c ∧ PtsTy w A l ∧ ∀ a, A = some a → base ≤ a.block := by
  obtain ⟨A, c, e, -, h1, h2⟩ := h.slice
  refine ⟨A, c, e, ?_, h2⟩
  subst e
  rcases h.2 with ⟨hv, hn⟩ | ⟨g, cap, cur, hv, _, hg, _⟩
  · exact absurd (List.eq_nil_of_length_eq_zero hn) hl
  · simp only [Value.slice.injEq] at hv
    obtain ⟨rfl, -, -⟩ := hv
    obtain ⟨b, off, e, -, hp⟩ := h1 hl
    have e := Option.some.inj e
    simp only [Addr.mk.injEq] at e
    obtain ⟨rfl, rfl, -⟩ := e
    exact ⟨g, _, rfl, hg, hp⟩

abbrev Sl := Option Addr × Nat × Nat
def slV (ss : List Sl) : List Value := ss.map fun s => .slice s.1 s.2.1 s.2.2
/-- A slice of polygons of the call's own. -/
def PolysOwn (w : World) (base : Nat) (v : Value) (L : List (List Pt)) : Prop :=
  ∃ ss : List Sl, ss.length = L.length ∧ w.ownsRow base 24 1 v L.length (slV ss) ∧ ∀ (i : Nat) (s : Sl) (l : List Pt), ss[i]? = some s → L[i]? = some l → l.length = s.2.1 ∧ (l ≠ [] → PtsTy w s.1 l)
/-- A slice of polygons, to be read. -/
def PolysAt (w : World) (A : Option Addr) (L : List (List Pt)) : Prop := L ≠ [] → ∃ b off, A = some ⟨b, off, none⟩ ∧ b < w.heap.size ∧ PolysIn w b off L
theorem PolysAt.below {w w' : World} {A : Option Addr} {L : List (List Pt)} (h : PolysAt w A L) (hb : Below w.heap.size w w') : PolysAt w' A L := fun hne => by
  obtain ⟨b, off, e, hlt, hp⟩ := h hne
  exact ⟨b, off, e, Nat.lt_of_lt_of_le hlt hb.size, hp.below hb hlt⟩

theorem PolysOwn.nil (w : World) (base : Nat) : PolysOwn w base (.slice none 0 0) [] := ⟨[], rfl, World.ownsRow_nil _ _ _ _, fun i s l h => (by simp at h)⟩
theorem PolysOwn.empty (w : World) : PolysOwn (w.alloc (.cells #[] 24)) w.heap.size (.slice (some ⟨w.heap.size, 0, none⟩) 0 0) [] :=
  ⟨[], rfl, World.ownsRow_made w #[] 0 (Nat.le_refl _) (by simp [maxLen]) rfl, fun i s l h => (by simp at h)⟩
theorem PolysOwn.low {w : World} {base base' : Nat} {v : Value} {L : List (List Pt)} (h : PolysOwn w base v L) (hb : base' ≤ base) : PolysOwn w base' v L := by
  obtain ⟨ss, h1, h2, h3⟩ := h
  refine ⟨ss, h1, ⟨h2.1, ?_⟩, h3⟩
  rcases h2.2 with h2 | ⟨g, cap, cur, e, hg, r⟩
  · exact .inl h2
  · exact .inr ⟨g, cap, cur, e, Nat.le_trans hb hg, r⟩
theorem PolysOwn.base {w : World} {base : Nat} {v : Value} {L : List (List Pt)} (h : PolysOwn w base v L) : ∀ k, v.ownBlock = some k → base ≤ k ∧ k < w.heap.size := by
  obtain ⟨ss, -, h2, -⟩ := h
  exact h2.lt
theorem PolysOwn.typed {w : World} {base : Nat} {v : Value} {L : List (List Pt)} (h : PolysOwn w base v L) : ∀ k, v.ownBlock = some k → ∃ cur, w.heap[k]? = some (.cells cur 24 (0, 0)) := fun k hk => by
  obtain ⟨ss, -, h2, -⟩ := h
  rcases h2.2 with ⟨rfl, -⟩ | ⟨g, cap, cur, rfl, _, hg, _⟩
  · simp [Value.ownBlock] at hk
  · simp [Value.ownBlock] at hk
    subst hk
    exact ⟨_, hg⟩
theorem PolysOwn.kept {w w' : World} {base : Nat} {v : Value} {L : List (List Pt)} {row : Option Nat} (h : PolysOwn w base v L) (hg : w.grownBy w' row)
    (hne : ∀ k cur, row = some k → w.heap[k]? ≠ some (.cells cur 37 (0, 0)) ∧ w.heap[k]? ≠ some (.cells cur 24 (0, 0))) : PolysOwn w' base v L := by
  have ht := h.typed
  obtain ⟨ss, h1, h2, h3⟩ := h
  refine ⟨ss, h1, h2.kept hg ?_, fun i s l hs hl => ?_⟩
  · cases e : v.ownBlock with
    | none => exact .inl rfl
    | some k =>
      refine .inr fun e2 => ?_
      obtain ⟨cur, hc⟩ := ht k e
      exact (hne k cur e2.symm).2 hc
  · obtain ⟨h4, h5⟩ := h3 i s l hs hl
    exact ⟨h4, fun he => (h5 he).kept hg fun k cur e => (hne k cur e).1⟩
theorem PolysOwn.belows {w w' : World} {base : Nat} {v : Value} {L : List (List Pt)} (h : PolysOwn w base v L) (hb : Below w.heap.size w w') : PolysOwn w' base v L :=
  h.kept (row := none) ⟨hb.os, hb.tape, hb.output, hb.size, fun i hi _ => hb.block i hi⟩ (fun k cur e => by cases e)
theorem PolysOwn.slice {w : World} {base : Nat} {v : Value} {L : List (List Pt)} (h : PolysOwn w base v L) (hlen : ∀ l ∈ L, l.length ≤ 1000000) : ∃ A c, v = .slice A L.length c ∧ PolysAt w A L := by
  obtain ⟨ss, h1, h2, h3⟩ := h
  rcases h2.2 with ⟨rfl, hn⟩ | ⟨g, cap, cur, rfl, hb, hg, hnc, _, hsz, ht⟩
  · refine ⟨none, 0, by rw [hn], fun hne => absurd (List.eq_nil_of_length_eq_zero hn) hne⟩
  · refine ⟨_, cap, rfl, fun _ => ⟨g, 0, rfl, (Array.getElem?_eq_some_iff.1 hg).1, fun i l hi => ?_⟩⟩
    have hlt : i < ss.length := by rw [h1]; exact (List.getElem?_eq_some_iff.1 hi).1
    obtain ⟨h4, h5⟩ := h3 i ss[i] l (List.getElem?_eq_getElem hlt) hi
    refine ⟨ss[i].1, ss[i].2.1, ss[i].2.2, ?_, h4, by rw [← h4]; exact hlen l (List.mem_of_getElem? hi), fun he => (h5 he).at he⟩
    have hv : (slV ss)[i]? = some (.slice ss[i].1 ss[i].2.1 ss[i].2.2) := by unfold slV; rw [List.getElem?_map, List.getElem?_eq_getElem hlt]; rfl
    rw [← ht, List.getElem?_take] at hv
    rw [Nat.zero_add, cell_of_row w g _ cur _ (0, 0) hg]
    split at hv
    · simpa using hv
    · cases hv

theorem info_sl : (Try.prog.info? 24).map (fun i => (i.zero, i.size, i.bytes)) = some (some (.slice none 0 0), 1, 24) := by kernel_rfl

/-- An append of one polygon. -/
theorem plapp_run {w : World} {base : Nat} {v : Value} {L : List (List Pt)} (h : PolysOwn w base v L) {b : Nat} {A : Option Addr} {n c : Nat} {l : List Pt} (hc : w.cell? ⟨b, 0, none⟩ = some (.slice A n c)) (hl : l.length = n) (ht : l ≠ [] → PtsTy w A l)
    (hlen : L.length + 1 ≤ 100000) (hb : base ≤ w.heap.size) (ty : TypeId) :
    ∃ v' w', (Builtin.append_ #[23, 23] ty #[v, .slice (some ⟨b, 0, none⟩) 1 1]).run Try.prog w = .ok v' w' ∧ PolysOwn w' base v' (L ++ [l]) ∧ w.grownBy w' v.ownBlock ∧
      (v'.ownBlock = v.ownBlock ∨ v'.ownBlock = some w.heap.size) := by
  obtain ⟨i0, hi0, hz0, hz1, hz2⟩ := info_pparts info_sl
  have htt := h.typed
  obtain ⟨ss, h1, h2, h3⟩ := h
  obtain ⟨v', w', hr, h4, h5, _, h6⟩ := run_append_own_at (P := Try.prog) w base 23 ty 24 i0 _ 1 24 Try.underlying23 hi0 hz0 hz1 hz2 rfl (by omega) v L.length (slV ss) h2 ⟨b, 0, none⟩ 1 1 [.slice A n c] rfl
    (fun j u hu => by
      match j, hu with
      | 0, hu =>
        obtain rfl : Value.slice A n c = u := by simpa using hu
        exact hc)
    (fun u hu => by obtain rfl := List.mem_singleton.1 hu; rfl) (by simp [maxLen]; omega) (by omega) hb
  have keep : ∀ {A : Option Addr} {l : List Pt}, PtsTy w A l → PtsTy w' A l := fun {A l} hp => hp.kept h5 fun k cur e => by
    obtain ⟨cur', hc'⟩ := htt k e
    rw [hc']
    simp
  refine ⟨v', w', hr, ⟨ss ++ [(A, n, c)], by simp [h1], ?_, fun i s l' hs hl' => ?_⟩, h5, h6⟩
  · have e2 : slV (ss ++ [(A, n, c)]) = slV ss ++ [.slice A n c] := by simp [slV]
    rw [e2, List.length_append]
    exact h4
  · by_cases hi : i < ss.length
    · rw [List.getElem?_append_left hi] at hs
      rw [List.getElem?_append_left (by omega)] at hl'
      obtain ⟨h7, h8⟩ := h3 i s l' hs hl'
      exact ⟨h7, fun he => keep (h8 he)⟩
    · have hi2 : i = ss.length := by
        have := (List.getElem?_eq_some_iff.1 hs).1
        simp at this; omega
      subst hi2
      rw [List.getElem?_append_right (Nat.le_refl _), Nat.sub_self] at hs
      rw [h1, List.getElem?_append_right (Nat.le_refl _), Nat.sub_self] at hl'
      obtain rfl : (A, n, c) = s := by simpa using hs
      obtain rfl : l = l' := by simpa using hl'
      exact ⟨hl, fun he => keep (ht he)⟩

theorem wpList_plapp {w : World} {ops : Array Oper} {rest : List Oper} {o : Oper} {a : Act} {Q : Exit → Act → World → Prop} (hgd : o.guard = none) (s x : Operand)
    (ho : o.op = .call { callee := .builtin .append, args := #[s, x], argTypes := #[23, 23] }) (base : Nat) (v : Value) (L : List (List Pt)) (b : Nat) (A : Option Addr) (n c : Nat) (l : List Pt)
    (hs : a.eval s = v) (hx : a.eval x = .slice (some ⟨b, 0, none⟩) 1 1) (hown : PolysOwn w base v L) (hc : w.cell? ⟨b, 0, none⟩ = some (.slice A n c)) (hl : l.length = n) (ht : l ≠ [] → PtsTy w A l) (hlen : L.length + 1 ≤ 100000) (hb : base ≤ w.heap.size)
    (h : ∀ v' w', PolysOwn w' base v' (L ++ [l]) → w.grownBy w' v.ownBlock → (v'.ownBlock = v.ownBlock ∨ v'.ownBlock = some w.heap.size) → wpList Try.prog ops Q rest (a.put o.dst v') w') : wpList Try.prog ops Q (o :: rest) a w :=
  wpList_plain hgd fun _ hK => by
    obtain ⟨v', w', hr, h2, h3, h4⟩ := plapp_run hown hc hl ht hlen hb o.type
    unfold Oper.wp execOp
    simp only [ho, resolve, invoke, builtin, Sem.run_bind, Sem.run_pure, Result.andThen_ok, List.map_toArray, List.map_cons, List.map_nil, hs, hx, hr]
    exact hK _ _ (h v' w' h2 h3 h4)
end Go.Proofs.Ythbekbfhpedghaa

/- Shape: a hull is convex in normal form, as the reference finds it. -/
namespace Go.Proofs.Ythbekbfhpedghaa

theorem hedge_next {P : List Pt} {a b c : Pt} (h : Hedge P a b) (k : Hedge P a c) : b = c := by
  have h1 := h.ok c k.snd
  have h2 := k.ok b h.snd
  have e := crossP_swap a b c
  have z1 := h1.nonneg
  have z2 := h2.nonneg
  rcases h1 with q | q
  · omega
  · rcases h2 with r | r
    · omega
    · exact (on_both q r).symm

theorem zero_of {p q X Y : Int} (hp : 0 < p) (hq : 0 < q) (h : p * X = q * Y) (hX : X ≤ 0) (hY : 0 ≤ Y) : X = 0 ∧ Y = 0 := by
  have h1 : 0 ≤ q * Y := Int.mul_nonneg (by omega) hY
  have h2 : 0 ≤ p * -X := Int.mul_nonneg (by omega) (by omega)
  rw [Int.mul_neg] at h2
  have e1 : p * X = 0 := by omega
  have e2 : q * Y = 0 := by omega
  exact ⟨(Int.mul_eq_zero.1 e1).resolve_left (by omega), (Int.mul_eq_zero.1 e2).resolve_left (by omega)⟩

/-- A point strictly between two others sees them on both sides of every line through it. -/
theorem mid_zero {ux uy wx wy ex ey : Int} (hp : ux * wy = wx * uy) (bx : btw ux (ux + wx)) (hby : btw uy (uy + wy)) (hu : ¬ (ux = 0 ∧ uy = 0)) (hw : ¬ (wx = 0 ∧ wy = 0))
    (na : ex * uy - ux * ey ≤ 0) (nb : 0 ≤ ex * wy - wx * ey) : ex * uy - ux * ey = 0 ∧ ex * wy - wx * ey = 0 := by
  unfold btw at bx hby
  have k1 : wx * (ex * uy - ux * ey) = ux * (ex * wy - wx * ey) := by grind
  have k2 : wy * (ex * uy - ux * ey) = uy * (ex * wy - wx * ey) := by grind
  generalize ex * uy - ux * ey = X at *
  generalize ex * wy - wx * ey = Y at *
  by_cases hx : ux = 0
  · have hy : uy ≠ 0 := fun e => hu ⟨hx, e⟩
    rw [hx, Int.zero_mul] at hp
    have hwx : wx = 0 := (Int.mul_eq_zero.1 hp.symm).resolve_right hy
    have hwy : wy ≠ 0 := fun e => hw ⟨hwx, e⟩
    rcases Int.lt_or_lt_of_ne hy with g | g
    · exact zero_of (p := -wy) (q := -uy) (by omega) (by omega) (by rw [Int.neg_mul, Int.neg_mul, k2]) na nb
    · exact zero_of (p := wy) (q := uy) (by omega) (by omega) k2 na nb
  · have hwx : wx ≠ 0 := fun e => by
      rw [e, Int.zero_mul] at hp
      have := (Int.mul_eq_zero.1 hp).resolve_left hx
      exact hw ⟨e, this⟩
    rcases Int.lt_or_lt_of_ne hx with g | g
    · exact zero_of (p := -wx) (q := -ux) (by omega) (by omega) (by rw [Int.neg_mul, Int.neg_mul, k1]) na nb
    · exact zero_of (p := wx) (q := ux) (by omega) (by omega) k1 na nb

theorem mid_no {ux uy wx wy ex ey : Int} (hp : ux * wy = wx * uy) (bx : btw ux (ux + wx)) (hby : btw uy (uy + wy)) (hu : ¬ (ux = 0 ∧ uy = 0)) (hw : ¬ (wx = 0 ∧ wy = 0))
    (a1 : btw (-ux) ex) (a2 : btw (-uy) ey) (b1 : btw wx ex) (b2 : btw wy ey) : False := by
  unfold btw at *
  by_cases hx : ux = 0
  · have hy : uy ≠ 0 := fun e => hu ⟨hx, e⟩
    rw [hx, Int.zero_mul] at hp
    have hwx : wx = 0 := (Int.mul_eq_zero.1 hp.symm).resolve_right hy
    have hwy : wy ≠ 0 := fun e => hw ⟨hwx, e⟩
    omega
  · have hwx : wx ≠ 0 := fun e => by
      rw [e, Int.zero_mul] at hp
      have := (Int.mul_eq_zero.1 hp).resolve_left hx
      exact hw ⟨e, this⟩
    omega

/-- No corner lies within an edge. -/
theorem hedge_between {P : List Pt} {a b c d : Pt} (h : Hedge P a b) (k : Hedge P c d) (on : onP a b c = true) : c = a ∨ c = b := by
  have ka := k.ok a h.fst
  have kb := k.ok b h.snd
  have na := ka.nonneg
  have nb := kb.nonneg
  rw [onP_iff] at on
  obtain ⟨z, o1, o2⟩ := on
  apply Classical.byContradiction
  intro hno
  have hu : ¬ (c.1 - a.1 = 0 ∧ c.2 - a.2 = 0) := fun e => hno (.inl (Prod.ext (by omega) (by omega)))
  have hw : ¬ (b.1 - c.1 = 0 ∧ b.2 - c.2 = 0) := fun e => hno (.inr (Prod.ext (by omega) (by omega)))
  have hp : (c.1 - a.1) * (b.2 - c.2) = (b.1 - c.1) * (c.2 - a.2) := by unfold al at z; grind
  have bx : btw (c.1 - a.1) (c.1 - a.1 + (b.1 - c.1)) := by rw [show c.1 - a.1 + (b.1 - c.1) = b.1 - a.1 by omega]; exact o1
  have hby : btw (c.2 - a.2) (c.2 - a.2 + (b.2 - c.2)) := by rw [show c.2 - a.2 + (b.2 - c.2) = b.2 - a.2 by omega]; exact o2
  have na' : (d.1 - c.1) * (c.2 - a.2) - (c.1 - a.1) * (d.2 - c.2) ≤ 0 := by
    have : crossP c d a = -((d.1 - c.1) * (c.2 - a.2) - (c.1 - a.1) * (d.2 - c.2)) := by unfold crossP cross; grind
    omega
  have nb' : 0 ≤ (d.1 - c.1) * (b.2 - c.2) - (b.1 - c.1) * (d.2 - c.2) := nb
  obtain ⟨z1, z2⟩ := mid_zero hp bx hby hu hw na' nb'
  have oa : onP c d a = true := ka.resolve_left fun q => by
    have : crossP c d a = -((d.1 - c.1) * (c.2 - a.2) - (c.1 - a.1) * (d.2 - c.2)) := by unfold crossP cross; grind
    omega
  have ob : onP c d b = true := kb.resolve_left fun q => by
    have : crossP c d b = (d.1 - c.1) * (b.2 - c.2) - (b.1 - c.1) * (d.2 - c.2) := rfl
    omega
  rw [onP_iff] at oa ob
  exact mid_no (ex := d.1 - c.1) (ey := d.2 - c.2) hp bx hby hu hw (by rw [show -(c.1 - a.1) = a.1 - c.1 by omega]; exact oa.2.1) (by rw [show -(c.2 - a.2) = a.2 - c.2 by omega]; exact oa.2.2) ob.2.1 ob.2.2

theorem hull_walk {P H : List Pt} {s0 : Pt} (h : Hull P H s0) {i j : Nat} (e : gt H (i % H.length) = gt H (j % H.length)) : ∀ k, gt H ((i + k) % H.length) = gt H ((j + k) % H.length)
  | 0 => e
  | k + 1 => by
    have two := h.two
    have ih := hull_walk h e k
    have ei := h.edge ((i + k) % H.length) (Nat.mod_lt _ (by omega))
    have ej := h.edge ((j + k) % H.length) (Nat.mod_lt _ (by omega))
    rw [← ih] at ej
    have := hedge_next ei ej
    have m : ∀ x, nx H (x % H.length) = gt H ((x + 1) % H.length) := fun x => by
      show gt H ((x % H.length + 1) % H.length) = _
      rw [Nat.mod_add_mod]
    rw [m, m] at this
    exact this

/-- All corners are different. -/
theorem hull_inj {P H : List Pt} {s0 : Pt} (h : Hull P H s0) {i j : Nat} (hi : i < H.length) (hj : j < H.length) (e : gt H i = gt H j) : i = j := by
  have key : ∀ i j, i < j → j < H.length → gt H i = gt H j → False := fun i j hij hj e => by
    have := hull_walk h (i := i) (j := j) (by rw [Nat.mod_eq_of_lt (by omega), Nat.mod_eq_of_lt hj]; exact e) (H.length - j)
    rw [show j + (H.length - j) = H.length by omega, Nat.mod_self, Nat.mod_eq_of_lt (by omega), h.first] at this
    exact h.once _ (by omega) (by omega) this
  rcases Nat.lt_trichotomy i j with g | g | g
  · exact (key i j g hj e).elim
  · exact g
  · exact (key j i g hi e.symm).elim

theorem sgn_mul {X Y : Int} (hX : 0 ≤ X) (hY : 0 ≤ Y) : ¬ sgn X * sgn Y < 0 := by
  have key : ∀ Z, 0 ≤ Z → sgn Z = 0 ∨ sgn Z = 1 := fun Z hZ => by
    unfold sgn
    split
    · exact .inr rfl
    · split
      · omega
      · exact .inl rfl
  rcases key X hX with e | e <;> rcases key Y hY with f | f <;> rw [e, f] <;> decide

theorem hedge_apart {P : List Pt} {a b c d a' b' : Pt} (h : Hedge P a b) (k : Hedge P c d) (ha : Hedge P b a') (hd : Hedge P d b') (h1 : c ≠ a) (h2 : c ≠ b) (h3 : d ≠ a) (h4 : d ≠ b) : meetP a b c d = false := by
  have o1 : onP a b c = false := by
    cases e : onP a b c
    · rfl
    · rcases hedge_between h k e with q | q
      · exact absurd q h1
      · exact absurd q h2
  have o2 : onP a b d = false := by
    cases e : onP a b d
    · rfl
    · rcases hedge_between h hd e with q | q
      · exact absurd q h3
      · exact absurd q h4
  have o3 : onP c d a = false := by
    cases e : onP c d a
    · rfl
    · rcases hedge_between k h e with q | q
      · exact absurd q.symm h1
      · exact absurd q.symm h3
  have o4 : onP c d b = false := by
    cases e : onP c d b
    · rfl
    · rcases hedge_between k ha e with q | q
      · exact absurd q.symm h2
      · exact absurd q.symm h4
  have x1 : ¬ sgn (crossP a b c) * sgn (crossP a b d) < 0 := sgn_mul (h.ok c k.fst).nonneg (h.ok d k.snd).nonneg
  show ((onP a b c || onP a b d || onP c d a || onP c d b) || (decide (sgn (crossP a b c) * sgn (crossP a b d) < 0) && decide (sgn (crossP c d a) * sgn (crossP c d b) < 0))) = false
  rw [o1, o2, o3, o4, decide_eq_false x1]
  rfl

theorem eqP_false {a b : Pt} (h : a ≠ b) : eqP a b = false := by
  cases e : eqP a b
  · rfl
  · unfold eqP eqI at e
    rw [Bool.and_eq_true, beq_iff_eq, beq_iff_eq] at e
    exact absurd (Prod.ext e.1 e.2) h

/-- THE HULL IS CONVEX IN NORMAL FORM. -/
theorem hull_convex {P H : List Pt} {s0 : Pt} (h : Hull P H s0) (h3 : 3 ≤ H.length) (hlow : ∀ p ∈ P, leP s0 p) : convexB H = true := by
  have lt : ∀ x, x % H.length < H.length := fun x => Nat.mod_lt _ (by omega)
  have E : ∀ x, Hedge P (gt H (x % H.length)) (gt H ((x + 1) % H.length)) := fun x => by
    have := h.edge (x % H.length) (lt x)
    have m : nx H (x % H.length) = gt H ((x + 1) % H.length) := by
      show gt H ((x % H.length + 1) % H.length) = _
      rw [Nat.mod_add_mod]
    rwa [m] at this
  have ne : ∀ x y, x % H.length ≠ y % H.length → gt H (x % H.length) ≠ gt H (y % H.length) := fun x y hxy e => hxy (hull_inj h (lt x) (lt y) e)
  have nxe : ∀ x, nx H x = gt H ((x + 1) % H.length) := fun _ => rfl
  have s1 : ∀ i, i < H.length → i % H.length ≠ (i + 1) % H.length := fun i hi => by
    rw [Nat.mod_eq_of_lt hi]
    rcases Nat.lt_or_ge (i + 1) H.length with g | g
    · rw [Nat.mod_eq_of_lt g]; omega
    · rw [show i + 1 = H.length by omega, Nat.mod_self]; omega
  have s2 : ∀ i, i < H.length → i % H.length ≠ (i + 1 + 1) % H.length := fun i hi => by
    rw [Nat.mod_eq_of_lt hi]
    rcases Nat.lt_or_ge (i + 1 + 1) H.length with g | g
    · rw [Nat.mod_eq_of_lt g]; omega
    · rcases Nat.lt_or_ge (i + 1) H.length with q | q
      · rw [show i + 1 + 1 = H.length by omega, Nat.mod_self]; omega
      · rw [show i + 1 + 1 = 1 + H.length by omega, Nat.add_mod_right, Nat.mod_eq_of_lt (by omega)]; omega
  have s3 : ∀ i, (i + 1) % H.length ≠ (i + 1 + 1) % H.length := fun i e => by
    have := s1 ((i + 1) % H.length) (lt _)
    rw [Nat.mod_mod, Nat.mod_add_mod] at this
    exact this e
  have gm : ∀ i, i < H.length → gt H i = gt H (i % H.length) := fun i hi => by rw [Nat.mod_eq_of_lt hi]
  have turn : ∀ i, i < H.length → onP (gt H i) (nx H i) (nx H (i + 1)) = false := fun i hi => by
    cases e : onP (gt H i) (nx H i) (nx H (i + 1))
    · rfl
    · rw [nxe, nxe, gm i hi] at e
      rcases hedge_between (E i) (E (i + 1 + 1)) e with q | q
      · exact absurd q.symm (ne _ _ (s2 i hi))
      · exact absurd q.symm (ne _ _ (s3 i))
  have back : ∀ i, i < H.length → onP (nx H i) (nx H (i + 1)) (gt H i) = false := fun i hi => by
    cases e : onP (nx H i) (nx H (i + 1)) (gt H i)
    · rfl
    · rw [nxe, nxe, gm i hi] at e
      rcases hedge_between (E (i + 1)) (E i) e with q | q
      · exact absurd q (ne _ _ (s1 i hi))
      · exact absurd q (ne _ _ (s2 i hi))
  unfold convexB simpleB
  rw [Bool.and_eq_true, Bool.and_eq_true, List.all_eq_true, List.all_eq_true, List.all_eq_true]
  refine ⟨⟨fun i hi => ?_, fun i hi => ?_⟩, fun i hi => ?_⟩
  · rw [List.mem_range] at hi
    unfold zeroAt
    rw [nxe, gm i hi, eqP_false (ne _ _ (s1 i hi))]
    rfl
  · rw [List.mem_range] at hi
    unfold foldAt
    rw [turn i hi, back i hi, Bool.and_eq_true, List.all_eq_true]
    refine ⟨rfl, fun k hk => ?_⟩
    rw [List.mem_range] at hk
    by_cases g : k < i + 2
    · rw [decide_eq_true g]; rfl
    · rw [decide_eq_false g]
      unfold hitAt
      cases e : ((k + 1) % H.length == i)
      · have e' : (k + 1) % H.length ≠ i := by rw [← beq_eq_false_iff_ne]; exact e
        rw [nxe, nxe, gm i hi, gm k hk, hedge_apart (E i) (E k) (E (i + 1)) (E (k + 1)) (ne _ _ ?_) (ne _ _ ?_) (ne _ _ ?_) (ne _ _ ?_)]
        · rfl
        · rw [Nat.mod_eq_of_lt hi, Nat.mod_eq_of_lt hk]; omega
        · rw [Nat.mod_eq_of_lt hk, Nat.mod_eq_of_lt (by omega)]; omega
        · rw [Nat.mod_eq_of_lt hi]; exact e'
        · rw [Nat.mod_eq_of_lt (show i + 1 < H.length by omega)]
          rcases Nat.lt_or_ge (k + 1) H.length with q | q
          · rw [Nat.mod_eq_of_lt q]; omega
          · rw [show k + 1 = H.length by omega, Nat.mod_self]; omega
      · rfl
  · rw [List.mem_range] at hi
    unfold convexAt
    have hc : ¬ crossP (gt H i) (nx H i) (nx H (i + 1)) ≤ 0 := fun q => by
      have l := (E i).ok (nx H (i + 1)) (by rw [nxe]; exact (E (i + 1)).snd)
      rw [← gm i hi, ← nxe] at l
      rcases l with l | l
      · omega
      · rw [turn i hi] at l; cases l
    rw [decide_eq_false hc, Bool.and_eq_true]
    refine ⟨rfl, ?_⟩
    by_cases i0 : i = 0
    · subst i0; rfl
    · have hm : gt H i ∈ P := by rw [gm i hi]; exact (E i).fst
      rcases hlow _ hm with q | q
      · exact absurd q.symm (h.once i (by omega) hi)
      · rw [Bool.or_eq_true]
        right
        rw [h.first]
        unfold firstP firstB
        unfold ltP at q
        simp only [Bool.or_eq_true, Bool.and_eq_true, decide_eq_true_eq, beq_iff_eq]
        exact q

end Go.Proofs.Ythbekbfhpedghaa

/- Shape: a hull is one; the points that it was made of lie in it or on its edges. -/
namespace Go.Proofs.Ythbekbfhpedghaa

/-- The corners, round and round. -/
def vtx (H : List Pt) (x : Nat) : Pt := gt H (x % H.length)
theorem Hull.edgeV {P H : List Pt} {s0 : Pt} (h : Hull P H s0) (x : Nat) : Hedge P (vtx H x) (vtx H (x + 1)) := by
  have two := h.two
  have := h.edge (x % H.length) (Nat.mod_lt _ (by omega))
  have m : nx H (x % H.length) = vtx H (x + 1) := by
    show gt H ((x % H.length + 1) % H.length) = _
    rw [Nat.mod_add_mod]; rfl
  rwa [m] at this
theorem vtx_lt {H : List Pt} {x : Nat} (h : x < H.length) : vtx H x = gt H x := by unfold vtx; rw [Nat.mod_eq_of_lt h]
theorem vtx_nx (H : List Pt) (x : Nat) : nx H x = vtx H (x + 1) := rfl
theorem vtx_add (H : List Pt) (x : Nat) : vtx H (x + H.length) = vtx H x := by unfold vtx; rw [Nat.add_mod_right]
theorem Hull.vtx0 {P H : List Pt} {s0 : Pt} (h : Hull P H s0) : vtx H 0 = s0 := by
  have two := h.two
  rw [vtx_lt (by omega)]; exact h.first

theorem hull_steps {P H K : List Pt} {s0 : Pt} (h : Hull P H s0) (k : Hull P K s0) : ∀ x, vtx H x = vtx K x
  | 0 => by rw [h.vtx0, k.vtx0]
  | x + 1 => by
    have e1 := h.edgeV x
    have e2 := k.edgeV x
    rw [hull_steps h k x] at e1
    exact hedge_next e1 e2

theorem hull_len_le {P H K : List Pt} {s0 : Pt} (h : Hull P H s0) (k : Hull P K s0) : K.length ≤ H.length := by
  have two := h.two
  rcases Nat.lt_or_ge H.length K.length with g | g
  · exfalso
    have e := hull_steps h k H.length
    rw [vtx_lt g] at e
    refine k.once H.length (by omega) g ?_
    rw [← e]
    have := vtx_add H 0
    rw [Nat.zero_add] at this
    rw [this, h.vtx0]
  · exact g

theorem hull_unique {P H K : List Pt} {s0 : Pt} (h : Hull P H s0) (k : Hull P K s0) : H = K := by
  have hl : H.length = K.length := Nat.le_antisymm (hull_len_le k h) (hull_len_le h k)
  refine List.ext_getElem hl fun i h1 h2 => ?_
  have e := hull_steps h k i
  rw [vtx_lt h1, vtx_lt h2] at e
  rw [gt_of (List.getElem?_eq_getElem h1), gt_of (List.getElem?_eq_getElem h2)] at e
  exact e

theorem hull_sub {P H : List Pt} {s0 : Pt} (h : Hull P H s0) {p : Pt} (hp : p ∈ H) : p ∈ P := by
  obtain ⟨i, hi, rfl⟩ := List.getElem_of_mem hp
  have := (h.edge i hi).fst
  rwa [gt_of (List.getElem?_eq_getElem hi)] at this
theorem vtx_mem {H : List Pt} (h : 0 < H.length) (x : Nat) : vtx H x ∈ H := by
  unfold vtx
  rw [gt_of (List.getElem?_eq_getElem (Nat.mod_lt x h))]
  exact List.getElem_mem _
/-- The hull of the hull's corners is itself. -/
theorem hull_self {P H : List Pt} {s0 : Pt} (h : Hull P H s0) : Hull H H s0 := by
  have two := h.two
  refine ⟨h.first, h.two, fun i hi => ?_, h.once⟩
  have e := h.edge i hi
  refine ⟨e.ne, fun p hp => e.ok p (hull_sub h hp), ?_, ?_⟩
  · rw [← vtx_lt hi]; exact vtx_mem (by omega) _
  · rw [vtx_nx]; exact vtx_mem (by omega) _

theorem nodup_le {l m : List Pt} (h : l.Nodup) (hs : ∀ p ∈ l, p ∈ m) : l.length ≤ m.length := by
  induction l generalizing m with
  | nil => simp
  | cons x l ih =>
    obtain ⟨h1, h2⟩ := List.nodup_cons.1 h
    have hx := hs x (by simp)
    have := ih (m := m.erase x) h2 fun p hp => (List.mem_erase_of_ne (fun e => h1 (by rw [← e]; exact hp))).2 (hs p (by simp [hp]))
    rw [List.length_erase_of_mem hx] at this
    have : 0 < m.length := List.length_pos_of_mem hx
    simp only [List.length_cons]
    omega
theorem hull_length {P H : List Pt} {s0 : Pt} (h : Hull P H s0) : H.length ≤ P.length := by
  refine nodup_le ?_ fun p hp => hull_sub h hp
  refine List.pairwise_iff_getElem.2 fun i j hi hj hij e => ?_
  have := hull_inj h (i := i) (j := j) hi hj (by rw [gt_of (List.getElem?_eq_getElem hi), gt_of (List.getElem?_eq_getElem hj)]; exact e)
  omega

theorem crossP_rot (a b p : Pt) : crossP b a p = - crossP a b p := by unfold crossP cross; grind

theorem top_of (f : Nat → Pt) : ∀ k, 0 < k → ∃ j, j < k ∧ ∀ i, i < k → leP (f i) (f j)
  | 0, h => by omega
  | 1, _ => ⟨0, by omega, fun i hi => by
    have : i = 0 := by omega
    rw [this]; exact leP_refl _⟩
  | k + 2, _ => by
    obtain ⟨j, hj, h⟩ := top_of f (k + 1) (by omega)
    rcases leP_total (f j) (f (k + 1)) with g | g
    · refine ⟨k + 1, by omega, fun i hi => ?_⟩
      rcases Nat.lt_or_ge i (k + 1) with q | q
      · exact leP_trans (h i q) g
      · have : i = k + 1 := by omega
        rw [this]; exact leP_refl _
    · refine ⟨j, by omega, fun i hi => ?_⟩
      rcases Nat.lt_or_ge i (k + 1) with q | q
      · exact h i q
      · have : i = k + 1 := by omega
        rw [this]; exact .inr g

theorem no_top {a1 a2 b1 b2 q1 q2 : Int} (ha : 0 ≤ a2) (hb : b2 ≤ 0) (hq : 0 ≤ q2) (h1 : 0 < a1 * q2 - q1 * a2) (h2 : 0 < b1 * q2 - q1 * b2) (h3 : 0 < a1 * b2 - b1 * a2) : False := by
  have id : q2 * (a1 * b2 - b1 * a2) = -((b1 * q2 - q1 * b2) * a2) + (a1 * q2 - q1 * a2) * b2 := by grind
  have n1 : 0 ≤ q2 * (a1 * b2 - b1 * a2) := Int.mul_nonneg hq (by omega)
  have n2 : 0 ≤ (b1 * q2 - q1 * b2) * a2 := Int.mul_nonneg (by omega) ha
  have n3 : 0 ≤ (a1 * q2 - q1 * a2) * -b2 := Int.mul_nonneg (by omega) (by omega)
  rw [Int.mul_neg] at n3
  have z2 : (b1 * q2 - q1 * b2) * a2 = 0 := by omega
  have z3 : (a1 * q2 - q1 * a2) * b2 = 0 := by omega
  have e2 := (Int.mul_eq_zero.1 z2).resolve_left (by omega)
  have e3 := (Int.mul_eq_zero.1 z3).resolve_left (by omega)
  rw [e2, e3, Int.mul_zero, Int.mul_zero] at h3
  omega

theorem two_up {a b c d : Pt} {y : Int} (h1 : a.2 ≤ y) (h2 : y < b.2) (h3 : c.2 ≤ y) (h4 : y < d.2) (k1 : 0 ≤ crossP a b c) (k2 : 0 ≤ crossP a b d) (k3 : 0 ≤ crossP c d a) (k4 : 0 ≤ crossP c d b) : crossP a b c = 0 := by
  have n1 : 0 ≤ (d.2 - y) * crossP a b c := Int.mul_nonneg (by omega) k1
  have n2 : 0 ≤ (y - c.2) * crossP a b d := Int.mul_nonneg (by omega) k2
  have n3 : 0 ≤ (b.2 - y) * crossP c d a := Int.mul_nonneg (by omega) k3
  have n4 : 0 ≤ (y - a.2) * crossP c d b := Int.mul_nonneg (by omega) k4
  have id : (d.2 - y) * crossP a b c + (y - c.2) * crossP a b d + ((b.2 - y) * crossP c d a + (y - a.2) * crossP c d b) = 0 := by unfold crossP cross; grind
  have z : (d.2 - y) * crossP a b c = 0 := by omega
  exact (Int.mul_eq_zero.1 z).resolve_left (by omega)

theorem side_one {l : List Pt} {p : Pt} {m : Nat} (h : ∀ i, i < l.length → left2At l p i = decide (i = m)) : ∀ k, k ≤ l.length → sideTo l p k = if m < k then 1 else -1
  | 0, _ => by rw [if_neg (by omega)]; rfl
  | k + 1, hk => by
    have ih := side_one h k (by omega)
    unfold sideTo
    rw [h k (by omega)]
    by_cases e : k = m
    · rw [decide_eq_true e, if_pos rfl, ih, if_neg (by omega), if_pos (by omega)]; rfl
    · rw [decide_eq_false e, if_neg (by simp), ih]
      by_cases g : m < k
      · rw [if_pos g, if_pos (by omega)]
      · rw [if_neg g, if_neg (by omega)]

/-- EVERY POINT LIES IN THE HULL OR ON ITS EDGES. -/
theorem hull_where {P H : List Pt} {s0 p : Pt} (h : Hull P H s0) (hlow : ∀ p ∈ P, leP s0 p) (hp : p ∈ P) : whereD H p = 0 ∨ whereD H p = 1 := by
  have two := h.two
  by_cases ho : ∃ i, i < H.length ∧ on2At H p i = true
  · obtain ⟨i, hi, e⟩ := ho
    exact .inl (whereD_on hi e)
  · have off : ∀ j, j < H.length → on2At H p j = false := fun j hj => by
      cases e : on2At H p j
      · rfl
      · exact absurd ⟨j, hj, e⟩ ho
    have pos : ∀ i, i < H.length → 0 < crossP (gt H i) (nx H i) p := fun i hi => by
      rcases (h.edge i hi).ok p hp with q | q
      · exact q
      · have := off i hi
        unfold on2At at this
        rw [this] at q; cases q
    have posV : ∀ x, 0 < crossP (vtx H x) (vtx H (x + 1)) p := fun x => by
      have := pos (x % H.length) (Nat.mod_lt _ (by omega))
      have m : nx H (x % H.length) = vtx H (x + 1) := by
        show gt H ((x % H.length + 1) % H.length) = _
        rw [Nat.mod_add_mod]; rfl
      rw [m] at this; exact this
    right
    rw [whereD_off off]
    have up : ∀ i, i < H.length → (left2At H p i = true ↔ (gt H i).2 ≤ p.2 ∧ p.2 < (nx H i).2) := fun i hi => by
      have := pos i hi
      unfold left2At leftB
      rw [show cross (gt H i).1 (gt H i).2 (nx H i).1 (nx H i).2 p.1 p.2 = crossP (gt H i) (nx H i) p from rfl, decide_eq_true this]
      by_cases g1 : p.2 < (gt H i).2 <;> by_cases g2 : p.2 < (nx H i).2 <;> by_cases g3 : (gt H i).2 < (nx H i).2 <;> simp [g1, g2, g3] <;> omega
    have one : ∀ i j, i < H.length → j < H.length → left2At H p i = true → left2At H p j = true → i = j := fun i j hi hj ei ej => by
      obtain ⟨a1, a2⟩ := (up i hi).1 ei
      obtain ⟨b1, b2⟩ := (up j hj).1 ej
      have Ei := h.edge i hi
      have Ej := h.edge j hj
      have z := two_up a1 a2 b1 b2 (Ei.ok _ Ej.fst).nonneg (Ei.ok _ Ej.snd).nonneg (Ej.ok _ Ei.fst).nonneg (Ej.ok _ Ei.snd).nonneg
      have on : onP (gt H i) (nx H i) (gt H j) = true := (Ei.ok _ Ej.fst).resolve_left (by omega)
      rcases hedge_between Ei Ej on with q | q
      · exact (hull_inj h hj hi q).symm
      · rw [q] at b1; omega
    have some_up : ∃ m, m < H.length ∧ left2At H p m = true := by
      obtain ⟨k, hk, htop⟩ := top_of (vtx H) H.length (by omega)
      have topV : ∀ x, leP (vtx H x) (vtx H k) := fun x => by
        have := htop (x % H.length) (Nat.mod_lt _ (by omega))
        have e : vtx H (x % H.length) = vtx H x := by unfold vtx; rw [Nat.mod_mod]
        rw [e] at this; exact this
      have hhi : p.2 < (vtx H k).2 := by
        apply Classical.byContradiction
        intro hno
        have c1 := posV (k + H.length - 1)
        have c2 := posV k
        have e1 : vtx H (k + H.length - 1 + 1) = vtx H k := by rw [show k + H.length - 1 + 1 = k + H.length by omega]; exact vtx_add H k
        rw [e1] at c1
        have t1 := topV (k + H.length - 1)
        have t2 := topV (k + 1)
        have E1 := h.edgeV (k + H.length - 1)
        rw [e1] at E1
        have E2 := h.edgeV k
        have c3 : 0 < crossP (vtx H (k + H.length - 1)) (vtx H k) (vtx H (k + 1)) := by
          rcases E1.ok _ E2.snd with q | q
          · exact q
          · exfalso
            rcases E1.ok p hp with r | r
            · have hq := onP_cross q
              -- the next corner lies on the edge before: it is its first point
              rcases hedge_between E1 (h.edgeV (k + 1)) q with g | g
              · rw [g] at c2
                have := crossP_rot (vtx H (k + H.length - 1)) (vtx H k) p
                omega
              · exact E2.ne g.symm
            · have := onP_cross r
              omega
        have f1 : (vtx H (k + H.length - 1)).2 ≤ (vtx H k).2 := by
          rcases t1 with e | e
          · rw [e]; exact Int.le_refl _
          · unfold ltP at e; omega
        have f2 : (vtx H (k + 1)).2 ≤ (vtx H k).2 := by
          rcases t2 with e | e
          · rw [e]; exact Int.le_refl _
          · unfold ltP at e; omega
        rw [crossP_xr2] at c1 c3
        rw [crossP_xr] at c2
        unfold xr subP at c1 c2 c3
        simp only at c1 c2 c3
        exact no_top (a2 := (vtx H k).2 - (vtx H (k + H.length - 1)).2) (b2 := (vtx H (k + 1)).2 - (vtx H k).2) (q2 := p.2 - (vtx H k).2) (by omega) (by omega) (by omega) c1 c2 c3
      have h0 : (vtx H 0).2 ≤ p.2 := by
        rw [h.vtx0]
        rcases hlow p hp with e | e
        · rw [e]; exact Int.le_refl _
        · unfold ltP at e; omega
      have climb : ∀ x, p.2 < (vtx H x).2 → ∃ m, m < x ∧ (vtx H m).2 ≤ p.2 ∧ p.2 < (vtx H (m + 1)).2 := by
        intro x
        induction x with
        | zero => intro hx; omega
        | succ x ih =>
          intro hx
          rcases Int.lt_or_le p.2 (vtx H x).2 with g | g
          · obtain ⟨m, m1, m2⟩ := ih g
            exact ⟨m, by omega, m2⟩
          · exact ⟨x, by omega, g, hx⟩
      obtain ⟨m, m1, m2, m3⟩ := climb k hhi
      have hm : m < H.length := by omega
      exact ⟨m, hm, (up m hm).2 ⟨by rw [← vtx_lt hm]; exact m2, m3⟩⟩
    obtain ⟨m, hm, em⟩ := some_up
    have all : ∀ i, i < H.length → left2At H p i = decide (i = m) := fun i hi => by
      by_cases e : i = m
      · rw [e, em, decide_eq_true rfl]
      · rw [decide_eq_false e]
        cases q : left2At H p i
        · rfl
        · exact absurd (one i m hi hm q em) e
    rw [side_one all H.length (Nat.le_refl _), if_pos hm]

end Go.Proofs.Ythbekbfhpedghaa

/- slices.Clone of points. -/
namespace Go.Proofs.Ythbekbfhpedghaa
open Go.RowKit Go.Sort
attribute [local go_sem ↓] run_min_mn run_max_mx

theorem clone_any (b off n c : Nat) (l : List Pt) (w : World) (hn : l.length = n) (hbig : n ≤ 100) (hin : PtsIn w b off l) (hb : b < w.heap.size) :
    Calls Try.prog 63 #[.slice (some ⟨b, off, none⟩) n c] w (RefMovedTo l w) := by
  have hnil := fun W => Lib.run_eql_slice_nil (P := Try.prog) W 24 37 (some ⟨b, off, none⟩) n c 0 0 Try.underlying24
  have hx : PtsAt (w.alloc (.cells #[] 37)) (some ⟨b, off, none⟩) l := fun _ => ⟨b, off, rfl, by simp; omega, hin.below ((Below.refl _ _).alloc (Nat.le_refl _) _) hb⟩
  have HX := Lib.hid hx
  have HN := Lib.hid hn
  clear hn hx hin
  go_enter Try.func63, Try.ntmps63
  go_wp2_with (at_builtin; refine wpList_papp rfl (.tmp 5) (.tmp 6) rfl w.heap.size (.slice (some ⟨w.heap.size, 0, none⟩) 0 0) [] l _ n c rfl rfl (PtsOwn.empty w) HN.out HX.out (by rw [HN.out]; simp; omega) (by simp) ?_; intro v1 w1 ho hg hat; have HO := Lib.hid ho; have HG := Lib.hid hg; clear ho hg hat)
  go_ret
  exact ⟨_, rfl, by simpa using HO.out, ((Below.refl _ _).alloc (Nat.le_refl _) _).grown HG.out (by simp) (by simp [Value.ownBlock])⟩
end Go.Proofs.Ythbekbfhpedghaa

/- slices.SortFunc by package shape's compare, and slices.Reverse, on a row of the call's own. -/
namespace Go.Proofs.Ythbekbfhpedghaa
open Go.RowKit Go.Sort
attribute [local go_sem ↓] run_min_mn run_max_mx

set_option maxRecDepth 100000 in
set_option maxHeartbeats 1000000 in
theorem compare_lays (ax ay bx by' : Int) (w : World) :
    Calls Try.prog 49 #[.agg #[.int .i64 ax, .int .i64 ay], .agg #[.int .i64 bx, .int .i64 by']] w fun e w' =>
      e = .returned (.int .i64 (cmpP ax ay bx by')) ∧ ∃ q os', w' = grow (w.drewN q) os' := by
  have C1 := fun W => Lib.hid ((cmpI_any ay by' W).mono fun _ _ h => And.intro h.1 h.2.symm)
  have C2 := fun W => Lib.hid ((cmpI_any ax bx W).mono fun _ _ h => And.intro h.1 h.2.symm)
  have H : Hid (cmpP ax ay bx by' = orI (cmpI ay by') (cmpI ax bx)) := Lib.hid rfl
  generalize cmpI ay by' = u at *
  generalize cmpI ax bx = v at *
  generalize cmpP ax ay bx by' = r at *
  go_enter Try.func49, Try.ntmps49
  go_wp2_with fail
  have B := boxed2 w ax ay bx by'
  have HW : Hid (((w.alloc (Go.Proofs.Ythbekbfhpedghaa.bx ax ay)).alloc (Go.Proofs.Ythbekbfhpedghaa.bx bx by')) = grow w #[Go.Proofs.Ythbekbfhpedghaa.bx ax ay, Go.Proofs.Ythbekbfhpedghaa.bx bx by']) := Lib.hid (by
    rw [alloc_eq_grow, alloc_eq_grow, grow_grow]; rfl)
  generalize ((w.alloc (Go.Proofs.Ythbekbfhpedghaa.bx ax ay)).alloc (Go.Proofs.Ythbekbfhpedghaa.bx bx by')) = W0 at *
  obtain ⟨⟨a1, a2⟩, ⟨b1, b2⟩, hb, hz⟩ := B
  clear hb hz
  refine wp_region_still_tail 10 (by kernel_rfl) (by kernel_rfl) ?_
  simp only [List.take_succ_cons, List.take_zero, List.drop_succ_cons, List.drop_zero]
  change wpStill _ _ W0.drew _ _ _
  replace a1 : W0.drew.cell? _ = _ := a1
  replace a2 : W0.drew.cell? _ = _ := a2
  replace b1 : W0.drew.cell? _ = _ := b1
  replace b2 : W0.drew.cell? _ = _ := b2
  iterate 4 still_step
  still_call (C1 _).out
  iterate 4 still_step
  still_call (C2 _).out
  refine wpStill_nil ?_
  change wpList _ _ _ _ _ W0.drew
  go_wp2_with fail
  refine (or_any _ u v _ (by go_simp) (by go_simp)).mono ?_
  rintro e w' ⟨rfl, rfl⟩
  go_wp2
  go_ret
  refine ⟨ret_int H.out.symm, 1, #[Go.Proofs.Ythbekbfhpedghaa.bx ax ay, Go.Proofs.Ythbekbfhpedghaa.bx bx by'] ++ #[Obj.cells #[Value.int IntKind.i64 u, Value.int IntKind.i64 v] 3], ?_⟩
  rw [HW.out, alloc_eq_grow, grow_grow, drew_grow]
  rfl

/-- A point's two cells. -/
def encP (x : Pt) : List Value := [.int .i64 x.1, .int .i64 x.2]
theorem ptsV_enc : ∀ l : List Pt, ptsV l = l.flatMap encP
  | [] => rfl
  | p :: l => by simp only [ptsV, List.flatMap_cons, encP, ptsV_enc l]; rfl
theorem ptsV_at' {l : List Pt} {t : Nat} (h : t < l.length * 2) : (ptsV l)[t]? = some ((encP (gt l (t / 2)))[t % 2]!) := by
  have hi : t / 2 < l.length := by omega
  have hg : l[t / 2]? = some (gt l (t / 2)) := by
    unfold gt; rw [List.getD_eq_getElem?_getD, List.getElem?_eq_getElem hi]; rfl
  obtain ⟨h1, h2⟩ := ptsV_get l (t / 2) _ hg
  rcases Nat.mod_two_eq_zero_or_one t with e | e
  · rw [e, show t = t / 2 * 2 by omega, h1, show t / 2 * 2 / 2 = t / 2 by omega]; rfl
  · rw [e]
    have : t = t / 2 * 2 + 1 := by omega
    rw [this, h2, show (t / 2 * 2 + 1) / 2 = t / 2 by omega]; rfl
theorem gt_arr (l : List Pt) (i : Nat) : (l.toArray)[i]! = gt l i := by
  unfold gt
  rw [List.getD_eq_getElem?_getD]
  simp only [List.getElem!_toArray]
  rw [List.getElem!_eq_getElem?_getD]
  rfl

theorem holds_own {w : World} {base g n c : Nat} {l : List Pt} (h : PtsOwn w base (.slice (some ⟨g, 0, none⟩) n c) l) (hn : l.length = n) : HoldsK encP 2 w g 0 l.toArray := by
  unfold PtsOwn World.ownsRow at h
  obtain ⟨h1, h2⟩ := h
  rcases h2 with ⟨e, _⟩ | ⟨g', cap, cur, e, hb, hg, hnc, hh, hsz, ht⟩
  · cases e
  · simp only [Value.slice.injEq, Option.some.injEq, Addr.mk.injEq] at e
    obtain ⟨⟨rfl, -, -⟩, -, -⟩ := e
    intro j hj
    rw [size_flatK] at hj
    have hj2 : j < l.length * 2 := by simpa using hj
    rw [get_flatK _ _ _ _ hj, gt_arr]
    refine ⟨?_, ?_⟩
    · rw [cell_of_row w g _ cur _ (0, 0) hg, Nat.zero_add]
      have := ptsV_at' hj2
      rw [← ht, List.getElem?_take, if_pos hj2] at this
      simpa using this
    · simp [World.frozen?, hg]

/-- The row after a sort, or whatever else lays it anew. -/
theorem own_laid {w : World} {base g n c m : Nat} {l l' : List Pt} {os : Array Obj} (h : PtsOwn w base (.slice (some ⟨g, 0, none⟩) n c) l) (hn : l.length = n) (hn' : l'.length = n) :
    PtsOwn (sortWorldK encP 2 w g 0 m l'.toArray os) base (.slice (some ⟨g, 0, none⟩) n c) l' ∧ w.grownBy (sortWorldK encP 2 w g 0 m l'.toArray os) (some g) := by
  unfold PtsOwn World.ownsRow at *
  obtain ⟨h1, h2⟩ := h
  rcases h2 with ⟨e, _⟩ | ⟨g', cap, cur, e, hb, hg, hnc, hh, hsz, ht⟩
  · cases e
  · simp only [Value.slice.injEq, Option.some.injEq, Addr.mk.injEq] at e
    obtain ⟨⟨rfl, -, -⟩, -, rfl⟩ := e
    have hgl : g < w.heap.size := (Array.getElem?_eq_some_iff.1 hg).1
    rw [hn] at ht hnc
    have hrow : (sortWorldK encP 2 w g 0 m l'.toArray os).heap[g]? = some (.cells (putCells id 0 (flatK encP 2 l'.toArray) cur) 37 (0, 0)) := by
      unfold sortWorldK grow putRowK putRow mapBlock Go.Sort.ahead
      simp only
      rw [Array.getElem?_append_left (by simpa using hgl), Array.getElem?_modify, if_pos rfl, hg]
      rfl
    refine ⟨⟨by rw [ptsV_length], .inr ⟨g, c, _, by rw [hn'], hb, hrow, by rw [hn']; exact hnc, hh, by simp [putCells, hsz], ?_⟩⟩, ?_⟩
    · apply List.ext_getElem?
      intro t
      rw [List.getElem?_take]
      by_cases q : t < l'.length * 2
      · rw [if_pos q, ptsV_at' q]
        have hc : t < cur.size := by rw [hsz]; have : l'.length * 2 ≤ c * 2 := by omega
                                     omega
        simp only [putCells, Array.getElem?_toList, Array.getElem?_mapIdx, Array.getElem?_eq_getElem hc, Option.map_some]
        rw [if_pos ⟨Nat.zero_le _, by simpa using q⟩, Nat.sub_zero, get_flatK _ _ _ _ (by simpa using q), gt_arr]
        rfl
      · rw [if_neg q, List.getElem?_eq_none (by rw [ptsV_length]; omega)]
    · refine ⟨rfl, rfl, rfl, by simp [sortWorldK, putRowK], fun k hk hne => ?_⟩
      have hkg : ¬ g = k := fun e => hne (by rw [e])
      unfold sortWorldK grow putRowK putRow mapBlock Go.Sort.ahead
      simp only
      rw [Array.getElem?_append_left (by simp; omega), Array.getElem?_modify, if_neg hkg]

theorem PtsOwn.other {w w' : World} {base g : Nat} {v : Value} {l : List Pt} (h : PtsOwn w base v l) (hg : w.grownBy w' (some g)) (hne : v.ownBlock ≠ some g) : PtsOwn w' base v l := by
  unfold PtsOwn World.ownsRow at *
  obtain ⟨h1, h2⟩ := h
  refine ⟨h1, ?_⟩
  rcases h2 with h2 | ⟨k, cap, cur, e, hb1, hk, hr⟩
  · exact .inl h2
  · refine .inr ⟨k, cap, cur, e, hb1, (hg.block k (Array.getElem?_eq_some_iff.1 hk).1 (fun q => hne ?_)).trans hk, hr⟩
    rw [e]; exact q
theorem PtsOwn.row {w : World} {base : Nat} {v : Value} {l : List Pt} {n : Nat} (h : PtsOwn w base v l) (hn : l.length = n) (h0 : 0 < n) :
    ∃ g c, v = .slice (some ⟨g, 0, none⟩) n c ∧ n ≤ c ∧ base ≤ g ∧ g < w.heap.size ∧ PtsIn w g 0 l := by
  obtain ⟨A, c, e, h1, hat, hbase⟩ := h.slice
  obtain ⟨g, og, rfl, hg, hin⟩ := hat (by intro e; subst e; simp at hn; omega)
  have hog : og = 0 := by
    subst e
    rcases h.2 with ⟨e, _⟩ | ⟨g', cap, cur, e, _⟩
    · cases e
    · simp only [Value.slice.injEq, Option.some.injEq, Addr.mk.injEq] at e; exact e.1.2.1
  subst hog
  rw [hn] at e h1
  exact ⟨g, c, e, h1, hbase _ rfl, hg, hin⟩

/-- Sorted points. -/
theorem sorted_of {l' : List Pt} (h : SortedIn (fun x y => decide (cmpQ x y < 0)) 0 l'.toArray.size l'.toArray) : l'.Pairwise leP := by
  rw [List.pairwise_iff_getElem]
  intro i j hi hj hij
  have := h i j (Nat.zero_le _) hij (by simpa using hj)
  simp only [gt_arr] at this
  have e1 : gt l' i = l'[i] := by unfold gt; rw [List.getD_eq_getElem?_getD, List.getElem?_eq_getElem hi]; rfl
  have e2 : gt l' j = l'[j] := by unfold gt; rw [List.getD_eq_getElem?_getD, List.getElem?_eq_getElem hj]; rfl
  rw [e1, e2, cmpQ_first] at this
  rcases leP_total l'[i] l'[j] with g | g
  · exact g
  · exfalso
    have : firstP l'[j] l'[i] = true := by
      unfold firstP firstB
      unfold ltP at g
      simp only [Bool.or_eq_true, Bool.and_eq_true, decide_eq_true_eq, beq_iff_eq]
      omega
    simp_all

end Go.Proofs.Ythbekbfhpedghaa

/- Package shape's hull. -/
namespace Go.Proofs.Ythbekbfhpedghaa
open Go.RowKit Go.Sort
attribute [local go_sem ↓] run_min_mn run_max_mx Go.wp_at_zero Go.wp_at_succ

/-- What slices.SortFunc does by package shape's compare. -/
def SortsPts : Prop := ∀ (blk off cap : Nat) (d : Array Pt) (w : World), HoldsK encP 2 w blk off d → blk < w.heap.size → d.size < 4611686018427387904 →
  Calls Try.prog 64 #[.slice (some ⟨blk, off, none⟩) d.size cap, .func (.func 49) #[] #[]] w fun e w' =>
    e = .returned (.tuple #[]) ∧ ∃ d' n os, PermIn 0 d.size d d' ∧ SortedIn (fun x y => decide (cmpQ x y < 0)) 0 d.size d' ∧ w' = sortWorldK encP 2 w blk off n d' os
/-- What slices.Reverse does. -/
def ReversesPts : Prop := ∀ (blk off cap : Nat) (d : Array Pt) (w : World), HoldsK encP 2 w blk off d → d.size < 4611686018427387904 → 0 < d.size →
  Calls Try.prog 66 #[.slice (some ⟨blk, off, none⟩) d.size cap] w fun e w' =>
    e = .returned (.tuple #[]) ∧ ∃ n, w' = putRowK encP 2 (Go.Sort.ahead w n) blk off d.reverse

def SortedTo (g n c : Nat) (l : List Pt) (base : Nat) (w : World) (e : Ending) (w' : World) : Prop :=
  e = .returned (.tuple #[]) ∧ ∃ l', l'.Perm l ∧ l'.Pairwise leP ∧ PtsOwn w' base (.slice (some ⟨g, 0, none⟩) n c) l' ∧ w.grownBy w' (some g)

theorem sort_own (hS : SortsPts) {w : World} {base g n c : Nat} {l : List Pt} (h : PtsOwn w base (.slice (some ⟨g, 0, none⟩) n c) l) (hn : l.length = n) (hb : n ≤ 1000) (hg : g < w.heap.size) :
    Calls Try.prog 64 #[.slice (some ⟨g, 0, none⟩) n c, .func (.func 49) #[] #[]] w (SortedTo g n c l base w) := by
  have k := hS g 0 c l.toArray w (holds_own h hn) hg (by simp; omega)
  simp only [List.size_toArray, hn] at k
  refine k.mono ?_
  rintro e w' ⟨rfl, d', m, os, hp, hs, rfl⟩
  obtain ⟨d', rfl⟩ : ∃ l' : List Pt, d' = l'.toArray := ⟨d'.toList, by simp⟩
  have hsz : d'.length = n := by have := hp.1; simpa [hn] using this
  have hperm : d'.Perm l := by
    have := hp.2.2
    simpa [← hn, List.take_of_length_le (show d'.length ≤ l.length by omega)] using this
  obtain ⟨o1, o2⟩ := own_laid (m := m) (os := os) h hn hsz
  refine ⟨rfl, d', hperm, sorted_of (by simpa [hsz] using hs), o1, o2⟩

theorem reverse_own (hR : ReversesPts) {w : World} {base g n c : Nat} {l : List Pt} (h : PtsOwn w base (.slice (some ⟨g, 0, none⟩) n c) l) (hn : l.length = n) (hb : n ≤ 1000) (h0 : 0 < n) :
    Calls Try.prog 66 #[.slice (some ⟨g, 0, none⟩) n c] w fun e w' => e = .returned (.tuple #[]) ∧ PtsOwn w' base (.slice (some ⟨g, 0, none⟩) n c) l.reverse ∧ w.grownBy w' (some g) := by
  have k := hR g 0 c l.toArray w (holds_own h hn) (by simp; omega) (by simp; omega)
  simp only [List.size_toArray, hn] at k
  refine k.mono ?_
  rintro e w' ⟨rfl, m, rfl⟩
  have o := own_laid (m := m) (os := #[]) (l' := l.reverse) h hn (by simpa using hn)
  rw [show l.toArray.reverse = l.reverse.toArray by simp]
  unfold sortWorldK at o
  rw [grow_empty] at o
  exact ⟨rfl, o.1, o.2⟩

/-- What hull leaves: the chains of the points in their order. -/
def HullTo (l : List Pt) (w : World) (e : Ending) (w' : World) : Prop :=
  ∃ s v, s.Perm l ∧ s.Pairwise leP ∧ e = .returned v ∧ PtsOwn w' w.heap.size v (hullL s) ∧ Below w.heap.size w w'

theorem chain_len {l : List Pt} (h : l ≠ []) : 1 ≤ (chainW l).length := by
  have key : ∀ (l st : List Pt), l ≠ [] ∨ st ≠ [] → l.foldl pushW st ≠ [] := by
    intro l
    induction l with
    | nil => intro st h; rcases h with h | h; exact absurd rfl h; exact h
    | cons x l ih => intro st _; exact ih (pushW st x) (.inr (by simp [pushW]))
  have := key l [] (.inl h)
  unfold chainW
  exact List.length_pos_iff.2 this

set_option maxRecDepth 100000 in
set_option maxHeartbeats 4000000 in
theorem hull_any (hS : SortsPts) (hR : ReversesPts) (b off n c : Nat) (l : List Pt) (w : World) (hl : l.length = n) (hn : 0 < n) (hn' : n ≤ 100) (h : PtsIn w b off l) (hb : b < w.heap.size) (hbd : ∀ x ∈ l, Bd x) :
    Calls Try.prog 45 #[.slice (some ⟨b, off, none⟩) n c] w (HullTo l w) := by
  have K1 := Lib.hid (clone_any b off n c l w hl hn' h hb)
  have HBD := Lib.hid hbd
  have HL := Lib.hid hl
  clear h hbd
  go_enter Try.func45, Try.ntmps45
  go_wp2_with fail
  refine (K1.out).mono ?_
  rintro e w1 ⟨v, rfl, ho, hb1⟩
  obtain ⟨g, c1, rfl, hc1, hgb, hg, -⟩ := ho.row hl hn
  have K2 := Lib.hid (sort_own hS ho hl (by omega) hg)
  have HB1 := Lib.hid hb1
  clear K1 ho hb1
  go_wp2_with fail
  refine (K2.out).mono ?_
  rintro e w2 ⟨rfl, s, hperm, hsort, ho2, hg2⟩
  have hsl : s.length = n := by rw [hperm.length_eq]; exact hl
  have HB2 := Lib.hid (HB1.out.grown hg2 HB1.out.size (fun k hk => by obtain rfl := Option.some.inj hk; exact hgb))
  have hgl2 : g < w2.heap.size := Nat.lt_of_lt_of_le hg hg2.size
  obtain ⟨g', c', e', _, _, _, hin2⟩ := ho2.row hsl hn
  simp only [Value.slice.injEq, Option.some.injEq, Addr.mk.injEq] at e'
  obtain ⟨⟨rfl, -, -⟩, -, -⟩ := e'
  have hsbd : ∀ x ∈ s, Bd x := fun x hx => HBD.out x (hperm.mem_iff.1 hx)
  have K3 := Lib.hid (chain_any g 0 n c1 s w2 hsl hn' hin2 hgl2 hsbd)
  have HO2 := Lib.hid ho2
  have HPERM := Lib.hid hperm
  have HSORT := Lib.hid hsort
  have HSB := Lib.hid hsbd
  have hsz2 := HB2.out.size
  clear K2 ho2 hg2 hin2 hperm hsort hsbd
  go_wp2_with fail
  refine (K3.out).mono ?_
  rintro e w3 ⟨v3, rfl, ho3, hb3⟩
  have hl3 := chain_len (l := s) (by intro e; subst e; simp at hsl; omega)
  obtain ⟨u, hu⟩ : ∃ u, (chainW s).length = u + 1 := ⟨(chainW s).length - 1, by omega⟩
  obtain ⟨g3, c3, rfl, hc3, hb3g, hg3, -⟩ := ho3.row (n := u + 1) (by rw [List.length_reverse]; exact hu) (by omega)
  have HO3 := Lib.hid (HO2.out.belows hb3 (Nat.le_refl _))
  have K4 := Lib.hid (reverse_own hR HO3.out hsl (by omega) hn)
  have HU3 := Lib.hid ho3
  have HB3 := Lib.hid (HB2.out.trans (hb3.mono hsz2))
  clear K3 ho3 hb3 hl3 HO2
  go_wp2_with fail
  refine (K4.out).mono ?_
  rintro e w4 ⟨rfl, ho4, hg4⟩
  have HU4 := Lib.hid (HU3.out.other hg4 (by simp [Value.ownBlock]; omega))
  have HB4 := Lib.hid (HB3.out.grown hg4 HB3.out.size (fun k hk => by obtain rfl := Option.some.inj hk; exact hgb))
  have hrl : s.reverse.length = n := by rw [List.length_reverse]; exact hsl
  obtain ⟨g', c', e', _, _, hgl4, hin4⟩ := ho4.row hrl hn
  simp only [Value.slice.injEq, Option.some.injEq, Addr.mk.injEq] at e'
  obtain ⟨⟨rfl, -, -⟩, -, -⟩ := e'
  have K5 := Lib.hid (chain_any g 0 n c1 s.reverse w4 hrl hn' hin4 hgl4 (fun x hx => HSB.out x (List.mem_reverse.1 hx)))
  have hg34 : g3 < w4.heap.size := Nat.lt_of_lt_of_le hg3 hg4.size
  have hsz4 := HB4.out.size
  clear K4 ho4 hg4 hin4 HU3
  go_wp2_with fail
  refine (K5.out).mono ?_
  rintro e w5 ⟨v5, rfl, ho5, hb5⟩
  have hl5 := chain_len (l := s.reverse) (by intro e; have := congrArg List.length e; simp at this; rw [this] at hsl; simp at hsl; omega)
  obtain ⟨d, hd⟩ : ∃ d, (chainW s.reverse).length = d + 1 := ⟨(chainW s.reverse).length - 1, by omega⟩
  have hu8 : u + 1 ≤ n := by
    have := chainW_len s []
    unfold chainW at hu; simp only [List.length_nil] at this; omega
  have hd8 : d + 1 ≤ n := by
    have := chainW_len s.reverse []
    unfold chainW at hd; simp only [List.length_nil, List.length_reverse] at this; omega
  obtain ⟨g5, c5, rfl, hc5, hb5g, hg5, hin5⟩ := ho5.row (n := d + 1) (by rw [List.length_reverse]; exact hd) (by omega)
  have HU5 : Hid (PtsOwn w5 w2.heap.size (.slice (some ⟨g3, 0, none⟩) u c3) ((chainW s).reverse.dropLast)) := Lib.hid (by
    have h := (HU4.out.belows hb5 (Nat.le_refl _)).shrink (n := u + 1) (k := u) (by rw [List.length_reverse]; exact hu) (by omega)
    rw [List.dropLast_eq_take, List.length_reverse, hu, Nat.add_sub_cancel]
    exact h)
  have HD5 : Hid (PtsAt w5 (some ⟨g5, 0, none⟩) ((chainW s.reverse).reverse.dropLast)) := Lib.hid fun _ => ⟨g5, 0, rfl, hg5, fun i p hp => hin5 i p (by
    rw [List.getElem?_dropLast] at hp
    split at hp
    · exact hp
    · cases hp)⟩
  have hlu : ((chainW s).reverse.dropLast).length = u := by rw [List.length_dropLast, List.length_reverse, hu]; omega
  have hld : ((chainW s.reverse).reverse.dropLast).length = d := by rw [List.length_dropLast, List.length_reverse, hd]; omega
  have HB5 := Lib.hid (HB4.out.trans (hb5.mono hsz4))
  have hlen : ((chainW s).reverse.dropLast).length + ((chainW s.reverse).reverse.dropLast).length ≤ 100000 := by rw [hlu, hld]; omega
  have hw25 : w2.heap.size ≤ w5.heap.size := by
    have h1 := hb5.size
    omega
  clear K5 ho5 hb5 hl5 hin5 HU4 HB4
  have i1 : (0 : Int) ≤ (u : Int) := Int.natCast_nonneg _
  have i2 : (u : Int) ≤ (c3 : Int) := by omega
  have i3 : (0 : Int) ≤ (d : Int) := Int.natCast_nonneg _
  have i4 : (d : Int) ≤ (c5 : Int) := by omega
  have j1 : IntKind.i64.wrap (((u + 1 : Nat) : Int) - 1) = (u : Int) := by rw [IntKind.wrap_i64]; omega
  have j2 : IntKind.i64.wrap ((u : Int) + 1 - 1) = (u : Int) := by rw [IntKind.wrap_i64]; omega
  have j3 : IntKind.i64.wrap (((d + 1 : Nat) : Int) - 1) = (d : Int) := by rw [IntKind.wrap_i64]; omega
  have j4 : IntKind.i64.wrap ((d : Int) + 1 - 1) = (d : Int) := by rw [IntKind.wrap_i64]; omega
  have j5 : IntKind.i64.wrap (u : Int) = (u : Int) := by rw [IntKind.wrap_i64]; omega
  have j6 : IntKind.i64.wrap (d : Int) = (d : Int) := by rw [IntKind.wrap_i64]; omega
  have i5 : u ≤ c3 := by omega
  have i6 : d ≤ c5 := by omega
  go_wp2_with fail
  go_region_held3 (fun _ => True) (exact trivial)
    ((refine step_papp (by rfl) _ _ (by rfl) w2.heap.size (.slice (some ⟨g3, 0, none⟩) u c3) _ _ (some ⟨g5, 0, none⟩) d c5 (by rfl) (by rfl) HU5.out.drew hld HD5.out hlen (by simpa using hw25) ?_; intro v6 w6 ho6 hg6 hat))
  go_wp2_with fail
  go_ret
  exact ⟨s, v6, HPERM.out, HSORT.out, rfl, ho6.low hsz2, HB5.out.drew.grown hg6 (by simpa using HB5.out.size) (fun k hk => Nat.le_trans hsz2 (HU5.out.base k hk).1)⟩
end Go.Proofs.Ythbekbfhpedghaa
