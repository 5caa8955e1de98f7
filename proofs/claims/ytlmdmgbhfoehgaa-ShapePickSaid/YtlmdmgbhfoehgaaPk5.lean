/- Parts of the proof, one after the other: RefHull, HullTop, HullOne, Lives4, HulledLaw, SumMath, SumWalk, SumEnd, SumConv, SumSelf, SumTop. -/
import Derived.Test.YtlmdmgbhfoehgaaPk4
import Derived.Test.YtlmdmgbhfoehgaaPk3
import Derived.Test.YtlmdmgbhfoehgaaEngD
import Derived.Test.YtlmdmgbhfoehgaaChecked
import Derived.KernelRfl
/- The reference's Hull. -/
namespace Go.Proofs.Ytlmdmgbhfoehgaa
open Go.RowKit Go.Sort
attribute [local go_sem ↓] run_min_mn run_max_mx Go.wp_at_zero Go.wp_at_succ

def flat0 (l : List Pt) (i k : Nat) : Bool := crossP (gt l 0) (gt l i) (gt l k) == 0
def flatAt (l : List Pt) (i : Nat) : Bool := (List.range l.length).all (flat0 l i)
def flatTo (l : List Pt) (i : Nat) : Bool := (List.range i).all (flatAt l)
def lowTo (l : List Pt) : Nat → Pt
  | 0 => gt l 0
  | i + 1 => if firstP (gt l i) (lowTo l i) then gt l i else lowTo l i

/-- What the reference's Hull leaves: nothing where the points lie on one line, else the hull. -/
def RefHullTo (l H : List Pt) (w : World) (e : Ending) (w' : World) : Prop :=
  Below w.heap.size w w' ∧ ((flatTo l l.length = true ∧ e = .returned (.tuple #[.slice none 0 0, .bool false])) ∨
    (flatTo l l.length = false ∧ ∃ v, e = .returned (.tuple #[v, .bool true]) ∧ PtsOwn w' w.heap.size v H))

theorem PtBlk.one {w : World} {g : Nat} {x y : Int} (h : PtBlk w g [(x, y)]) : PtAt w g x y := by
  obtain ⟨h1, h2⟩ := h.cell (i := 0) (p := (x, y)) rfl
  exact ⟨by simpa using h1, by simpa using h2⟩
theorem PtBlk.put {w : World} {g : Nat} {p : Pt} (h : PtBlk w g [p]) (x y : Int) : PtBlk ((w.setCell ⟨g, 0, none⟩ (.int .i64 x)).setCell ⟨g, 1, none⟩ (.int .i64 y)) g [(x, y)] := by
  simpa using h.set 0 x y
theorem PtBlk.box (w : World) (x y : Int) : PtBlk (w.alloc (bx x y)) w.heap.size [(x, y)] := heap_alloc_new _ _

theorem PtsOwn.one (W : World) (x y : Int) {base : Nat} (hb : base ≤ W.heap.size) : PtsOwn (W.alloc (bx x y)) base (.slice (some ⟨W.heap.size, 0, none⟩) 1 1) [(x, y)] := by
  unfold PtsOwn World.ownsRow
  exact ⟨rfl, .inr ⟨W.heap.size, 1, _, rfl, hb, heap_alloc_new _ _, Nat.le_refl _, by simp [maxLen], rfl, rfl⟩⟩
theorem eqI_iff {a b c d : Int} : eqI a b c d = true ↔ (a, b) = (c, d) := by simp [eqI]

theorem wrap_mem (a : Pt) : ∀ (l : List Pt) (cur : Pt), l.foldl (wrapStep a) cur ∈ l ∨ l.foldl (wrapStep a) cur = cur
  | [], _ => .inr rfl
  | p :: l, cur => by
    rw [List.foldl_cons]
    rcases wrap_mem a l (wrapStep a cur p) with h | h
    · exact .inl (List.mem_cons_of_mem _ h)
    · rw [h]
      unfold wrapStep
      split
      · exact .inr rfl
      · split
        · exact .inl (by simp)
        · exact .inr rfl

theorem flatTo_succ (l : List Pt) (i : Nat) : flatTo l (i + 1) = (flatTo l i && flatAt l i) := by
  unfold flatTo; rw [List.range_succ, List.all_append]; simp
theorem range_all_succ (f : Nat → Bool) (k : Nat) : (List.range (k + 1)).all f = ((List.range k).all f && f k) := by
  rw [List.range_succ, List.all_append]; simp
theorem lowTo_mem {l : List Pt} (h : 0 < l.length) : ∀ i, i ≤ l.length → lowTo l i ∈ l
  | 0, _ => by
    show gt l 0 ∈ l
    unfold gt; rw [List.getD_eq_getElem?_getD, List.getElem?_eq_getElem h]; exact List.getElem_mem h
  | i + 1, hi => by
    unfold lowTo
    split
    · have : i < l.length := by omega
      unfold gt; rw [List.getD_eq_getElem?_getD, List.getElem?_eq_getElem this]; exact List.getElem_mem this
    · exact lowTo_mem h i (by omega)

set_option maxRecDepth 100000 in
set_option maxHeartbeats 8000000 in
theorem refHull_any (b off n c : Nat) (l H : List Pt) (w : World) (hl : l.length = n) (hn : 0 < n) (hn' : n ≤ 100) (h : PtsIn w b off l) (hb : b < w.heap.size) (hbd : ∀ x ∈ l, Bd x)
    (hH : flatTo l n = false → Hull l H (lowTo l n)) (hHn : H.length ≤ 1000) :
    Calls Try.prog 33 #[.slice (some ⟨b, off, none⟩) n c] w (RefHullTo l H w) := by
  have gmem : ∀ i, i < n → gt l i ∈ l := fun i hi => by
    unfold gt; rw [List.getD_eq_getElem?_getD, List.getElem?_eq_getElem (by omega)]; exact List.getElem_mem (by omega)
  have cells : ∀ W, Below w.heap.size w W → ∀ i, i < n → W.cell? ⟨b, off + i * 2, none⟩ = some (.int .i64 (gt l i).1) ∧ W.cell? ⟨b, off + i * 2 + 1, none⟩ = some (.int .i64 (gt l i).2) := fun W hW i hi =>
    (h.below hW hb) i (gt l i) (by unfold gt; rw [List.getD_eq_getElem?_getD, List.getElem?_eq_getElem (by omega)]; rfl)
  have HC := Lib.hid cells
  have HG := Lib.hid gmem
  have HL := Lib.hid hl
  have HBD := Lib.hid hbd
  have HLM : Hid (∀ i, i ≤ n → lowTo l i ∈ l) := Lib.hid fun i hi => lowTo_mem (by omega) i (by omega)
  have HHL := Lib.hid hH
  obtain ⟨z1, z2⟩ := cells w (Below.refl _ _) 0 hn
  simp only [Nat.zero_mul, Nat.add_zero] at z1 z2
  clear hl h hbd cells gmem hH
  go_enter Try.func33, Try.ntmps33
  generalize hz0 : gt l 0 = o at z1 z2
  obtain ⟨ox, oy⟩ := o
  go_upto_region 3 with (fail)
  have B0 : PtBlk (w.alloc (bx ox oy)) w.heap.size [(ox, oy)] := PtBlk.box _ _ _
  have hb0 : Below w.heap.size w (w.alloc (bx ox oy)) := (Below.refl _ _).alloc (Nat.le_refl _) _
  have hs0 : (w.alloc (bx ox oy)).heap.size = w.heap.size + 1 := by simp
  generalize w.alloc (bx ox oy) = w0 at *
  go_wp2_with fail
  have HZ : Hid (∀ W, Below w.heap.size w W → W.cell? ⟨b, off, none⟩ = some (.int .i64 ox) ∧ W.cell? ⟨b, off + 1, none⟩ = some (.int .i64 oy)) := Lib.hid fun W hW =>
    ⟨(hW.cell (p := ⟨b, off, none⟩) hb).trans z1, (hW.cell (p := ⟨b, off + 1, none⟩) hb).trans z2⟩
  have L0 : lowTo l 0 = (ox, oy) := hz0
  clear z1 z2
  go_loopw [4, 6] (fun s i wr => ∃ k : Nat, k ≤ n ∧ i = .int .i64 k ∧ s = .bool (flatTo l k) ∧ PtBlk wr w.heap.size [lowTo l k] ∧ Below w.heap.size w wr ∧ w.heap.size < wr.heap.size) (fun _ i _ => n - (intOf i).toNat)
  case atStart => exact ⟨0, Nat.zero_le _, rfl, rfl, by rw [L0]; exact B0, hb0, by omega⟩
  case round =>
    clear B0 hb0 hs0 L0
    obtain ⟨k, hk, rfl, rfl, hlow, hbw, hgr⟩ := hrel
    have HBW := Lib.hid hbw
    by_cases hlt : k < n
    · obtain ⟨h1, h2⟩ := HC.out wr hbw k hlt
      have hB : b < wr.heap.size := by omega
      have dk := HBD.out _ (HG.out k hlt)
      have dl := HBD.out _ (HLM.out k hk)
      have EL : Hid (lowTo l (k + 1) = if firstP (gt l k) (lowTo l k) then gt l k else lowTo l k) := Lib.hid rfl
      have EF : Hid (flatTo l (k + 1) = (flatTo l k && flatAt l k)) := Lib.hid (flatTo_succ l k)
      have EA : Hid (flatAt l k = (List.range n).all (flat0 l k)) := Lib.hid (by unfold flatAt; rw [HL.out])
      have EC : Hid (∀ q, flat0 l k q = (crossP (ox, oy) (gt l k) (gt l q) == 0)) := Lib.hid fun q => by unfold flat0; rw [hz0]
      have EC2 : Hid (∀ q, q < n → Bd (gt l q)) := Lib.hid fun q hq => HBD.out _ (HG.out q hq)
      have d0 : Bd (ox, oy) := hz0 ▸ HBD.out _ (HG.out 0 (by omega))
      generalize hpk : gt l k = p at *
      generalize hpl : lowTo l k = lo at *
      obtain ⟨x, y⟩ := p
      obtain ⟨lx, ly⟩ := lo
      have HLO := Lib.hid hlow
      obtain ⟨l1, l2⟩ := hlow.one
      have F := fun W => Lib.hid (first_any x y lx ly W)
      have EFB : Hid (firstP (x, y) (lx, ly) = firstB x y lx ly) := Lib.hid rfl
      have K1 := fun d os => Lib.hid (Calls.regrown_of ((F (grow (redrawn wr d) os)).out))
      have k1 := cell_regrown h1
      have k2 := cell_regrown h2
      have k3 := cell_regrown l1
      have k4 := cell_regrown l2
      clear h1 h2 l1 l2 F
      go_wp2_with fail
      refine wp_region_quiet_below (by kernel_rfl) (by kernel_rfl) ?_
      repeat (go_big_quiet_step (first | (with_reducible exact (K1 _ _).out)))
      refine wpQuiet_nil ?_
      intro _ hw'
      obtain ⟨⟨dq, osq⟩, hw''⟩ := hw'
      subst hw''
      have hbr := below_regrown wr dq osq
      have HB2 := Lib.hid (HBW.out.trans (hbr.mono HBW.out.size))
      have HLO2 := Lib.hid (HLO.out.below hbr hgr)
      have hg2 := Nat.lt_of_lt_of_le hgr hbr.size
      obtain ⟨h1, h2⟩ := HC.out _ HB2.out k hlt
      rw [hpk] at h1 h2
      generalize grow (redrawn wr dq) osq = w2 at *
      clear hbr k1 k2 k3 k4
      obtain ⟨l1, l2⟩ := HLO2.out.one
      have f1 := HLO2.out.frozen 0
      have f2 := HLO2.out.frozen 1
      cases hf : firstB x y lx ly
      · have LO3 : Hid (PtBlk w2 w.heap.size [lowTo l (k + 1)]) := Lib.hid (by
          rw [EL.out, EFB.out, hf]; exact HLO2.out)
        have HB3 := HB2
        have hg3 := hg2
        clear f1 f2 l1 l2 h1 h2 HB2 HLO2
        have HT : Hid (∀ q, (List.range (q + 1)).all (flat0 l k) = ((List.range q).all (flat0 l k) && flat0 l k q)) := Lib.hid fun q => range_all_succ _ q
        go_wp2_with fail
        go_loopw [4, 7] (fun s i wi => ∃ q : Nat, q ≤ n ∧ i = .int .i64 q ∧ s = .bool (flatTo l k && (List.range q).all (flat0 l k)) ∧ PtBlk wi w.heap.size [lowTo l (k + 1)] ∧ Below w.heap.size w wi ∧ w.heap.size < wi.heap.size) (fun _ i _ => n - (intOf i).toNat)
        case atStart => exact ⟨0, Nat.zero_le _, rfl, by simp, LO3.out, HB3.out, hg3⟩
        case round =>
          clear LO3 HB3 hg3
          obtain ⟨q, hq, rfl, rfl, hlo, hbq, hgq⟩ := hrel
          have HLQ := Lib.hid hlo
          have HBQ := Lib.hid hbq
          by_cases hlq : q < n
          · have HS : Hid ((flatTo l k && (List.range (q + 1)).all (flat0 l k)) = ((flatTo l k && (List.range q).all (flat0 l k)) && flat0 l k q)) := Lib.hid (by rw [HT.out, Bool.and_assoc])
            have HFE : Hid ((flatTo l k && (List.range q).all (flat0 l k)) = false → flatTo l (k + 1) = false) := Lib.hid fun hh => by
              rw [EF.out, EA.out]
              cases hf2 : flatTo l k
              · rfl
              · rw [hf2, Bool.true_and] at hh
                rw [Bool.true_and]
                rw [List.all_eq_false] at hh ⊢
                obtain ⟨z, hz, hz2⟩ := hh
                exact ⟨z, List.mem_range.2 (by have := List.mem_range.1 hz; omega), hz2⟩
            generalize (flatTo l k && (List.range q).all (flat0 l k)) = tb at *
            cases tb
            · have HF0 := Lib.hid (HFE.out rfl)
              go_wp2_with fail
              go_roundw
              case rel => exact ⟨k + 1, by omega, by go_num, by rw [HF0.out], HLQ.out, HBQ.out, hgq⟩
              case measure => simp [intOf]; omega
            · obtain ⟨j1, j2⟩ := HZ.out wr hbq
              obtain ⟨j3, j4⟩ := HC.out wr hbq k hlt
              obtain ⟨j5, j6⟩ := HC.out wr hbq q hlq
              rw [hpk] at j3 j4
              have ECQ := Lib.hid (EC.out q)
              have dq2 := EC2.out q hlq
              generalize gt l q = pq at *
              obtain ⟨rx, ry⟩ := pq
              have C := fun W => Lib.hid (cross_any ox oy x y rx ry W d0.1 d0.2 dk.1 dk.2 dq2.1 dq2.2)
              replace ECQ : Hid (flat0 l k q = (cross ox oy x y rx ry == 0)) := ECQ
              clear dq2
              generalize cross ox oy x y rx ry = cr at *
              have KC := fun d os => Lib.hid (Calls.regrown_of ((C (grow (redrawn wr d) os)).out))
              have t1 := cell_regrown j1
              have t2 := cell_regrown j2
              have t3 := cell_regrown j3
              have t4 := cell_regrown j4
              have t5 := cell_regrown j5
              have t6 := cell_regrown j6
              clear j1 j2 j3 j4 j5 j6 C
              go_wp2_with fail
              refine wp_region_quiet_below (by kernel_rfl) (by kernel_rfl) ?_
              repeat (go_big_quiet_step (first | (with_reducible exact (KC _ _).out)))
              refine wpQuiet_nil ?_
              intro _ hw'
              obtain ⟨⟨dq, osq⟩, hw''⟩ := hw'
              subst hw''
              have hbr := below_regrown wr dq osq
              have HBQ2 := Lib.hid (HBQ.out.trans (hbr.mono HBQ.out.size))
              have HLQ2 := Lib.hid (HLQ.out.below hbr hgq)
              have hgq2 := Nat.lt_of_lt_of_le hgq hbr.size
              generalize grow (redrawn wr dq) osq = w4 at *
              clear hbr t1 t2 t3 t4 t5 t6
              go_wp2_with fail
              go_roundw
              case rel => exact ⟨q + 1, by omega, by go_num, by rw [HS.out, ECQ.out]; rfl, HLQ2.out, HBQ2.out, hgq2⟩
              case measure => simp [intOf]; omega
          · obtain rfl : q = n := by omega
            have HFE : Hid ((flatTo l k && (List.range q).all (flat0 l k)) = flatTo l (k + 1)) := Lib.hid (by rw [EF.out, EA.out])
            have HFI : Hid (∀ tb, (flatTo l k && (List.range q).all (flat0 l k)) = tb → tb = flatTo l (k + 1)) := Lib.hid fun tb e => e ▸ HFE.out
            generalize htb : (flatTo l k && (List.range q).all (flat0 l k)) = tb at *
            have HFT := Lib.hid (HFI.out tb rfl)
            clear HFE HFI htb
            cases tb
            all_goals
              go_wp2_with fail
              go_roundw
              case rel => exact ⟨k + 1, by omega, by go_num, by rw [← HFT.out], HLQ.out, HBQ.out, hgq⟩
              case measure => simp [intOf]; omega
      · have LO3 : Hid (PtBlk ((w2.setCell ⟨w.heap.size, 0, none⟩ (.int .i64 x)).setCell ⟨w.heap.size, 1, none⟩ (.int .i64 y)) w.heap.size [lowTo l (k + 1)]) := Lib.hid (by
          rw [EL.out, EFB.out, hf]; exact HLO2.out.put x y)
        have HB3 : Hid (Below w.heap.size w ((w2.setCell ⟨w.heap.size, 0, none⟩ (.int .i64 x)).setCell ⟨w.heap.size, 1, none⟩ (.int .i64 y))) := Lib.hid ((HB2.out.setCell (by simp) _).setCell (by simp) _)
        have hg3 : w.heap.size < ((w2.setCell ⟨w.heap.size, 0, none⟩ (.int .i64 x)).setCell ⟨w.heap.size, 1, none⟩ (.int .i64 y)).heap.size := by simpa using hg2
        clear HB2 HLO2
        have HT : Hid (∀ q, (List.range (q + 1)).all (flat0 l k) = ((List.range q).all (flat0 l k) && flat0 l k q)) := Lib.hid fun q => range_all_succ _ q
        go_wp2_with fail
        go_loopw [4, 7] (fun s i wi => ∃ q : Nat, q ≤ n ∧ i = .int .i64 q ∧ s = .bool (flatTo l k && (List.range q).all (flat0 l k)) ∧ PtBlk wi w.heap.size [lowTo l (k + 1)] ∧ Below w.heap.size w wi ∧ w.heap.size < wi.heap.size) (fun _ i _ => n - (intOf i).toNat)
        case atStart => exact ⟨0, Nat.zero_le _, rfl, by simp, LO3.out, HB3.out, hg3⟩
        case round =>
          clear LO3 HB3 hg3
          obtain ⟨q, hq, rfl, rfl, hlo, hbq, hgq⟩ := hrel
          have HLQ := Lib.hid hlo
          have HBQ := Lib.hid hbq
          by_cases hlq : q < n
          · have HS : Hid ((flatTo l k && (List.range (q + 1)).all (flat0 l k)) = ((flatTo l k && (List.range q).all (flat0 l k)) && flat0 l k q)) := Lib.hid (by rw [HT.out, Bool.and_assoc])
            have HFE : Hid ((flatTo l k && (List.range q).all (flat0 l k)) = false → flatTo l (k + 1) = false) := Lib.hid fun hh => by
              rw [EF.out, EA.out]
              cases hf2 : flatTo l k
              · rfl
              · rw [hf2, Bool.true_and] at hh
                rw [Bool.true_and]
                rw [List.all_eq_false] at hh ⊢
                obtain ⟨z, hz, hz2⟩ := hh
                exact ⟨z, List.mem_range.2 (by have := List.mem_range.1 hz; omega), hz2⟩
            generalize (flatTo l k && (List.range q).all (flat0 l k)) = tb at *
            cases tb
            · have HF0 := Lib.hid (HFE.out rfl)
              go_wp2_with fail
              go_roundw
              case rel => exact ⟨k + 1, by omega, by go_num, by rw [HF0.out], HLQ.out, HBQ.out, hgq⟩
              case measure => simp [intOf]; omega
            · obtain ⟨j1, j2⟩ := HZ.out wr hbq
              obtain ⟨j3, j4⟩ := HC.out wr hbq k hlt
              obtain ⟨j5, j6⟩ := HC.out wr hbq q hlq
              rw [hpk] at j3 j4
              have ECQ := Lib.hid (EC.out q)
              have dq2 := EC2.out q hlq
              generalize gt l q = pq at *
              obtain ⟨rx, ry⟩ := pq
              have C := fun W => Lib.hid (cross_any ox oy x y rx ry W d0.1 d0.2 dk.1 dk.2 dq2.1 dq2.2)
              replace ECQ : Hid (flat0 l k q = (cross ox oy x y rx ry == 0)) := ECQ
              clear dq2
              generalize cross ox oy x y rx ry = cr at *
              have KC := fun d os => Lib.hid (Calls.regrown_of ((C (grow (redrawn wr d) os)).out))
              have t1 := cell_regrown j1
              have t2 := cell_regrown j2
              have t3 := cell_regrown j3
              have t4 := cell_regrown j4
              have t5 := cell_regrown j5
              have t6 := cell_regrown j6
              clear j1 j2 j3 j4 j5 j6 C
              go_wp2_with fail
              refine wp_region_quiet_below (by kernel_rfl) (by kernel_rfl) ?_
              repeat (go_big_quiet_step (first | (with_reducible exact (KC _ _).out)))
              refine wpQuiet_nil ?_
              intro _ hw'
              obtain ⟨⟨dq, osq⟩, hw''⟩ := hw'
              subst hw''
              have hbr := below_regrown wr dq osq
              have HBQ2 := Lib.hid (HBQ.out.trans (hbr.mono HBQ.out.size))
              have HLQ2 := Lib.hid (HLQ.out.below hbr hgq)
              have hgq2 := Nat.lt_of_lt_of_le hgq hbr.size
              generalize grow (redrawn wr dq) osq = w4 at *
              clear hbr t1 t2 t3 t4 t5 t6
              go_wp2_with fail
              go_roundw
              case rel => exact ⟨q + 1, by omega, by go_num, by rw [HS.out, ECQ.out]; rfl, HLQ2.out, HBQ2.out, hgq2⟩
              case measure => simp [intOf]; omega
          · obtain rfl : q = n := by omega
            have HFE : Hid ((flatTo l k && (List.range q).all (flat0 l k)) = flatTo l (k + 1)) := Lib.hid (by rw [EF.out, EA.out])
            have HFI : Hid (∀ tb, (flatTo l k && (List.range q).all (flat0 l k)) = tb → tb = flatTo l (k + 1)) := Lib.hid fun tb e => e ▸ HFE.out
            generalize htb : (flatTo l k && (List.range q).all (flat0 l k)) = tb at *
            have HFT := Lib.hid (HFI.out tb rfl)
            clear HFE HFI htb
            cases tb
            all_goals
              go_wp2_with fail
              go_roundw
              case rel => exact ⟨k + 1, by omega, by go_num, by rw [← HFT.out], HLQ.out, HBQ.out, hgq⟩
              case measure => simp [intOf]; omega
    · obtain rfl : k = n := by omega
      generalize hfl : flatTo l k = fb at *
      cases fb
      · have HH := Lib.hid (HHL.out rfl)
        have HFL : Hid (flatTo l l.length = false) := Lib.hid (by rw [HL.out]; exact hfl)
        clear HHL hfl
        have HLO := Lib.hid hlow
        have hlm := HBD.out _ (HLM.out k (Nat.le_refl _))
        clear hlow hbw
        generalize lowTo l k = lo at *
        obtain ⟨lx, ly⟩ := lo
        obtain ⟨l1, l2⟩ := HLO.out.one
        have hsz := HBW.out.size
        have O1 : Hid (PtsOwn (wr.alloc (bx lx ly)) (w.heap.size + 1) (.slice (some ⟨wr.heap.size, 0, none⟩) 1 1) (H.take (0 + 1))) := Lib.hid (by
          have : H.take (0 + 1) = [(lx, ly)] := by
            have h0 : 0 < H.length := by have := HH.out.two; omega
            have e := HH.out.first
            unfold gt at e
            rw [List.getD_eq_getElem?_getD, List.getElem?_eq_getElem h0] at e
            simp only [Option.getD_some] at e
            rw [List.take_succ_eq_append_getElem h0, e]; rfl
          rw [this]
          exact PtsOwn.one wr lx ly hgr)
        have L1 := Lib.hid (HLO.out.alloc (bx lx ly))
        have B1 : Hid (Below w.heap.size w (wr.alloc (bx lx ly))) := Lib.hid (HBW.out.alloc hsz _)
        have hg1 : w.heap.size + 1 ≤ (wr.alloc (bx lx ly)).heap.size := by simp; omega
        obtain ⟨wo, rfl⟩ : ∃ wo : World, wo = wr := ⟨_, rfl⟩
        go_wp2_with fail
        go_loopw [8] (fun s wr => ∃ j : Nat, j < H.length ∧ PtsOwn wr (w.heap.size + 1) s (H.take (j + 1)) ∧ PtBlk wr w.heap.size [(lx, ly)] ∧ Below w.heap.size w wr ∧ w.heap.size + 1 ≤ wr.heap.size) (fun s _ => H.length - slLen s)
        case atStart => exact ⟨0, by have := HH.out.two; omega, O1.out, L1.out, B1.out, hg1⟩
        case round =>
          clear O1 L1 B1 hg1 HLO HBW l1 l2 hsz hgr
          obtain ⟨j, hj, hO, hlo, hbw, hgr⟩ := hrel
          have hjl : (H.take (j + 1)).length = j + 1 := by rw [List.length_take]; omega
          obtain ⟨A1, c1, rfl, hc1, hat⟩ := hO.slice_n hjl
          obtain ⟨g, og, rfl, hgl, hin⟩ := hat (by intro e; rw [e] at hjl; simp at hjl)
          obtain ⟨a1, a2⟩ := hin j (gt H j) (by
            rw [List.getElem?_take, if_pos (by omega)]
            unfold gt; rw [List.getD_eq_getElem?_getD, List.getElem?_eq_getElem hj]; rfl)
          have HO := Lib.hid hO
          have HLO := Lib.hid hlo
          have HBW := Lib.hid hbw
          have HED := Lib.hid (HH.out.edge j hj)
          have HNX : Hid (nx H j = (lx, ly) → j + 1 = H.length) := Lib.hid fun e => by
            rcases Nat.lt_or_ge (j + 1) H.length with q | q
            · rw [gt_nx q] at e
              exact absurd e (HH.out.once (j + 1) (by omega) q)
            · omega
          have HNY : Hid (nx H j ≠ (lx, ly) → j + 1 < H.length ∧ H.take (j + 2) = H.take (j + 1) ++ [nx H j]) := Lib.hid fun e => by
            rcases Nat.lt_or_ge (j + 1) H.length with q | q
            · refine ⟨q, ?_⟩
              rw [gt_nx q, List.take_succ_eq_append_getElem q]
              simp [gt, List.getD, q]
            · exfalso
              apply e
              have : j + 1 = H.length := by omega
              show gt H ((j + 1) % H.length) = _
              rw [this, Nat.mod_self]; exact HH.out.first
          have da := HBD.out _ HED.out.fst
          have hle := HBD.out _ HED.out.snd
          clear hO hat hin hlo hbw
          generalize hpa : gt H j = p at *
          obtain ⟨ax, ay⟩ := p
          have A0 : Hid (PtAt ((wr.alloc (bx ax ay)).alloc (bx ax ay)) wr.heap.size ax ay) := Lib.hid (PtAt.new.alloc _ (by simp))
          have T0 : Hid (PtBlk ((wr.alloc (bx ax ay)).alloc (bx ax ay)) (wr.heap.size + 1) [(ax, ay)]) := Lib.hid (by
            have := PtBlk.box (wr.alloc (bx ax ay)) ax ay
            rwa [World.size_alloc] at this)
          have B0' : Hid (Below wr.heap.size wr ((wr.alloc (bx ax ay)).alloc (bx ax ay))) := Lib.hid ((Below.refl _ _).alloc (Nat.le_refl _) _ |>.alloc (by simp) _)
          have hz2 : ((wr.alloc (bx ax ay)).alloc (bx ax ay)).heap.size = wr.heap.size + 2 := by simp
          obtain ⟨wo, rfl⟩ : ∃ wo : World, wo = wr := ⟨_, rfl⟩
          have hgo : g < wo.heap.size := hgl
          go_wp2_with fail
          generalize (wo.alloc (bx ax ay)).alloc (bx ax ay) = wb at *
          generalize hgo' : wo.heap.size = ga at *
          have hba : w.heap.size < ga := by omega
          go_loopw [11] (fun i wr => ∃ q : Nat, q ≤ k ∧ i = .int .i64 q ∧ PtBlk wr (ga + 1) [(l.take q).foldl (wrapStep (ax, ay)) (ax, ay)] ∧ Below (ga + 1) wb wr ∧ ga + 2 ≤ wr.heap.size) (fun i _ => k - (intOf i).toNat)
          case atStart => exact ⟨0, Nat.zero_le _, rfl, T0.out, Below.refl _ _, by omega⟩
          case round =>
            clear T0 hz2 a1 a2
            obtain ⟨q, hq, rfl, hto, hbi, hgi⟩ := hrel
            have HTO := Lib.hid hto
            have HBI := Lib.hid hbi
            have HBO : Hid (Below ga wo wr) := Lib.hid (B0'.out.trans (hbi.mono (by omega)))
            have HBWQ : Hid (Below w.heap.size w wr) := Lib.hid (HBW.out.trans (HBO.out.mono (by omega)))
            have HLQ : Hid (PtBlk wr w.heap.size [(lx, ly)]) := Lib.hid (HLO.out.below HBO.out hba)
            have HAQ : Hid (PtAt wr ga ax ay) := Lib.hid (PtAt.below hbi (by omega) A0.out)
            have HTM : Hid (Bd ((l.take q).foldl (wrapStep (ax, ay)) (ax, ay))) := Lib.hid (by
              rcases wrap_mem (ax, ay) (l.take q) (ax, ay) with h | h
              · exact HBD.out _ (List.take_subset _ _ h)
              · rw [h]; exact da)
            clear hto hbi
            by_cases hlq : q < k
            · obtain ⟨h1, h2⟩ := HC.out wr HBWQ.out q hlq
              have hB : b < wr.heap.size := by omega
              have ES : Hid ((l.take (q + 1)).foldl (wrapStep (ax, ay)) (ax, ay) = wrapStep (ax, ay) ((l.take q).foldl (wrapStep (ax, ay)) (ax, ay)) (gt l q)) := Lib.hid (by
                have hql : q < l.length := by rw [HL.out]; exact hlq
                rw [List.take_succ_eq_append_getElem hql, List.foldl_append]
                simp [gt, List.getD, hql])
              have dp := HBD.out _ (HG.out q hlq)
              have dt := HTM.out
              generalize (l.take q).foldl (wrapStep (ax, ay)) (ax, ay) = tt at *
              generalize gt l q = pp at *
              obtain ⟨tx, ty⟩ := tt
              obtain ⟨px, py⟩ := pp
              have gp := guard_pt
              have ep := eq_pt px py ax ay
              have hb5 : Below wr.heap.size wr (wr.alloc (bx px py)) := (Below.refl _ _).alloc (Nat.le_refl _) _
              have hs5 : (wr.alloc (bx px py)).heap.size = wr.heap.size + 1 := by simp
              have hs5' : (wr.alloc (.cells #[.int .i64 px, .int .i64 py] 38)).heap.size = wr.heap.size + 1 := by simp
              have P5 : PtAt (wr.alloc (bx px py)) wr.heap.size px py := PtAt.new
              obtain ⟨b1, b2⟩ := HAQ.out
              obtain ⟨c1', c2'⟩ := HTO.out.one
              have hg1 : ga < wr.heap.size := by omega
              have hg2 : ga + 1 < wr.heap.size := by omega
              cases he : eqI px py ax ay
              · have hne : ¬ ((px, py) = (ax, ay)) := fun e => by rw [eqI_iff.2 e] at he; cases he
                have HYES : Hid ((tx, ty) = (ax, ay) ∨ crossP (ax, ay) (tx, ty) (px, py) < 0 ∨ (crossP (ax, ay) (tx, ty) (px, py) = 0 ∧ onP (ax, ay) (px, py) (tx, ty) = true) → wrapStep (ax, ay) (tx, ty) (px, py) = (px, py)) := Lib.hid fun hh => by
                  unfold wrapStep; rw [if_neg hne, if_pos hh]
                have HNO : Hid (¬ ((tx, ty) = (ax, ay) ∨ crossP (ax, ay) (tx, ty) (px, py) < 0 ∨ (crossP (ax, ay) (tx, ty) (px, py) = 0 ∧ onP (ax, ay) (px, py) (tx, ty) = true)) → wrapStep (ax, ay) (tx, ty) (px, py) = (tx, ty)) := Lib.hid fun hh => by
                  unfold wrapStep; rw [if_neg hne, if_neg hh]
                have C := fun W => Lib.hid (cross_any ax ay tx ty px py W da.1 da.2 dt.1 dt.2 dp.1 dp.2)
                have TO := fun W => Lib.hid (on_any ax ay px py tx ty W da.1 da.2 dp.1 dp.2 dt.1 dt.2)
                have HCR : Hid (crossP (ax, ay) (tx, ty) (px, py) = cross ax ay tx ty px py) := Lib.hid rfl
                have HON : Hid (onP (ax, ay) (px, py) (tx, ty) = onB ax ay px py tx ty) := Lib.hid rfl
                clear hne
                generalize cross ax ay tx ty px py = cr at *
                generalize onB ax ay px py tx ty = ob at *
                go_wp2_with fail
                refine ((C _).out).mono ?_
                rintro e w5 ⟨rfl, hb6⟩
                have hb7 := hb5.trans (hb6.mono hb5.size)
                obtain ⟨b1, b2⟩ := PtAt.below hb7 hg1 HAQ.out
                have HT5 := Lib.hid (HTO.out.below hb7 hg2)
                obtain ⟨c1', c2'⟩ := HT5.out.one
                have f1 := HT5.out.frozen 0
                have f2 := HT5.out.frozen 1
                obtain ⟨e1, e2⟩ := PtAt.below hb6 (by rw [hs5]; omega) P5
                have HBI5 : Hid (Below (ga + 1) wb w5) := Lib.hid (HBI.out.trans (hb7.mono (by omega)))
                have hgi5 : ga + 2 ≤ w5.heap.size := by have := hb7.size; omega
                have hgp : wr.heap.size < w5.heap.size := by have := hb6.size; rw [hs5'] at this; omega
                clear hb5 hb6 hb7 P5 ep h1 h2 he C
                have ep := eq_pt tx ty ax ay
                cases he2 : eqI tx ty ax ay
                · have hne2 : ¬ ((tx, ty) = (ax, ay)) := fun e => by rw [eqI_iff.2 e] at he2; cases he2
                  by_cases hc0 : cr < 0
                  · have hd1 : decide (cr < 0) = true := decide_eq_true hc0
                    have HSIDE : Hid ((tx, ty) = (ax, ay) ∨ crossP (ax, ay) (tx, ty) (px, py) < 0 ∨ (crossP (ax, ay) (tx, ty) (px, py) = 0 ∧ onP (ax, ay) (px, py) (tx, ty) = true)) := Lib.hid (.inr (.inl (by rw [HCR.out]; exact hc0)))
                    clear hne2
                    go_wp2_with fail
                    go_roundw
                    case rel => exact ⟨q + 1, by omega, by go_num, by rw [ES.out, HYES.out HSIDE.out]; exact HT5.out.put px py, (HBI5.out.setCell (by simp) _).setCell (by simp) _, by simpa using hgi5⟩
                    case measure => simp [intOf]; omega
                  · have hd1 : decide (cr < 0) = false := decide_eq_false hc0
                    cases hd2 : (cr == 0)
                    · have HSIDE : Hid (¬ ((tx, ty) = (ax, ay) ∨ crossP (ax, ay) (tx, ty) (px, py) < 0 ∨ (crossP (ax, ay) (tx, ty) (px, py) = 0 ∧ onP (ax, ay) (px, py) (tx, ty) = true))) := Lib.hid (by
                        rw [HCR.out]
                        rintro (h | h | ⟨h, _⟩)
                        · exact hne2 h
                        · exact hc0 h
                        · rw [h] at hd2; cases hd2)
                      clear hne2
                      go_wp2_with fail
                      go_roundw
                      case rel => exact ⟨q + 1, by omega, by go_num, by rw [ES.out, HNO.out HSIDE.out]; exact HT5.out, HBI5.out, hgi5⟩
                      case measure => simp [intOf]; omega
                    · have hcz : cr = 0 := by simpa using hd2
                      cases hob : ob
                      · have HSIDE : Hid (¬ ((tx, ty) = (ax, ay) ∨ crossP (ax, ay) (tx, ty) (px, py) < 0 ∨ (crossP (ax, ay) (tx, ty) (px, py) = 0 ∧ onP (ax, ay) (px, py) (tx, ty) = true))) := Lib.hid (by
                          rw [HCR.out, HON.out, hob]
                          rintro (h | h | ⟨_, h⟩)
                          · exact hne2 h
                          · exact hc0 h
                          · cases h)
                        rw [hob] at TO
                        clear hne2
                        go_wp2_with fail
                        refine ((TO _).out).mono ?_
                        rintro e w6 ⟨rfl, hb6⟩
                        replace HT5 := Lib.hid (HT5.out.below hb6 (by omega))
                        replace HBI5 : Hid (Below (ga + 1) wb w6) := Lib.hid (HBI5.out.trans (hb6.mono (by omega)))
                        replace hgi5 : ga + 2 ≤ w6.heap.size := by have := hb6.size; omega
                        go_wp2_with fail
                        go_roundw
                        case rel => exact ⟨q + 1, by omega, by go_num, by rw [ES.out, HNO.out HSIDE.out]; exact HT5.out, HBI5.out, hgi5⟩
                        case measure => simp [intOf]; omega
                      · have HSIDE : Hid ((tx, ty) = (ax, ay) ∨ crossP (ax, ay) (tx, ty) (px, py) < 0 ∨ (crossP (ax, ay) (tx, ty) (px, py) = 0 ∧ onP (ax, ay) (px, py) (tx, ty) = true)) := Lib.hid (.inr (.inr ⟨by rw [HCR.out]; exact hcz, by rw [HON.out, hob]⟩))
                        rw [hob] at TO
                        clear hne2
                        go_wp2_with fail
                        refine ((TO _).out).mono ?_
                        rintro e w6 ⟨rfl, hb6⟩
                        obtain ⟨e1, e2⟩ := PtAt.below hb6 hgp ⟨e1, e2⟩
                        replace HT5 := Lib.hid (HT5.out.below hb6 (by omega))
                        replace HBI5 : Hid (Below (ga + 1) wb w6) := Lib.hid (HBI5.out.trans (hb6.mono (by omega)))
                        replace hgi5 : ga + 2 ≤ w6.heap.size := by have := hb6.size; omega
                        obtain ⟨c1', c2'⟩ := HT5.out.one
                        have f1 := HT5.out.frozen 0
                        have f2 := HT5.out.frozen 1
                        go_wp2_with fail
                        go_roundw
                        case rel => exact ⟨q + 1, by omega, by go_num, by rw [ES.out, HYES.out HSIDE.out]; exact HT5.out.put px py, (HBI5.out.setCell (by simp) _).setCell (by simp) _, by simpa using hgi5⟩
                        case measure => simp [intOf]; omega
                · have HSIDE : Hid ((tx, ty) = (ax, ay) ∨ crossP (ax, ay) (tx, ty) (px, py) < 0 ∨ (crossP (ax, ay) (tx, ty) (px, py) = 0 ∧ onP (ax, ay) (px, py) (tx, ty) = true)) := Lib.hid (.inl (eqI_iff.1 he2))
                  go_wp2_with fail
                  go_roundw
                  case rel => exact ⟨q + 1, by omega, by go_num, by rw [ES.out, HYES.out HSIDE.out]; exact HT5.out.put px py, (HBI5.out.setCell (by simp) _).setCell (by simp) _, by simpa using hgi5⟩
                  case measure => simp [intOf]; omega
              · have HKE : Hid (wrapStep (ax, ay) (tx, ty) (px, py) = (tx, ty)) := Lib.hid (by unfold wrapStep; rw [if_pos (eqI_iff.1 he)])
                go_wp2_with fail
                go_roundw
                case rel => exact ⟨q + 1, by omega, by go_num, by rw [ES.out, HKE.out]; exact HTO.out.alloc _, HBI.out.trans (hb5.mono (by omega)), by rw [hs5']; omega⟩
                case measure => simp [intOf]; omega
            · obtain rfl : q = k := by omega
              have HW : Hid ((l.take q).foldl (wrapStep (ax, ay)) (ax, ay) = nx H j) := Lib.hid (by
                rw [List.take_of_length_le (by rw [HL.out]; omega)]
                exact wrap_edge HED.out)
              rw [HW.out] at HTO
              clear HTM HW
              have O6 := Lib.hid (HO.out.belows HBO.out (Nat.le_of_eq hgo'))
              obtain ⟨l1, l2⟩ := HLQ.out.one
              generalize hnt : nx H j = t at *
              obtain ⟨tx, ty⟩ := t
              obtain ⟨t1, t2⟩ := HTO.out.one
              have gp := guard_pt
              have ep := eq_pt tx ty lx ly
              cases he : eqI tx ty lx ly
              · obtain ⟨hj2, htk⟩ := HNY.out (fun e => by rw [eqI_iff.2 e] at he; cases he)
                have HTK := Lib.hid htk
                have hA1 : (H.take (j + 1)).length + [(tx, ty)].length ≤ 100000 := by rw [hjl]; simp; omega
                have hA2 : w.heap.size + 1 ≤ (wr.alloc (bx tx ty)).heap.size := by rw [World.size_alloc]; omega
                clear htk HNX HNY HED
                go_wp2_with (at_builtin; refine wpList_papp rfl (.tmp 104) (.tmp 106) rfl (w.heap.size + 1) _ (H.take (j + 1)) [(tx, ty)] (some ⟨wr.heap.size, 0, none⟩) 1 1 rfl rfl (O6.out.alloc _) rfl (PtsAt.one wr tx ty) hA1 hA2 ?_; intro v1 w7 ho hg hat; have HO7 := Lib.hid ho; have HG7 := Lib.hid hg; clear ho hg hat)
                have HB7 : Hid (Below (w.heap.size + 1) wr w7) := Lib.hid (((Below.refl _ _).alloc (by omega) _).grown HG7.out hA2 (fun k hk => (O6.out.base k hk).1))
                have HO8 : Hid (PtsOwn w7 (w.heap.size + 1) v1 (H.take (j + 1 + 1))) := Lib.hid (by rw [HTK.out]; exact HO7.out)
                have hs7 : w.heap.size + 1 ≤ w7.heap.size := by have := HB7.out.size; omega
                have HL7 := Lib.hid (HLQ.out.below HB7.out (by omega))
                have HW7 := Lib.hid (HBWQ.out.trans (HB7.out.mono (by omega)))
                clear HO7 HG7 hA1 hA2
                go_wp2_with fail
                go_roundw
                case rel => exact ⟨j + 1, hj2, HO8.out, HL7.out, HW7.out, hs7⟩
                case measure =>
                  obtain ⟨A9, c9, e9, _, _⟩ := HO8.out.slice_n (n := j + 2) (by rw [List.length_take]; omega)
                  rw [e9]
                  simp [slLen]; omega
              · have hjH : j + 1 = H.length := HNX.out (eqI_iff.1 he)
                have HOF : Hid (PtsOwn wr w.heap.size (.slice (some ⟨g, og, none⟩) (j + 1) c1) H) := Lib.hid (by
                  have := O6.out.low (base' := w.heap.size) (by omega)
                  rwa [show H.take (j + 1) = H by rw [hjH, List.take_length]] at this)
                clear HNX HNY HED
                go_wp2_with fail
                go_ret2
                exact ⟨HBWQ.out, .inr ⟨HFL.out, _, rfl, HOF.out⟩⟩
      · have HFL : Hid (flatTo l l.length = true) := Lib.hid (by rw [HL.out]; exact hfl)
        go_wp2_with fail
        go_ret2
        exact ⟨HBW.out, .inl ⟨HFL.out, rfl⟩⟩
end Go.Proofs.Ytlmdmgbhfoehgaa

/- Package shape's Hull and the reference's find the same; the reference's Same. -/
namespace Go.Proofs.Ytlmdmgbhfoehgaa
open Go.RowKit Go.Sort
attribute [local go_sem ↓] run_min_mn run_max_mx Go.wp_at_zero Go.wp_at_succ

/-- What Hull leaves. -/
def HullXTo (l : List Pt) (w : World) (e : Ending) (w' : World) : Prop :=
  Below w.heap.size w w' ∧ ((ptsB l 1 = false ∧ e = .returned (.tuple #[.slice none 0 0, .int .i64 1])) ∨
    (ptsB l 1 = true ∧ ∃ s, s.Perm l ∧ s.Pairwise leP ∧ (((hullL s).length < 3 ∧ e = .returned (.tuple #[.slice none 0 0, .int .i64 6])) ∨
      (3 ≤ (hullL s).length ∧ ∃ v, e = .returned (.tuple #[v, .int .i64 0]) ∧ PtsOwn w' w.heap.size v (hullL s)))))

theorem hullL_len (s : List Pt) : (hullL s).length ≤ 2 * s.length := by
  have h1 := chainW_len s []
  have h2 := chainW_len s.reverse []
  simp only [List.length_nil, List.length_reverse] at h1 h2
  unfold hullL chainW
  simp only [List.length_append, List.length_dropLast, List.length_reverse]
  omega

theorem ptsB_1 {l : List Pt} : ptsB l 1 = true ↔ 1 ≤ l.length ∧ l.length ≤ 32 ∧ l.all okP = true := by
  unfold ptsB
  simp only [Bool.and_eq_true, decide_eq_true_eq]
  exact ⟨fun ⟨⟨a, b⟩, c⟩ => ⟨a, b, c⟩, fun ⟨a, b, c⟩ => ⟨⟨a, b⟩, c⟩⟩

set_option maxRecDepth 100000 in
set_option maxHeartbeats 1000000 in
theorem hullX_any (hS : SortsPts) (hR : ReversesPts) (A : Option Addr) (n c : Nat) (l : List Pt) (w : World) (hn : l.length = n) (hbig : n ≤ 1000000) (hx : PtsAt w A l) :
    Calls Try.prog 32 #[.slice A n c] w (HullXTo l w) := by
  have K := Lib.hid (arePoints_any A n c 1 l w hn hbig (by omega) hx)
  cases hp : ptsB l 1
  · rw [hp] at K
    clear hn hx
    go_enter Try.func32, Try.ntmps32
    go_wp2_with fail
    refine (K.out).mono ?_
    rintro e w' ⟨rfl, hb⟩
    go_wp2
    go_ret2
    exact ⟨hb, .inl ⟨hp, rfl⟩⟩
  · rw [hp] at K
    obtain ⟨q1, q2, q3⟩ := ptsB_1.1 hp
    obtain ⟨b, off, rfl, h3, h4⟩ := hx (by intro e; subst e; simp at q1)
    have S := fun W hW => Lib.hid (hull_any hS hR b off n c l W hn (by omega) (by omega) (h4.below (B := w.heap.size) hW h3) (Nat.lt_of_lt_of_le h3 hW.size) (ok_Bd q3))
    clear hn hx h4 q1 q2 q3
    go_enter Try.func32, Try.ntmps32
    go_wp2_with fail
    refine (K.out).mono ?_
    rintro e w1 ⟨rfl, hb⟩
    go_wp2_with fail
    refine ((S _ hb).out).mono ?_
    rintro e w2 ⟨s, v, hperm, hsort, rfl, ho, hb2⟩
    have hbw := hb.trans (hb2.mono hb.size)
    generalize hm : (hullL s).length = m at *
    obtain ⟨A1, c1, rfl, hc1, hat⟩ := ho.slice_n hm
    have HO := Lib.hid (ho.low hb.size)
    have HH : Hid (s.Perm l ∧ s.Pairwise leP) := Lib.hid ⟨hperm, hsort⟩
    have HM := Lib.hid hm
    clear ho hat hperm hsort hm
    by_cases h3 : m < 3
    · go_wp2_with fail
      go_ret2
      exact ⟨hbw, .inr ⟨hp, s, HH.out.1, HH.out.2, .inl ⟨by rw [HM.out]; exact h3, rfl⟩⟩⟩
    · go_wp2_with fail
      go_ret2
      exact ⟨hbw, .inr ⟨hp, s, HH.out.1, HH.out.2, .inr ⟨by rw [HM.out]; omega, _, rfl, HO.out⟩⟩⟩

theorem flatTo_iff {l : List Pt} (h : 0 < l.length) : flatTo l l.length = true ↔ Flat l (gt l 0) := by
  have gm : ∀ i, i < l.length → gt l i ∈ l := fun i hi => by
    unfold gt; rw [List.getD_eq_getElem?_getD, List.getElem?_eq_getElem hi]; exact List.getElem_mem hi
  have mg : ∀ p ∈ l, ∃ i, i < l.length ∧ gt l i = p := fun p hp => by
    obtain ⟨i, hi, e⟩ := List.getElem_of_mem hp
    exact ⟨i, hi, by unfold gt; rw [List.getD_eq_getElem?_getD, List.getElem?_eq_getElem hi]; exact e⟩
  unfold flatTo flatAt flat0 Flat
  simp only [List.all_eq_true, List.mem_range, beq_iff_eq]
  constructor
  · intro hh a ha b hb
    obtain ⟨i, hi, rfl⟩ := mg a ha
    obtain ⟨k, hk, rfl⟩ := mg b hb
    exact hh i hi k hk
  · intro hh i hi k hk
    exact hh _ (gm i hi) _ (gm k hk)

theorem firstP_iff {a b : Pt} : firstP a b = true ↔ ltP a b := by
  unfold firstP firstB ltP
  simp only [Bool.or_eq_true, Bool.and_eq_true, decide_eq_true_eq, beq_iff_eq]
theorem lowTo_le (l : List Pt) : ∀ k i, i < k → leP (lowTo l k) (gt l i)
  | 0, _, h => by omega
  | k + 1, i, h => by
    unfold lowTo
    split
    · rename_i hf
      have hlt := firstP_iff.1 hf
      rcases Nat.lt_or_eq_of_le (Nat.le_of_lt_succ h) with h | rfl
      · exact leP_trans (.inr hlt) (lowTo_le l k i h)
      · exact leP_refl _
    · rename_i hf
      rcases Nat.lt_or_eq_of_le (Nat.le_of_lt_succ h) with h | rfl
      · exact lowTo_le l k i h
      · rcases leP_total (lowTo l i) (gt l i) with g | g
        · exact g
        · exact absurd (firstP_iff.2 g) hf

/-- Both find the same. -/
theorem hull_both {l s : List Pt} (h0 : 0 < l.length) (hp : s.Perm l) (hs : s.Pairwise leP) :
    (flatTo l l.length = true ↔ (hullL s).length < 3) ∧ (flatTo l l.length = false → Hull l (hullL s) (lowTo l l.length)) := by
  cases s with
  | nil => have := hp.length_eq; simp at this; omega
  | cons x m =>
    have hm : ∀ p, p ∈ l ↔ p ∈ x :: m := fun p => hp.mem_iff.symm
    have hg0 : gt l 0 ∈ l := by
      unfold gt; rw [List.getD_eq_getElem?_getD, List.getElem?_eq_getElem h0]; exact List.getElem_mem h0
    have hlow : lowTo l l.length = x := by
      have h1 := lowTo_mem h0 l.length (Nat.le_refl _)
      have h2 : leP x (lowTo l l.length) := by
        rcases List.mem_cons.1 ((hm _).1 h1) with e | e
        · rw [e]; exact leP_refl _
        · exact (List.pairwise_cons.1 hs).1 _ e
      obtain ⟨i, hi, e⟩ := List.getElem_of_mem ((hm x).2 (by simp))
      have h3 := lowTo_le l l.length i hi
      have e2 : gt l i = x := by unfold gt; rw [List.getD_eq_getElem?_getD, List.getElem?_eq_getElem hi]; exact e
      rw [e2] at h3
      exact leP_anti h3 h2
    rcases hull_ok hs with ⟨h1, h2⟩ | h
    · have hf : flatTo l l.length = true := (flatTo_iff h0).2 (flat_one (fun p hp => h1 p ((hm p).1 hp)) hg0)
      exact ⟨⟨fun _ => by omega, fun _ => hf⟩, fun e => by rw [hf] at e; cases e⟩
    · have h' := h.mem hm
      refine ⟨(flatTo_iff h0).trans (hull_flat h' hg0), fun _ => by rw [hlow]; exact h'⟩

set_option maxRecDepth 100000 in
set_option maxHeartbeats 2000000 in
theorem same_any (A B : Option Addr) (n m c d : Nat) (l r : List Pt) (w : World) (hl : l.length = n) (hn : n ≤ 10000) (hx : PtsAt w A l) (hr : r.length = m) (hm : m ≤ 10000) (hy : PtsAt w B r) :
    Calls Try.prog 13 #[.slice A n c, .slice B m d] w fun e w' => e = .returned (.bool (decide (l = r))) ∧ Below w.heap.size w w' := by
  have HL := Lib.hid hl
  have HR := Lib.hid hr
  have HX := Lib.hid hx
  have HY := Lib.hid hy
  clear hl hr hx hy
  by_cases hnm : n = m
  · subst hnm
    go_enter Try.func13, Try.ntmps13
    go_wp2_with fail
    go_loopw [5] (fun i wr => ∃ k : Nat, k ≤ n ∧ i = .int .i64 k ∧ l.take k = r.take k ∧ Below w.heap.size w wr) (fun i _ => n - (intOf i).toNat)
    case atStart => exact ⟨0, Nat.zero_le _, rfl, rfl, Below.refl _ _⟩
    case round =>
      obtain ⟨k, hk, rfl, he, hbw⟩ := hrel
      have HE := Lib.hid he
      clear he
      by_cases hlt : k < n
      · have hkl : k < l.length := by rw [HL.out]; exact hlt
        have hkr : k < r.length := by rw [HR.out]; exact hlt
        obtain ⟨b, off, rfl, hb, hin⟩ := HX.out (by intro e; subst e; simp at hkl)
        obtain ⟨b', off', rfl, hb', hin'⟩ := HY.out (by intro e; subst e; simp at hkr)
        obtain ⟨h1, h2⟩ := (hin.below hbw hb) k _ (List.getElem?_eq_getElem hkl)
        obtain ⟨h3, h4⟩ := (hin'.below hbw hb') k _ (List.getElem?_eq_getElem hkr)
        have HT : Hid (l[k] = r[k] → l.take (k + 1) = r.take (k + 1)) := Lib.hid fun e => by
          rw [List.take_succ_eq_append_getElem hkl, List.take_succ_eq_append_getElem hkr, HE.out, e]
        have HF : Hid (l[k] ≠ r[k] → l ≠ r) := Lib.hid fun e e2 => by subst e2; exact e rfl
        clear hin hin'
        generalize l[k] = p at *
        generalize r[k] = q at *
        obtain ⟨x, y⟩ := p
        obtain ⟨u, v⟩ := q
        have gp := guard_pt
        have ep := eq_pt x y u v
        have t1 := cell_regrown h1
        have t2 := cell_regrown h2
        have t3 := cell_regrown h3
        have t4 := cell_regrown h4
        clear h1 h2 h3 h4
        cases he : eqI x y u v
        · have HD : Hid (decide (l = r) = false) := Lib.hid (decide_eq_false (HF.out (fun e => by rw [eqI_iff.2 e] at he; cases he)))
          go_wp2_with fail
          refine wp_region_quiet_below (by kernel_rfl) (by kernel_rfl) ?_
          repeat (go_big_quiet_step (fail))
          refine wpQuiet_nil ?_
          intro _ hw'
          obtain ⟨⟨dq, osq⟩, hw''⟩ := hw'
          subst hw''
          have HBE := Lib.hid (hbw.trans ((below_regrown wr dq osq).mono hbw.size))
          go_wp2_with fail
          go_ret
          exact ⟨ret_bool HD.out.symm, HBE.out⟩
        · have HT2 := Lib.hid (HT.out (eqI_iff.1 he))
          go_wp2_with fail
          refine wp_region_quiet_below (by kernel_rfl) (by kernel_rfl) ?_
          repeat (go_big_quiet_step (fail))
          refine wpQuiet_nil ?_
          intro _ hw'
          obtain ⟨⟨dq, osq⟩, hw''⟩ := hw'
          subst hw''
          have HBE := Lib.hid (hbw.trans ((below_regrown wr dq osq).mono hbw.size))
          go_wp2_with fail
          go_roundw
          case rel => exact ⟨k + 1, by omega, by go_num, HT2.out, HBE.out⟩
          case measure => simp [intOf]; omega
      · obtain rfl : k = n := by omega
        have HD : Hid (decide (l = r) = true) := Lib.hid (decide_eq_true (by
          have := HE.out
          rwa [List.take_of_length_le (by rw [HL.out]; omega), List.take_of_length_le (by rw [HR.out]; omega)] at this))
        go_wp2_with fail
        go_ret
        exact ⟨ret_bool HD.out.symm, hbw⟩
  · have HD : Hid (decide (l = r) = false) := Lib.hid (decide_eq_false (fun e => hnm (by rw [← HL.out, ← HR.out, e])))
    go_enter Try.func13, Try.ntmps13
    go_wp2
    go_ret
    exact ⟨ret_bool HD.out.symm, Below.refl _ _⟩
end Go.Proofs.Ytlmdmgbhfoehgaa

/- Shape: hulls of lists with the same points; what ShapeHulled asks of them. -/
namespace Go.Proofs.Ytlmdmgbhfoehgaa

theorem gt_mem {l : List Pt} {i : Nat} (h : i < l.length) : gt l i ∈ l := by
  rw [gt_of (List.getElem?_eq_getElem h)]; exact List.getElem_mem h
theorem low_le {l : List Pt} {p : Pt} (h : p ∈ l) : leP (lowTo l l.length) p := by
  obtain ⟨i, hi, e⟩ := List.getElem_of_mem h
  have := lowTo_le l l.length i hi
  rwa [gt_of (List.getElem?_eq_getElem hi), e] at this

theorem hull_facts {l s : List Pt} (hp : s.Perm l) (hs : s.Pairwise leP) (h0 : (0, 0) ∈ l) (h1 : (1, 0) ∈ l) (h2 : (0, 1) ∈ l) :
    3 ≤ (hullL s).length ∧ ∃ s0, Hull l (hullL s) s0 ∧ ∀ p ∈ l, leP s0 p := by
  have hl : 0 < l.length := List.length_pos_of_mem h0
  obtain ⟨a, b⟩ := hull_both hl hp hs
  cases hf : flatTo l l.length
  · refine ⟨?_, _, b hf, fun p hp => low_le hp⟩
    rcases Nat.lt_or_ge (hullL s).length 3 with g | g
    · rw [a.2 g] at hf; cases hf
    · exact g
  · exfalso
    have := ((flatTo_iff hl).1 hf).all h0 h1 h2
    unfold crossP cross at this
    omega

theorem hull_other {P K Q t : List Pt} {k0 : Pt} (h : Hull P K k0) (hlow : ∀ p ∈ P, leP k0 p) (h3 : 3 ≤ K.length) (hQ : ∀ p, p ∈ Q ↔ p ∈ P) (hp : t.Perm Q) (hs : t.Pairwise leP) : hullL t = K := by
  have hk0 : k0 ∈ P := by
    have := (h.edge 0 (by omega)).fst
    rwa [h.first] at this
  have hl : 0 < Q.length := List.length_pos_of_mem ((hQ k0).2 hk0)
  obtain ⟨a, b⟩ := hull_both hl hp hs
  cases hf : flatTo Q Q.length
  · have hh := (b hf).mem (P := Q) (Q := P) (fun p => (hQ p).symm)
    have hm : lowTo Q Q.length ∈ P := (hQ _).1 (lowTo_mem hl _ (Nat.le_refl _))
    have e : lowTo Q Q.length = k0 := leP_anti (low_le ((hQ _).2 hk0)) (hlow _ hm)
    rw [e] at hh
    exact hull_unique hh h
  · exfalso
    have hflat := (flatTo_iff hl).1 hf
    have : Flat P (gt Q 0) := fun x hx y hy => hflat x ((hQ x).2 hx) y ((hQ y).2 hy)
    have := (hull_flat h ((hQ _).1 (gt_mem hl))).1 this
    omega

/-- A hull as an argument. -/
theorem hull_poly {P H : List Pt} {s0 : Pt} (h : Hull P H s0) (h3 : 3 ≤ H.length) (hok : P.all okP = true) (hlen : P.length ≤ 32) : polyB H = true := by
  unfold polyB
  rw [Bool.and_eq_true]
  refine ⟨List.all_eq_true.2 fun p hp => List.all_eq_true.1 hok p (hull_sub h hp), ?_⟩
  have := hull_length h
  rw [inB_true]
  omega

theorem convexB_simple {l : List Pt} (h : convexB l = true) : simpleB l = true := by
  unfold convexB at h
  rw [Bool.and_eq_true] at h
  exact h.1

theorem hull_simpE {H : List Pt} (hp : polyB H = true) (hc : convexB H = true) : simpE H = 0 := by
  have := convexB_simple hc
  rcases simpE_cases H with h | h | h
  · rw [hp] at h; cases h.2
  · have := h.2; simp_all
  · exact h.1

/-- Where finds all points inside or on the edges. -/
theorem hull_whereX {P H : List Pt} {s0 p : Pt} (h : Hull P H s0) (hlow : ∀ p ∈ P, leP s0 p) (h3 : 3 ≤ H.length) (hok : P.all okP = true) (hlen : P.length ≤ 32) (hp : p ∈ P) :
    (whereX H p = 0 ∨ whereX H p = 1) ∧ whereE H p = 0 := by
  have e0 := hull_simpE (hull_poly h h3 hok hlen) (hull_convex h h3 hlow)
  have ev : validB p.1 p.2 10000 = true := List.all_eq_true.1 hok p hp
  refine ⟨?_, ?_⟩
  · unfold whereX
    rw [if_pos ⟨e0, ev⟩, ← where_same]
    exact hull_where h hlow hp
  · unfold whereE
    rw [if_pos e0, if_pos ev]

end Go.Proofs.Ytlmdmgbhfoehgaa

/- The run of layer 4's lives: at every start it hands back true, and of what was there nothing turns. -/
namespace Go.Proofs.Ytlmdmgbhfoehgaa
open Go.RowKit (Below)

theorem eng_names : Eng.namesB Try.prog = true := by kernel_rfl
theorem eng_none (f : FuncId) (e : Array Value → Sem Value) (h : (Try.prog.funcs[f]?).isNone = true) : Eng.Entry Try.prog f e := ⟨fun fn h' => by rw [h'] at h; cases h⟩
noncomputable def eng_prims : Eng.Base := Eng.bareOf 1000000 1000001 1000002
theorem eng_ok {ro : Eng.Lo} : Eng.ProgOk Try.prog ro eng_prims :=
  Eng.progOk Try.checked.mixed eng_names (eng_none _ _ (by kernel_rfl)) (eng_none _ _ (by kernel_rfl)) (eng_none _ _ (by kernel_rfl))

theorem lives4_run : Eng.isTrue (Eng.call Try.prog (Eng.lo 0) eng_prims 100000 12 [] (Eng.heapOf [] .nil) 0) = true := by kernel_rfl

theorem lives4_any (w : World) :
    Calls Try.prog 12 #[] w fun e w' => e = .returned (.bool true) ∧ Below w.heap.size w w' :=
  Eng.runs_true (tabs := []) eng_ok lives4_run (by simp) Try.func12 (by kernel_rfl) (Nat.zero_le _) (Nat.le_refl _) (by intro p hp; cases hp) (by simp [Eng.relL])

end Go.Proofs.Ytlmdmgbhfoehgaa
#print axioms Go.Proofs.Ytlmdmgbhfoehgaa.lives4_any

/- ShapeHulled: the law's walk. -/
namespace Go.Proofs.Ytlmdmgbhfoehgaa
open Go.RowKit Go.Sort

theorem PtsIn.drop {w : World} {b off : Nat} {l : List Pt} (h : PtsIn w b off l) (k : Nat) : PtsIn w b (off + k * 2) (l.drop k) := fun i p hp => by
  have := h (k + i) p (by rw [List.getElem?_drop] at hp; exact hp)
  rw [show off + k * 2 + i * 2 = off + (k + i) * 2 by omega]
  exact this
theorem hull_again {P K Q : List Pt} {k0 : Pt} (h : Hull P K k0) (hlow : ∀ p ∈ P, leP k0 p) (h3 : 3 ≤ K.length) (hQ : ∀ p, p ∈ Q ↔ p ∈ P) (hok : P.all okP = true) (hlen : Q.length ≤ 32) {w w' : World} {e : Ending} (hc : HullXTo Q w e w') :
    ∃ v, e = .returned (.tuple #[v, .int .i64 0]) ∧ PtsOwn w' w.heap.size v K ∧ Below w.heap.size w w' := by
  obtain ⟨hb, hc⟩ := hc
  have hk0 : k0 ∈ P := by
    have := (h.edge 0 (by omega)).fst
    rwa [h.first] at this
  have h1 : 1 ≤ Q.length := List.length_pos_of_mem ((hQ k0).2 hk0)
  have hp : ptsB Q 1 = true := ptsB_1.2 ⟨h1, hlen, List.all_eq_true.2 fun p hp => List.all_eq_true.1 hok p ((hQ p).1 hp)⟩
  rcases hc with ⟨q, _⟩ | ⟨_, t, ht, hs, q⟩
  · rw [hp] at q; cases q
  · have e := hull_other h hlow h3 hQ ht hs
    rw [e] at q
    rcases q with ⟨q, _⟩ | ⟨_, v, ev, ho⟩
    · omega
    · exact ⟨v, ev, ho, hb⟩
theorem rot_mem (l : List Pt) (r : Nat) (p : Pt) : p ∈ [] ++ l.drop r ++ l.take r ↔ p ∈ l := by
  rw [List.nil_append, List.mem_append]
  constructor
  · rintro (h | h)
    · exact List.mem_of_mem_drop h
    · exact List.mem_of_mem_take h
  · intro h
    rw [← List.take_append_drop r l, List.mem_append] at h
    exact h.symm
def memB (l : List Pt) (t : Nat) (p : Pt) : Bool := (l.take t).any fun z => eqP z p
theorem memB_succ {l : List Pt} {t : Nat} (h : t < l.length) (p : Pt) : memB l (t + 1) p = (memB l t p || eqP l[t] p) := by
  unfold memB
  rw [List.take_succ_eq_append_getElem h, List.any_append]
  simp
theorem memB_all {l : List Pt} {p : Pt} (h : p ∈ l) {t : Nat} (ht : l.length ≤ t) : memB l t p = true := by
  unfold memB
  rw [List.take_of_length_le ht, List.any_eq_true]
  exact ⟨p, h, by simp [eqP, eqI]⟩
def triL : List Pt := [(0, 0), (1, 0), (0, 1)]
theorem tri_at (w : World) : PtsAt (w.alloc (.cells #[.int .i64 0, .int .i64 0, .int .i64 1, .int .i64 0, .int .i64 0, .int .i64 1] 38)) (some ⟨w.heap.size, 0, none⟩) triL := fun _ =>
  ⟨w.heap.size, 0, rfl, by simp, PtBlk.pts (l := triL) (show PtBlk _ _ triL from heap_alloc_new _ _)⟩
theorem fold_ok (xs : List Pt) : (foldL xs).all okP = true := List.all_eq_true.2 fun p hp => by
  unfold foldL at hp
  obtain ⟨q, _, rfl⟩ := List.mem_map.1 hp
  have a := tmod_bd q.1
  have b := tmod_bd q.2
  unfold okP validB tmP
  simp only [inB]
  simp
  omega

end Go.Proofs.Ytlmdmgbhfoehgaa

/- Shape: the merge of two convex chains, one step: mathematics of Sum. -/
namespace Go.Proofs.Ytlmdmgbhfoehgaa

theorem xr_mid {d ea eb v : Pt} (h1 : 0 < xr d eb) (h2 : 0 ≤ xr d ea) (h3 : 0 ≤ xr ea eb) (h4 : 0 ≤ xr d v) (h5 : 0 ≤ xr eb v) : 0 ≤ xr ea v := by
  have id : xr d eb * xr ea v = xr ea eb * xr d v + xr d ea * xr eb v := by unfold xr; grind
  have a := Int.mul_nonneg h3 h4
  have b := Int.mul_nonneg h2 h5
  exact nonneg_of_mul h1 id (by omega)
theorem xr_same {d ea eb f : Pt} (h1 : 0 < xr d eb) (h2 : 0 < xr d ea) (h3 : xr ea eb = 0) (h4 : 0 < xr eb f) : 0 < xr ea f := by
  have id : xr d eb * xr ea f = xr ea eb * xr d f + xr d ea * xr eb f := by unfold xr; grind
  rw [h3, Int.zero_mul, Int.zero_add] at id
  exact pos_of_mul h1 id (Int.mul_pos h2 h4)

/-- The edge that begins at a corner. -/
def ev (a : List Pt) (i : Nat) : Pt := subP (vtx a (i + 1)) (vtx a i)

/-- A direction that both chains have not passed yet, with both corners on its outer side. -/
structure Sweep (a b : List Pt) (i j : Nat) (d : Pt) : Prop where
  onA : ∀ x ∈ a, 0 ≤ xr d (subP x (vtx a i))
  onB : ∀ y ∈ b, 0 ≤ xr d (subP y (vtx b j))
  nextA : 0 < xr d (ev a i)
  nextB : 0 < xr d (ev b j)

/-- A convex polygon: its own hull, with strict turns. -/
structure Conv (a : List Pt) (a0 : Pt) : Prop where
  hull : Hull a a a0
  three : 3 ≤ a.length
  low : ∀ p ∈ a, leP a0 p

theorem Conv.left {a : List Pt} {a0 : Pt} (h : Conv a a0) (i : Nat) {x : Pt} (hx : x ∈ a) : 0 ≤ xr (ev a i) (subP x (vtx a i)) := by
  have := ((h.hull.edgeV i).ok x hx).nonneg
  rwa [crossP_xr] at this
theorem Conv.left2 {a : List Pt} {a0 : Pt} (h : Conv a a0) (i : Nat) {x : Pt} (hx : x ∈ a) : 0 ≤ xr (ev a i) (subP x (vtx a (i + 1))) := by
  have := ((h.hull.edgeV i).ok x hx).nonneg
  rwa [crossP_xr2] at this
theorem Conv.vne {a : List Pt} {a0 : Pt} (h : Conv a a0) (i : Nat) : vtx a (i + 1 + 1) ≠ vtx a i := by
  have three := h.three
  intro e
  have e' := hull_inj h.hull (Nat.mod_lt _ (by omega)) (Nat.mod_lt _ (by omega)) (show gt a ((i + 1 + 1) % a.length) = gt a (i % a.length) from e)
  have h1 : (i + 1 + 1 - i) % a.length = 0 := by
    have := (Nat.sub_mod_eq_zero_of_mod_eq e')
    exact this
  rw [show i + 1 + 1 - i = 2 by omega, Nat.mod_eq_of_lt (by omega)] at h1
  omega
theorem Conv.turn {a : List Pt} {a0 : Pt} (h : Conv a a0) (i : Nat) : 0 < xr (ev a i) (ev a (i + 1)) := by
  have E := h.hull.edgeV i
  have F := h.hull.edgeV (i + 1)
  have k := E.ok _ F.snd
  have e : crossP (vtx a i) (vtx a (i + 1)) (vtx a (i + 1 + 1)) = xr (ev a i) (ev a (i + 1)) := crossP_xr2 _ _ _
  rcases k with k | k
  · rwa [e] at k
  · rcases hedge_between E (h.hull.edgeV (i + 1 + 1)) k with q | q
    · exact absurd q (h.vne i)
    · exact absurd q.symm F.ne
theorem Conv.vmem {a : List Pt} {a0 : Pt} (h : Conv a a0) (i : Nat) : vtx a i ∈ a := vtx_mem (by have := h.three; omega) i

theorem subP_add (x y z : Pt) : xr x (subP y z) = xr x y - xr x z := by unfold xr subP; grind
theorem xr_swap (u v : Pt) : xr u v = - xr v u := by unfold xr; grind

theorem Sweep.swap {a b : List Pt} {i j : Nat} {d : Pt} (h : Sweep a b i j d) : Sweep b a j i d := ⟨h.onB, h.onA, h.nextB, h.nextA⟩

/-- The first one's edge supports the second one, too. -/
theorem Sweep.side {a b : List Pt} {a0 b0 : Pt} (ca : Conv a a0) (cb : Conv b b0) {i j : Nat} {d : Pt} (h : Sweep a b i j d) (ho : 0 ≤ xr (ev a i) (ev b j)) {y : Pt} (hy : y ∈ b) : 0 ≤ xr (ev a i) (subP y (vtx b j)) :=
  xr_mid h.nextB (by have := h.nextA; omega) ho (h.onB y hy) (cb.left j hy)

theorem Sweep.stepA {a b : List Pt} {a0 b0 : Pt} (ca : Conv a a0) (cb : Conv b b0) {i j : Nat} {d : Pt} (h : Sweep a b i j d) (ho : 0 < xr (ev a i) (ev b j)) : Sweep a b (i + 1) j (ev a i) :=
  ⟨fun x hx => ca.left2 i hx, fun y hy => h.side ca cb (by omega) hy, ca.turn i, ho⟩
theorem Sweep.stepB {a b : List Pt} {a0 b0 : Pt} (ca : Conv a a0) (cb : Conv b b0) {i j : Nat} {d : Pt} (h : Sweep a b i j d) (ho : xr (ev a i) (ev b j) < 0) : Sweep a b i (j + 1) (ev b j) :=
  (h.swap.stepA cb ca (by rw [xr_swap]; omega)).swap
theorem Sweep.stepAB {a b : List Pt} {a0 b0 : Pt} (ca : Conv a a0) (cb : Conv b b0) {i j : Nat} {d : Pt} (h : Sweep a b i j d) (ho : xr (ev a i) (ev b j) = 0) : Sweep a b (i + 1) (j + 1) (ev a i) := by
  refine ⟨fun x hx => ca.left2 i hx, fun y hy => ?_, ca.turn i, xr_same h.nextB h.nextA ho (cb.turn j)⟩
  have k := h.side ca cb (by omega) hy
  have e : xr (ev a i) (subP y (vtx b (j + 1))) = xr (ev a i) (subP y (vtx b j)) - xr (ev a i) (ev b j) := by unfold ev xr subP; grind
  rw [e, ho]
  omega

def sumP (p q : Pt) : Pt := (p.1 + q.1, p.2 + q.2)
/-- All sums of a point of one list and a point of the other. -/
def sums (a b : List Pt) : List Pt := a.flatMap fun x => b.map fun y => sumP x y
theorem mem_sums {a b : List Pt} {p : Pt} : p ∈ sums a b ↔ ∃ x ∈ a, ∃ y ∈ b, p = sumP x y := by
  unfold sums
  simp only [List.mem_flatMap, List.mem_map]
  constructor
  · rintro ⟨x, hx, y, hy, rfl⟩; exact ⟨x, hx, y, hy, rfl⟩
  · rintro ⟨x, hx, y, hy, rfl⟩; exact ⟨x, hx, y, hy, rfl⟩

theorem zero_vec {d e v : Pt} (h : 0 < xr d e) (h1 : xr d v = 0) (h2 : xr e v = 0) : v = (0, 0) := by
  have k1 : xr d e * v.1 = xr d v * e.1 - xr e v * d.1 := by unfold xr; grind
  have k2 : xr d e * v.2 = xr d v * e.2 - xr e v * d.2 := by unfold xr; grind
  rw [h1, h2, Int.zero_mul, Int.zero_mul, Int.sub_zero] at k1 k2
  exact Prod.ext ((Int.mul_eq_zero.1 k1).resolve_left (by omega)) ((Int.mul_eq_zero.1 k2).resolve_left (by omega))

theorem cross_sum (a a' b x y : Pt) : crossP (sumP a b) (sumP a' b) (sumP x y) = xr (subP a' a) (subP x a) + xr (subP a' a) (subP y b) := by
  unfold crossP cross sumP xr subP; grind
theorem cross_sum2 (a a' b b' x y : Pt) : crossP (sumP a b) (sumP a' b') (sumP x y) = xr (subP a' a) (subP x a) + xr (subP a' a) (subP y b) + (xr (subP b' b) (subP x a) + xr (subP b' b) (subP y b)) := by
  unfold crossP cross sumP xr subP; grind

theorem onP_sum {a a' b x : Pt} (h : onP a a' x = true) : onP (sumP a b) (sumP a' b) (sumP x b) = true := by
  rw [onP_iff] at h ⊢
  unfold sumP
  simp only
  rw [show a'.1 + b.1 - (a.1 + b.1) = a'.1 - a.1 by omega, show a'.2 + b.2 - (a.2 + b.2) = a'.2 - a.2 by omega, show x.1 + b.1 - (a.1 + b.1) = x.1 - a.1 by omega, show x.2 + b.2 - (a.2 + b.2) = x.2 - a.2 by omega]
  exact h

theorem Sweep.edgeA {a b : List Pt} {a0 b0 : Pt} (ca : Conv a a0) (cb : Conv b b0) {i j : Nat} {d : Pt} (h : Sweep a b i j d) (ho : 0 < xr (ev a i) (ev b j)) :
    Hedge (sums a b) (sumP (vtx a i) (vtx b j)) (sumP (vtx a (i + 1)) (vtx b j)) := by
  have E := ca.hull.edgeV i
  refine ⟨fun e => E.ne ?_, fun p hp => ?_, mem_sums.2 ⟨_, ca.vmem i, _, cb.vmem j, rfl⟩, mem_sums.2 ⟨_, ca.vmem (i + 1), _, cb.vmem j, rfl⟩⟩
  · unfold sumP at e
    simp only [Prod.mk.injEq] at e
    exact Prod.ext (by omega) (by omega)
  · obtain ⟨x, hx, y, hy, rfl⟩ := mem_sums.1 hp
    have k1 := ca.left i hx
    have k2 := h.side ca cb (by omega) hy
    have e := cross_sum (vtx a i) (vtx a (i + 1)) (vtx b j) x y
    have e' : crossP (sumP (vtx a i) (vtx b j)) (sumP (vtx a (i + 1)) (vtx b j)) (sumP x y) = xr (ev a i) (subP x (vtx a i)) + xr (ev a i) (subP y (vtx b j)) := e
    by_cases g : 0 < xr (ev a i) (subP x (vtx a i)) + xr (ev a i) (subP y (vtx b j))
    · exact .inl (by rw [e']; exact g)
    · right
      have z1 : xr (ev a i) (subP x (vtx a i)) = 0 := by omega
      have z2 : xr (ev a i) (subP y (vtx b j)) = 0 := by omega
      have ox : onP (vtx a i) (vtx a (i + 1)) x = true := (E.ok x hx).resolve_left fun q => by
        rw [crossP_xr] at q
        have : 0 < xr (ev a i) (subP x (vtx a i)) := q
        omega
      have id : xr d (ev b j) * xr (ev a i) (subP y (vtx b j)) = xr (ev a i) (ev b j) * xr d (subP y (vtx b j)) + xr d (ev a i) * xr (ev b j) (subP y (vtx b j)) := by unfold xr; grind
      rw [z2, Int.mul_zero] at id
      have m1 := Int.mul_nonneg (Int.le_of_lt ho) (h.onB y hy)
      have m2 := Int.mul_nonneg (Int.le_of_lt h.nextA) (cb.left j hy)
      have y1 := (Int.mul_eq_zero.1 (show xr (ev a i) (ev b j) * xr d (subP y (vtx b j)) = 0 by omega)).resolve_left (by omega)
      have y2 := (Int.mul_eq_zero.1 (show xr d (ev a i) * xr (ev b j) (subP y (vtx b j)) = 0 by omega)).resolve_left (by have := h.nextA; omega)
      have hv := zero_vec h.nextB y1 y2
      have hy' : y = vtx b j := by
        unfold subP at hv
        simp only [Prod.mk.injEq] at hv
        exact Prod.ext (by omega) (by omega)
      rw [hy']
      exact onP_sum ox

theorem sumP_comm (p q : Pt) : sumP p q = sumP q p := by unfold sumP; simp only [Prod.mk.injEq]; omega
theorem Hedge.iff {P Q : List Pt} (h : ∀ p, p ∈ P ↔ p ∈ Q) {a b : Pt} (k : Hedge P a b) : Hedge Q a b := k.mem fun p => (h p).symm
theorem sums_comm (a b : List Pt) (p : Pt) : p ∈ sums a b ↔ p ∈ sums b a := by
  rw [mem_sums, mem_sums]
  constructor
  · rintro ⟨x, hx, y, hy, rfl⟩; exact ⟨y, hy, x, hx, sumP_comm _ _⟩
  · rintro ⟨x, hx, y, hy, rfl⟩; exact ⟨y, hy, x, hx, sumP_comm _ _⟩
theorem Sweep.edgeB {a b : List Pt} {a0 b0 : Pt} (ca : Conv a a0) (cb : Conv b b0) {i j : Nat} {d : Pt} (h : Sweep a b i j d) (ho : xr (ev a i) (ev b j) < 0) :
    Hedge (sums a b) (sumP (vtx a i) (vtx b j)) (sumP (vtx a i) (vtx b (j + 1))) := by
  have k := (h.swap.edgeA cb ca (by rw [xr_swap]; omega)).iff (fun p => sums_comm b a p)
  rwa [sumP_comm, sumP_comm (vtx b (j + 1))] at k

theorem btw_sum {u p v q : Int} (h1 : btw u p) (h2 : btw v q) (hs : (0 ≤ p ∧ 0 ≤ q) ∨ (p ≤ 0 ∧ q ≤ 0)) : btw (u + v) (p + q) := by
  unfold btw at *
  omega
theorem same_sign {k m p q : Int} (hk : 0 < k) (hm : 0 < m) (h : k * p = m * q) : (0 ≤ p ∧ 0 ≤ q) ∨ (p ≤ 0 ∧ q ≤ 0) := by
  rcases Int.le_total 0 q with g | g
  · exact .inl ⟨nonneg_of_mul hk h (Int.mul_nonneg (by omega) g), g⟩
  · refine .inr ⟨?_, g⟩
    have : 0 ≤ -p := nonneg_of_mul hk (s := m * -q) (by rw [Int.mul_neg, Int.mul_neg, h]) (Int.mul_nonneg (by omega) (by omega))
    omega

theorem Sweep.edgeAB {a b : List Pt} {a0 b0 : Pt} (ca : Conv a a0) (cb : Conv b b0) {i j : Nat} {d : Pt} (h : Sweep a b i j d) (ho : xr (ev a i) (ev b j) = 0) :
    Hedge (sums a b) (sumP (vtx a i) (vtx b j)) (sumP (vtx a (i + 1)) (vtx b (j + 1))) := by
  have E := ca.hull.edgeV i
  have F := cb.hull.edgeV j
  have nA := h.nextA
  have nB := h.nextB
  have p1 : xr d (ev b j) * (ev a i).1 = xr d (ev a i) * (ev b j).1 := by
    have : xr d (ev b j) * (ev a i).1 = xr d (ev a i) * (ev b j).1 + xr (ev a i) (ev b j) * d.1 := by unfold xr; grind
    rw [ho, Int.zero_mul, Int.add_zero] at this; exact this
  have p2 : xr d (ev b j) * (ev a i).2 = xr d (ev a i) * (ev b j).2 := by
    have : xr d (ev b j) * (ev a i).2 = xr d (ev a i) * (ev b j).2 + xr (ev a i) (ev b j) * d.2 := by unfold xr; grind
    rw [ho, Int.zero_mul, Int.add_zero] at this; exact this
  have s1 := same_sign nB nA p1
  have s2 := same_sign nB nA p2
  have ea : ev a i = subP (vtx a (i + 1)) (vtx a i) := rfl
  have eb : ev b j = subP (vtx b (j + 1)) (vtx b j) := rfl
  have hmul : ∀ v, xr d (ev b j) * xr (ev a i) v = xr d (ev a i) * xr (ev b j) v := fun v => by
    have : xr d (ev b j) * xr (ev a i) v = xr d (ev a i) * xr (ev b j) v + xr (ev a i) (ev b j) * xr d v := by unfold xr; grind
    rw [ho, Int.zero_mul, Int.add_zero] at this; exact this
  refine ⟨fun e => ?_, fun p hp => ?_, mem_sums.2 ⟨_, ca.vmem i, _, cb.vmem j, rfl⟩, mem_sums.2 ⟨_, ca.vmem (i + 1), _, cb.vmem (j + 1), rfl⟩⟩
  · have z : ∀ (u v u' v' : Pt), sumP u v = sumP u' v' → subP v' v = (-(subP u' u).1, -(subP u' u).2) := fun u v u' v' e => by
      unfold sumP at e
      unfold subP
      simp only [Prod.mk.injEq] at e ⊢
      omega
    have := z _ _ _ _ e
    rw [← ea, ← eb] at this
    rw [this] at nB
    have : xr d (-(ev a i).1, -(ev a i).2) = - xr d (ev a i) := by unfold xr; grind
    omega
  · obtain ⟨x, hx, y, hy, rfl⟩ := mem_sums.1 hp
    have k1 := ca.left i hx
    have k2 := h.side ca cb (by omega) hy
    have k3 := cb.left j hy
    have k4 := h.swap.side cb ca (by rw [xr_swap]; omega) hx
    have e' : crossP (sumP (vtx a i) (vtx b j)) (sumP (vtx a (i + 1)) (vtx b (j + 1))) (sumP x y) = xr (ev a i) (subP x (vtx a i)) + xr (ev a i) (subP y (vtx b j)) + (xr (ev b j) (subP x (vtx a i)) + xr (ev b j) (subP y (vtx b j))) := cross_sum2 _ _ _ _ _ _
    by_cases g : 0 < crossP (sumP (vtx a i) (vtx b j)) (sumP (vtx a (i + 1)) (vtx b (j + 1))) (sumP x y)
    · exact .inl g
    · right
      have z1 : xr (ev a i) (subP x (vtx a i)) = 0 := by omega
      have z2 : xr (ev b j) (subP y (vtx b j)) = 0 := by omega
      have ox : onP (vtx a i) (vtx a (i + 1)) x = true := (E.ok x hx).resolve_left fun q => by
        rw [crossP_xr] at q
        have : 0 < xr (ev a i) (subP x (vtx a i)) := q
        omega
      have oy : onP (vtx b j) (vtx b (j + 1)) y = true := (F.ok y hy).resolve_left fun q => by
        rw [crossP_xr] at q
        have : 0 < xr (ev b j) (subP y (vtx b j)) := q
        omega
      have g0 : crossP (sumP (vtx a i) (vtx b j)) (sumP (vtx a (i + 1)) (vtx b (j + 1))) (sumP x y) = 0 := by omega
      rw [onP_iff] at ox oy ⊢
      obtain ⟨_, o1, o2⟩ := ox
      obtain ⟨_, o3, o4⟩ := oy
      refine ⟨g0, ?_, ?_⟩
      · have := btw_sum o1 o3 s1
        unfold sumP
        simp only
        rw [show (vtx a (i + 1)).1 + (vtx b (j + 1)).1 - ((vtx a i).1 + (vtx b j).1) = (vtx a (i + 1)).1 - (vtx a i).1 + ((vtx b (j + 1)).1 - (vtx b j).1) by omega, show x.1 + y.1 - ((vtx a i).1 + (vtx b j).1) = x.1 - (vtx a i).1 + (y.1 - (vtx b j).1) by omega]
        exact this
      · have := btw_sum o2 o4 s2
        unfold sumP
        simp only
        rw [show (vtx a (i + 1)).2 + (vtx b (j + 1)).2 - ((vtx a i).2 + (vtx b j).2) = (vtx a (i + 1)).2 - (vtx a i).2 + ((vtx b (j + 1)).2 - (vtx b j).2) by omega, show x.2 + y.2 - ((vtx a i).2 + (vtx b j).2) = x.2 - (vtx a i).2 + (y.2 - (vtx b j).2) by omega]
        exact this

end Go.Proofs.Ytlmdmgbhfoehgaa

/- Shape: the merge of two convex chains is the hull of all sums. -/
namespace Go.Proofs.Ytlmdmgbhfoehgaa

/-- How far the merge has come: one step. -/
def mstep (a b : List Pt) (s : Nat × Nat) : Nat × Nat :=
  if 0 < xr (ev a s.1) (ev b s.2) then (s.1 + 1, s.2) else if xr (ev a s.1) (ev b s.2) < 0 then (s.1, s.2 + 1) else (s.1 + 1, s.2 + 1)
def mst (a b : List Pt) : Nat → Nat × Nat
  | 0 => (0, 0)
  | k + 1 => mstep a b (mst a b k)
def mpt (a b : List Pt) (k : Nat) : Pt := sumP (vtx a (mst a b k).1) (vtx b (mst a b k).2)

theorem big_x (l : List Pt) (o : Pt) : ∃ N : Int, 0 < N ∧ ∀ x ∈ l, -N < (subP x o).1 := by
  induction l with
  | nil => exact ⟨1, by omega, by simp⟩
  | cons y l ih =>
    obtain ⟨N, h0, h⟩ := ih
    refine ⟨N + (if (subP y o).1 < 0 then -(subP y o).1 else 0) + 1, by split <;> omega, fun x hx => ?_⟩
    rcases List.mem_cons.1 hx with rfl | hx
    · split <;> omega
    · have := h x hx
      split <;> omega

theorem low_side {l : List Pt} {o : Pt} (h : ∀ p ∈ l, leP o p) {N : Int} (h0 : 0 < N) (hN : ∀ x ∈ l, -N < (subP x o).1) {x : Pt} (hx : x ∈ l) : 0 ≤ xr (N, -1) (subP x o) ∧ (x ≠ o → 0 < xr (N, -1) (subP x o)) := by
  have e : xr (N, -1) (subP x o) = N * (subP x o).2 + (subP x o).1 := by unfold xr; grind
  have k := hN x hx
  rcases h x hx with q | q
  · subst q
    have z : subP o o = (0, 0) := by unfold subP; simp
    refine ⟨by rw [e, z]; simp, fun g => absurd rfl g⟩
  · have pos : 0 < xr (N, -1) (subP x o) := by
      rw [e]
      have hs : 0 < (subP x o).2 ∨ ((subP x o).2 = 0 ∧ 0 < (subP x o).1) := by
        unfold ltP at q; unfold subP; simp only; omega
      rcases hs with hs | ⟨hs1, hs2⟩
      · have : N * 1 ≤ N * (subP x o).2 := Int.mul_le_mul_of_nonneg_left (by omega) (by omega)
        omega
      · rw [hs1]; simp; omega
    exact ⟨by omega, fun _ => pos⟩

theorem sweep_start {a b : List Pt} {a0 b0 : Pt} (ca : Conv a a0) (cb : Conv b b0) : ∃ d, Sweep a b 0 0 d := by
  obtain ⟨N, n0, hN⟩ := big_x a a0
  obtain ⟨M, m0, hM⟩ := big_x b b0
  have hNa : ∀ x ∈ a, -(N + M) < (subP x a0).1 := fun x hx => by have := hN x hx; omega
  have hNb : ∀ x ∈ b, -(N + M) < (subP x b0).1 := fun x hx => by have := hM x hx; omega
  have A := fun x hx => low_side ca.low (N := N + M) (by omega) hNa (x := x) hx
  have B := fun x hx => low_side cb.low (N := N + M) (by omega) hNb (x := x) hx
  have va := ca.hull.vtx0
  have vb := cb.hull.vtx0
  refine ⟨(N + M, -1), ⟨fun x hx => by rw [va]; exact (A x hx).1, fun x hx => by rw [vb]; exact (B x hx).1, ?_, ?_⟩⟩
  · have := (A _ (ca.vmem 1)).2 (fun e => (ca.hull.edgeV 0).ne (by rw [va]; exact e.symm))
    show 0 < xr (N + M, -1) (subP (vtx a 1) (vtx a 0))
    rw [va]; exact this
  · have := (B _ (cb.vmem 1)).2 (fun e => (cb.hull.edgeV 0).ne (by rw [vb]; exact e.symm))
    show 0 < xr (N + M, -1) (subP (vtx b 1) (vtx b 0))
    rw [vb]; exact this

theorem sweep_at {a b : List Pt} {a0 b0 : Pt} (ca : Conv a a0) (cb : Conv b b0) : ∀ k, ∃ d, Sweep a b (mst a b k).1 (mst a b k).2 d
  | 0 => sweep_start ca cb
  | k + 1 => by
    obtain ⟨d, h⟩ := sweep_at ca cb k
    show ∃ d, Sweep a b (mstep a b (mst a b k)).1 (mstep a b (mst a b k)).2 d
    unfold mstep
    by_cases g : 0 < xr (ev a (mst a b k).1) (ev b (mst a b k).2)
    · rw [if_pos g]; exact ⟨_, h.stepA ca cb g⟩
    · rw [if_neg g]
      by_cases g2 : xr (ev a (mst a b k).1) (ev b (mst a b k).2) < 0
      · rw [if_pos g2]; exact ⟨_, h.stepB ca cb g2⟩
      · rw [if_neg g2]; exact ⟨_, h.stepAB ca cb (by omega)⟩

theorem merge_edge {a b : List Pt} {a0 b0 : Pt} (ca : Conv a a0) (cb : Conv b b0) (k : Nat) : Hedge (sums a b) (mpt a b k) (mpt a b (k + 1)) := by
  obtain ⟨d, h⟩ := sweep_at ca cb k
  show Hedge (sums a b) (mpt a b k) (sumP (vtx a (mstep a b (mst a b k)).1) (vtx b (mstep a b (mst a b k)).2))
  unfold mstep mpt
  by_cases g : 0 < xr (ev a (mst a b k).1) (ev b (mst a b k).2)
  · rw [if_pos g]; exact h.edgeA ca cb g
  · rw [if_neg g]
    by_cases g2 : xr (ev a (mst a b k).1) (ev b (mst a b k).2) < 0
    · rw [if_pos g2]; exact h.edgeB ca cb g2
    · rw [if_neg g2]; exact h.edgeAB ca cb (by omega)

theorem merge_hull {a b K : List Pt} {a0 b0 : Pt} (ca : Conv a a0) (cb : Conv b b0) (h : Hull (sums a b) K (sumP a0 b0)) : ∀ k, mpt a b k = vtx K k
  | 0 => by
    rw [h.vtx0]
    show sumP (vtx a 0) (vtx b 0) = _
    rw [ca.hull.vtx0, cb.hull.vtx0]
  | k + 1 => by
    have e := merge_edge ca cb k
    rw [merge_hull ca cb h k] at e
    exact hedge_next e (h.edgeV k)

theorem sumP_low {a b : List Pt} {a0 b0 : Pt} (ca : Conv a a0) (cb : Conv b b0) : ∀ p ∈ sums a b, leP (sumP a0 b0) p := fun p hp => by
  obtain ⟨x, hx, y, hy, rfl⟩ := mem_sums.1 hp
  have h1 := ca.low x hx
  have h2 := cb.low y hy
  unfold leP ltP sumP at *
  rcases h1 with rfl | h1
  · rcases h2 with rfl | h2
    · exact .inl rfl
    · right; simp only; omega
  · rcases h2 with rfl | h2
    · right; simp only; omega
    · right; simp only; omega
/-- Only the two lowest points make the lowest sum. -/
theorem sumP_first {a b : List Pt} {a0 b0 x y : Pt} (ca : Conv a a0) (cb : Conv b b0) (hx : x ∈ a) (hy : y ∈ b) (e : sumP x y = sumP a0 b0) : x = a0 ∧ y = b0 := by
  have h1 := ca.low x hx
  have h2 := cb.low y hy
  unfold leP ltP at h1 h2
  unfold sumP at e
  simp only [Prod.mk.injEq] at e
  rcases h1 with h1 | h1
  · rcases h2 with h2 | h2
    · exact ⟨h1.symm, h2.symm⟩
    · rw [← h1] at e; omega
  · rcases h2 with h2 | h2
    · rw [← h2] at e; omega
    · omega

end Go.Proofs.Ytlmdmgbhfoehgaa

/- Shape: where the merge of two convex chains ends. -/
namespace Go.Proofs.Ytlmdmgbhfoehgaa

/-- Vectors of the same direction. -/
def Dir (u v : Pt) : Prop := ∃ p q : Int, 0 < p ∧ 0 < q ∧ p * u.1 = q * v.1 ∧ p * u.2 = q * v.2
theorem Dir.xr {u v : Pt} (h : Dir u v) : ∃ p q : Int, 0 < p ∧ 0 < q ∧ ∀ w, p * xr u w = q * xr v w := by
  obtain ⟨p, q, hp, hq, h1, h2⟩ := h
  refine ⟨p, q, hp, hq, fun w => ?_⟩
  have e : p * Go.Proofs.Ytlmdmgbhfoehgaa.xr u w - q * Go.Proofs.Ytlmdmgbhfoehgaa.xr v w = (p * u.1 - q * v.1) * w.2 - (p * u.2 - q * v.2) * w.1 := by unfold Go.Proofs.Ytlmdmgbhfoehgaa.xr; grind
  rw [h1, h2, Int.sub_self, Int.sub_self, Int.zero_mul, Int.zero_mul] at e
  omega
theorem Dir.two {u u' v : Pt} (h : Dir u v) (k : Dir u' v) : Dir u u' := by
  obtain ⟨p, q, hp, hq, h1, h2⟩ := h
  obtain ⟨r, s, hr, hs, k1, k2⟩ := k
  refine ⟨s * p, q * r, Int.mul_pos hs hp, Int.mul_pos hq hr, ?_, ?_⟩
  · rw [Int.mul_assoc, h1, Int.mul_assoc, k1]; grind
  · rw [Int.mul_assoc, h2, Int.mul_assoc, k2]; grind

/-- No two edges of a hull have the same direction. -/
theorem edges_dir {K : List Pt} {s0 : Pt} (c : Conv K s0) {k k' : Nat} (hk : k < k') (hk' : k' < K.length) (hd : Dir (ev K k) (ev K k')) : False := by
  have E := c.hull.edgeV k
  have F := c.hull.edgeV k'
  obtain ⟨p, q, hp, hq, hx⟩ := hd.xr
  have e1 : crossP (vtx K k) (vtx K (k + 1)) (vtx K k') = xr (ev K k) (subP (vtx K k') (vtx K k)) := crossP_xr _ _ _
  have e2 : crossP (vtx K k') (vtx K (k' + 1)) (vtx K k) = xr (ev K k') (subP (vtx K k) (vtx K k')) := crossP_xr _ _ _
  have n1 := (E.ok _ (c.vmem k')).nonneg
  have n2 := (F.ok _ (c.vmem k)).nonneg
  have n3 : 0 ≤ xr (ev K k) (subP (vtx K k) (vtx K k')) := nonneg_of_mul hp (hx _) (Int.mul_nonneg (by omega) (by rw [← e2]; exact n2))
  have e3 : xr (ev K k) (subP (vtx K k) (vtx K k')) = - xr (ev K k) (subP (vtx K k') (vtx K k)) := by unfold xr subP; grind
  have on : onP (vtx K k) (vtx K (k + 1)) (vtx K k') = true := (E.ok _ (c.vmem k')).resolve_left (by omega)
  rcases hedge_between E F on with g | g
  · rw [vtx_lt hk', vtx_lt (by omega)] at g
    have := hull_inj c.hull hk' (by omega) g
    omega
  · rw [vtx_lt hk', vtx_lt (by omega)] at g
    have := hull_inj c.hull hk' (by omega) g
    subst this
    have t := c.turn k
    have h := hx (ev K (k + 1))
    have z : xr (ev K (k + 1)) (ev K (k + 1)) = 0 := by unfold xr; grind
    rw [z, Int.mul_zero] at h
    have := (Int.mul_eq_zero.1 h).resolve_left (by omega)
    omega

/-- A step that goes on along the first one. -/
def goesA (a b : List Pt) (k : Nat) : Prop := 0 ≤ xr (ev a (mst a b k).1) (ev b (mst a b k).2)
theorem mst_A {a b : List Pt} {k : Nat} (h : goesA a b k) : (mst a b (k + 1)).1 = (mst a b k).1 + 1 := by
  unfold goesA at h
  show (mstep a b (mst a b k)).1 = _
  unfold mstep
  by_cases g : 0 < xr (ev a (mst a b k).1) (ev b (mst a b k).2)
  · rw [if_pos g]
  · rw [if_neg g, if_neg (by omega)]
theorem mst_notA {a b : List Pt} {k : Nat} (h : ¬ goesA a b k) : mst a b (k + 1) = ((mst a b k).1, (mst a b k).2 + 1) := by
  unfold goesA at h
  show mstep a b (mst a b k) = _
  unfold mstep
  rw [if_neg (by omega), if_pos (by omega)]

theorem passed {a b : List Pt} (v : Nat) : ∀ k, v < (mst a b k).1 → ∃ k', k' < k ∧ (mst a b k').1 = v ∧ goesA a b k'
  | 0, h => by have h' : v < 0 := h; omega
  | k + 1, h => by
    by_cases g : goesA a b k
    · rw [mst_A g] at h
      by_cases e : (mst a b k).1 = v
      · exact ⟨k, by omega, e, g⟩
      · obtain ⟨k', h1, h2⟩ := passed (a := a) (b := b) v k (by omega)
        exact ⟨k', by omega, h2⟩
    · rw [mst_notA g] at h
      obtain ⟨k', h1, h2⟩ := passed (a := a) (b := b) v k h
      exact ⟨k', by omega, h2⟩

theorem dir_A {a b K : List Pt} {a0 b0 : Pt} (ca : Conv a a0) (cb : Conv b b0) (h : Hull (sums a b) K (sumP a0 b0)) {k : Nat} (g : goesA a b k) : Dir (ev K k) (ev a (mst a b k).1) := by
  obtain ⟨d, sw⟩ := sweep_at ca cb k
  have e1 := merge_hull ca cb h k
  have e2 := merge_hull ca cb h (k + 1)
  have nA := sw.nextA
  have nB := sw.nextB
  unfold goesA at g
  have hev : ev K k = subP (mpt a b (k + 1)) (mpt a b k) := by unfold ev; rw [← e1, ← e2]
  have e3 : mpt a b (k + 1) = sumP (vtx a (mstep a b (mst a b k)).1) (vtx b (mstep a b (mst a b k)).2) := rfl
  rw [hev, e3]
  unfold mstep mpt
  by_cases q : 0 < xr (ev a (mst a b k).1) (ev b (mst a b k).2)
  · rw [if_pos q]
    refine ⟨1, 1, by omega, by omega, ?_, ?_⟩
    · unfold ev subP sumP; simp only; omega
    · unfold ev subP sumP; simp only; omega
  · rw [if_neg q, if_neg (by omega)]
    have ho : xr (ev a (mst a b k).1) (ev b (mst a b k).2) = 0 := by omega
    generalize (mst a b k).1 = i at *
    generalize (mst a b k).2 = j at *
    have p1 : xr d (ev a i) * (ev b j).1 = xr d (ev b j) * (ev a i).1 := by
      have : xr d (ev b j) * (ev a i).1 = xr d (ev a i) * (ev b j).1 + xr (ev a i) (ev b j) * d.1 := by unfold xr; grind
      rw [ho, Int.zero_mul, Int.add_zero] at this; exact this.symm
    have p2 : xr d (ev a i) * (ev b j).2 = xr d (ev b j) * (ev a i).2 := by
      have : xr d (ev b j) * (ev a i).2 = xr d (ev a i) * (ev b j).2 + xr (ev a i) (ev b j) * d.2 := by unfold xr; grind
      rw [ho, Int.zero_mul, Int.add_zero] at this; exact this.symm
    refine ⟨xr d (ev a i), xr d (ev a i) + xr d (ev b j), nA, by omega, ?_, ?_⟩
    · have e : (subP (sumP (vtx a (i + 1)) (vtx b (j + 1))) (sumP (vtx a i) (vtx b j))).1 = (ev a i).1 + (ev b j).1 := by unfold ev subP sumP; simp only; omega
      rw [e, Int.mul_add, p1, Int.add_mul]
    · have e : (subP (sumP (vtx a (i + 1)) (vtx b (j + 1))) (sumP (vtx a i) (vtx b j))).2 = (ev a i).2 + (ev b j).2 := by unfold ev subP sumP; simp only; omega
      rw [e, Int.mul_add, p2, Int.add_mul]

theorem once_A {a b K : List Pt} {a0 b0 : Pt} (ca : Conv a a0) (cb : Conv b b0) (h : Hull (sums a b) K (sumP a0 b0)) (cK : Conv K (sumP a0 b0)) {k : Nat} (hk : k ≤ K.length) : (mst a b k).1 ≤ a.length := by
  have three := ca.three
  rcases Nat.lt_or_ge a.length (mst a b k).1 with g | g
  · exfalso
    obtain ⟨k1, l1, v1, g1⟩ := passed (a := a) (b := b) a.length k g
    obtain ⟨k0, l0, v0, g0⟩ := passed (a := a) (b := b) 0 k1 (by omega)
    have d1 := dir_A ca cb h g1
    have d0 := dir_A ca cb h g0
    rw [v1] at d1
    rw [v0] at d0
    have e : ev a a.length = ev a 0 := by
      unfold ev
      have x1 := vtx_add a 1
      have x0 := vtx_add a 0
      rw [Nat.zero_add] at x0
      rw [Nat.add_comm] at x1
      rw [x1, x0]
    rw [e] at d1
    exact edges_dir cK l0 (by omega) (d0.two d1)
  · exact g

theorem mst_swap {a b : List Pt} : ∀ k, mst b a k = ((mst a b k).2, (mst a b k).1)
  | 0 => rfl
  | k + 1 => by
    show mstep b a (mst b a k) = ((mstep a b (mst a b k)).2, (mstep a b (mst a b k)).1)
    rw [mst_swap k]
    unfold mstep
    simp only
    rw [xr_swap (ev b _) (ev a _)]
    generalize xr (ev a (mst a b k).1) (ev b (mst a b k).2) = o
    by_cases g : 0 < o
    · rw [if_neg (by omega), if_pos (by omega), if_pos g]
    · rw [if_neg g]
      by_cases g2 : o < 0
      · rw [if_pos (by omega), if_pos g2]
      · rw [if_neg (by omega), if_neg (by omega), if_neg g2]

theorem hull_swap {a b K : List Pt} {a0 b0 : Pt} (h : Hull (sums a b) K (sumP a0 b0)) : Hull (sums b a) K (sumP b0 a0) := by
  rw [sumP_comm b0 a0]
  exact h.mem fun p => sums_comm b a p

theorem not_zero_A {a b : List Pt} {a0 b0 : Pt} (ca : Conv a a0) (cb : Conv b b0) {L : Nat} (h0 : 0 < L) (hz : (mst a b L).1 = 0) (hb : vtx b (mst a b L).2 = b0) : False := by
  have all : ∀ k, k ≤ L → (mst a b k).1 = 0 → (mst a b k).2 = k ∧ (0 < k → xr (ev a 0) (subP (vtx b k) b0) < 0) := by
    intro k
    induction k with
    | zero => intro _ _; exact ⟨rfl, fun h => by omega⟩
    | succ k ih =>
      intro hk hz
      by_cases g : goesA a b k
      · rw [mst_A g] at hz; omega
      · have e := mst_notA g
        rw [e] at hz ⊢
        have hz' : (mst a b k).1 = 0 := hz
        obtain ⟨h1, h2⟩ := ih (by omega) hz'
        refine ⟨by show (mst a b k).2 + 1 = k + 1; rw [h1], fun _ => ?_⟩
        unfold goesA at g
        rw [hz', h1] at g
        have e2 : xr (ev a 0) (subP (vtx b (k + 1)) b0) = xr (ev a 0) (ev b k) + xr (ev a 0) (subP (vtx b k) b0) := by unfold ev xr subP; grind
        rcases Nat.eq_zero_or_pos k with q | q
        · subst q
          have e3 : subP (vtx b 0) b0 = (0, 0) := by rw [cb.hull.vtx0]; unfold subP; simp
          rw [e3] at e2
          have : xr (ev a 0) (0, 0) = 0 := by unfold xr; simp
          omega
        · have := h2 q
          omega
  have down : ∀ k, (mst a b k).1 ≤ (mst a b (k + 1)).1 := fun k => by
    by_cases g : goesA a b k
    · rw [mst_A g]; omega
    · rw [mst_notA g]; exact Nat.le_refl _
  obtain ⟨h1, h2⟩ := all L (Nat.le_refl _) hz
  have := h2 h0
  rw [h1] at hb
  rw [hb] at this
  have e3 : subP b0 b0 = (0, 0) := by unfold subP; simp
  rw [e3] at this
  unfold xr at this
  simp at this

theorem vtx_first {a : List Pt} {a0 : Pt} (c : Conv a a0) {i : Nat} (h : vtx a i = a0) : i % a.length = 0 := by
  have three := c.three
  have e : gt a (i % a.length) = gt a 0 := by rw [c.hull.first]; exact h
  exact hull_inj c.hull (Nat.mod_lt _ (by omega)) (by omega) e

/-- THE MERGE ENDS WHERE THE HULL OF ALL SUMS ENDS. -/
theorem merge_end {a b K : List Pt} {a0 b0 : Pt} (ca : Conv a a0) (cb : Conv b b0) (h : Hull (sums a b) K (sumP a0 b0)) (cK : Conv K (sumP a0 b0)) :
    mst a b K.length = (a.length, b.length) ∧ (∀ k, k ≤ K.length → (mst a b k).1 ≤ a.length ∧ (mst a b k).2 ≤ b.length) ∧ ∀ k, k < K.length → (mst a b k).1 < a.length ∨ (mst a b k).2 < b.length := by
  have t1 := ca.three
  have t2 := cb.three
  have t3 := cK.three
  have le : ∀ k, k ≤ K.length → (mst a b k).1 ≤ a.length ∧ (mst a b k).2 ≤ b.length := fun k hk => by
    refine ⟨once_A ca cb h cK hk, ?_⟩
    have cK' : Conv K (sumP b0 a0) := by rw [sumP_comm]; exact cK
    have := once_A cb ca (hull_swap h) cK' hk
    rwa [mst_swap] at this
  have pt : ∀ k, mpt a b k = sumP a0 b0 → (mst a b k).1 % a.length = 0 ∧ (mst a b k).2 % b.length = 0 ∧ vtx a (mst a b k).1 = a0 ∧ vtx b (mst a b k).2 = b0 := fun k e => by
    obtain ⟨e1, e2⟩ := sumP_first ca cb (ca.vmem _) (cb.vmem _) e
    exact ⟨vtx_first ca e1, vtx_first cb e2, e1, e2⟩
  have eL : mpt a b K.length = sumP a0 b0 := by
    rw [merge_hull ca cb h]
    have := vtx_add K 0
    rw [Nat.zero_add] at this
    rw [this, h.vtx0]
  obtain ⟨m1, m2, v1, v2⟩ := pt _ eL
  obtain ⟨l1, l2⟩ := le K.length (Nat.le_refl _)
  have z : ∀ i n : Nat, i ≤ n → i % n = 0 → i ≠ 0 → i = n := fun i n hi hm h0 => by
    rcases Nat.lt_or_eq_of_le hi with g | g
    · rw [Nat.mod_eq_of_lt g] at hm; omega
    · exact g
  have f1 : (mst a b K.length).1 = a.length := z _ _ l1 m1 fun e => not_zero_A ca cb (by omega) e v2
  have f2 : (mst a b K.length).2 = b.length := z _ _ l2 m2 fun e => not_zero_A cb ca (L := K.length) (by omega) (by rw [mst_swap]; exact e) (by rw [mst_swap]; exact v1)
  refine ⟨Prod.ext f1 f2, le, fun k hk => ?_⟩
  obtain ⟨q1, q2⟩ := le k (by omega)
  rcases Nat.lt_or_ge (mst a b k).1 a.length with g | g
  · exact .inl g
  · rcases Nat.lt_or_ge (mst a b k).2 b.length with g2 | g2
    · exact .inr g2
    · exfalso
      have e1 : (mst a b k).1 = a.length := by omega
      have e2 : (mst a b k).2 = b.length := by omega
      rcases Nat.eq_zero_or_pos k with q | q
      · subst q
        have : (0 : Nat) = a.length := e1
        omega
      · apply h.once k q hk
        have w := merge_hull ca cb h k
        rw [vtx_lt hk] at w
        rw [← w]
        unfold mpt
        have x0 := vtx_add a 0
        have y0 := vtx_add b 0
        rw [Nat.zero_add] at x0 y0
        rw [e1, e2, x0, y0, ca.hull.vtx0, cb.hull.vtx0]

end Go.Proofs.Ytlmdmgbhfoehgaa

/- Shape: sums of convex polygons are convex polygons. -/
namespace Go.Proofs.Ytlmdmgbhfoehgaa

theorem leP_leB_trans (a b c : Pt) (h : leB a b = true) (k : leB b c = true) : leB a c = true := leB_iff.2 (leP_trans (leB_iff.1 h) (leB_iff.1 k))
theorem leB_total (a b : Pt) : (leB a b || leB b a) = true := by
  rw [Bool.or_eq_true, leB_iff, leB_iff]
  rcases leP_total a b with h | h
  · exact .inl h
  · exact .inr (.inr h)
theorem sort_of (l : List Pt) : ∃ s : List Pt, s.Perm l ∧ s.Pairwise leP :=
  ⟨l.mergeSort leB, List.mergeSort_perm l leB, (List.pairwise_mergeSort leP_leB_trans leB_total l).imp fun h => leB_iff.1 h⟩

/-- Points that do not lie on one line have a hull. -/
theorem hull_exists {P : List Pt} {k0 a b c : Pt} (hlow : ∀ p ∈ P, leP k0 p) (hk : k0 ∈ P) (ha : a ∈ P) (hb : b ∈ P) (hc : c ∈ P) (hn : crossP a b c ≠ 0) : ∃ K, Hull P K k0 ∧ Conv K k0 := by
  obtain ⟨s, hp, hs⟩ := sort_of P
  have hl : 0 < P.length := List.length_pos_of_mem ha
  obtain ⟨h1, h2⟩ := hull_both hl hp hs
  have hf : flatTo P P.length = false := by
    cases e : flatTo P P.length
    · rfl
    · exact absurd (((flatTo_iff hl).1 e).all ha hb hc) hn
  have h := h2 hf
  have e : lowTo P P.length = k0 := leP_anti (low_le hk) (hlow _ (lowTo_mem hl _ (Nat.le_refl _)))
  rw [e] at h
  refine ⟨hullL s, h, hull_self h, ?_, fun p hp => hlow p (hull_sub h hp)⟩
  rcases Nat.lt_or_ge (hullL s).length 3 with g | g
  · rw [h1.2 g] at hf; cases hf
  · exact g

theorem conv_sums {a b : List Pt} {a0 b0 : Pt} (ca : Conv a a0) (cb : Conv b b0) : ∃ K, Hull (sums a b) K (sumP a0 b0) ∧ Conv K (sumP a0 b0) := by
  have m0 := cb.vmem 0
  have e0 : a0 ∈ a := by have := ca.vmem 0; rwa [ca.hull.vtx0] at this
  have f0 : b0 ∈ b := by rwa [cb.hull.vtx0] at m0
  refine hull_exists (sumP_low ca cb) (mem_sums.2 ⟨_, e0, _, f0, rfl⟩) (mem_sums.2 ⟨_, ca.vmem 0, _, f0, rfl⟩) (mem_sums.2 ⟨_, ca.vmem 1, _, f0, rfl⟩) (mem_sums.2 ⟨_, ca.vmem 2, _, f0, rfl⟩) ?_
  have t := ca.turn 0
  have e : crossP (sumP (vtx a 0) b0) (sumP (vtx a 1) b0) (sumP (vtx a 2) b0) = xr (ev a 0) (ev a (0 + 1)) := by unfold crossP cross ev xr subP sumP; simp only; grind
  omega

/-- The merge, as a list. -/
def merged (a b : List Pt) (L : Nat) : List Pt := (List.range L).map (mpt a b)
theorem merged_hull {a b K : List Pt} {a0 b0 : Pt} (ca : Conv a a0) (cb : Conv b b0) (h : Hull (sums a b) K (sumP a0 b0)) : merged a b K.length = K := by
  refine List.ext_getElem (by simp [merged]) fun i h1 h2 => ?_
  simp only [merged, List.getElem_map, List.getElem_range]
  rw [merge_hull ca cb h, vtx_lt h2, gt_of (List.getElem?_eq_getElem h2)]

/-- A convex polygon in normal form, as the reference finds it, is one here. -/
theorem sums_assoc (a b c : List Pt) (p : Pt) : p ∈ sums (sums a b) c ↔ p ∈ sums a (sums b c) := by
  simp only [mem_sums]
  constructor
  · rintro ⟨x, ⟨u, hu, v, hv, rfl⟩, y, hy, rfl⟩
    refine ⟨u, hu, sumP v y, ⟨v, hv, y, hy, rfl⟩, ?_⟩
    unfold sumP; simp only [Prod.mk.injEq]; omega
  · rintro ⟨x, hx, y, ⟨u, hu, v, hv, rfl⟩, rfl⟩
    refine ⟨sumP x u, ⟨x, hx, u, hu, rfl⟩, v, hv, ?_⟩
    unfold sumP; simp only [Prod.mk.injEq]; omega

end Go.Proofs.Ytlmdmgbhfoehgaa

/- Shape: a polygon added to itself; negatives. -/
namespace Go.Proofs.Ytlmdmgbhfoehgaa

theorem xr_self (u : Pt) : xr u u = 0 := by unfold xr; grind
theorem mst_self (a : List Pt) : ∀ k, mst a a k = (k, k)
  | 0 => rfl
  | k + 1 => by
    show mstep a a (mst a a k) = _
    rw [mst_self a k]
    unfold mstep
    simp only [xr_self]
    rfl
def dbl (p : Pt) : Pt := sumP p p
theorem sum_self {a K : List Pt} {a0 : Pt} (ca : Conv a a0) (h : Hull (sums a a) K (sumP a0 a0)) (cK : Conv K (sumP a0 a0)) : K = a.map dbl := by
  have e := (merge_end ca ca h cK).1
  rw [mst_self] at e
  have hl : K.length = a.length := (Prod.mk.inj e).1
  rw [← merged_hull ca ca h, hl]
  refine List.ext_getElem (by simp [merged]) fun i h1 h2 => ?_
  have hi : i < a.length := by simpa using h2
  simp only [merged, List.getElem_map, List.getElem_range]
  unfold mpt
  rw [mst_self]
  simp only
  rw [vtx_lt hi, gt_of (List.getElem?_eq_getElem hi)]
  rfl

theorem getD_dbl (l : List Pt) (i : Nat) : (l.map dbl).getD i (0, 0) = dbl (l.getD i (0, 0)) := by
  rw [List.getD_eq_getElem?_getD, List.getD_eq_getElem?_getD, List.getElem?_map]
  cases l[i]? <;> rfl
theorem area2_dbl (l : List Pt) : area2 (l.map dbl) = 4 * area2 l := by
  have key : ∀ k, area2To (l.map dbl) k = 4 * area2To l k := by
    intro k
    induction k with
    | zero => rfl
    | succ k ih =>
      unfold area2To nx
      rw [ih, List.length_map, getD_dbl, getD_dbl]
      generalize l.getD k (0, 0) = p
      generalize l.getD ((k + 1) % l.length) (0, 0) = q
      unfold dbl sumP
      simp only
      grind
  unfold area2
  rw [List.length_map]
  exact key _

/-- The hull of the negatives of a convex polygon's negatives is the polygon. -/
theorem Hedge.neg {P : List Pt} {a b : Pt} (h : Hedge P a b) : Hedge (P.map negP) (negP a) (negP b) :=
  ⟨fun e => h.ne (negP_inj e), fun p hp => by
    obtain ⟨q, hq, rfl⟩ := List.mem_map.1 hp
    exact LeftOn_neg.2 (h.ok q hq), List.mem_map.2 ⟨_, h.fst, rfl⟩, List.mem_map.2 ⟨_, h.snd, rfl⟩⟩
theorem neg_neg_mem (P : List Pt) (p : Pt) : p ∈ (P.map negP).map negP ↔ p ∈ P := by
  rw [List.map_map]
  simp only [List.mem_map, Function.comp]
  constructor
  · rintro ⟨q, hq, rfl⟩; rwa [negP_negP]
  · intro h; exact ⟨p, h, negP_negP p⟩
/-- The corners of a hull of negatives: all negatives of the corners. -/
theorem hull_neg_mem {P K : List Pt} {a0 k0 : Pt} (ca : Conv P a0) (h : Hull (P.map negP) K k0) (p : Pt) : p ∈ K ↔ p ∈ P.map negP := by
  have two := h.two
  constructor
  · exact hull_sub h
  · intro hp
    -- from k0 on, the corners of K run through the negatives in their order
    have hk : k0 ∈ P.map negP := by
      have := (h.edge 0 (by omega)).fst
      rwa [h.first] at this
    obtain ⟨q0, hq0, e0⟩ := List.mem_map.1 hk
    obtain ⟨t, ht, et⟩ := List.getElem_of_mem hq0
    have step : ∀ k, vtx K k = negP (vtx P (t + k)) := by
      intro k
      induction k with
      | zero => rw [h.vtx0, Nat.add_zero, vtx_lt ht, gt_of (List.getElem?_eq_getElem ht), et, e0]
      | succ k ih =>
        have e1 := h.edgeV k
        have e2 := (ca.hull.edgeV (t + k)).neg
        rw [ih] at e1
        exact hedge_next e1 e2
    obtain ⟨q, hq, rfl⟩ := List.mem_map.1 hp
    obtain ⟨i, hi, rfl⟩ := List.getElem_of_mem hq
    have s := step (i + (P.length - t))
    rw [show t + (i + (P.length - t)) = i + P.length by omega, vtx_add, vtx_lt hi, gt_of (List.getElem?_eq_getElem hi)] at s
    rw [← s]
    exact vtx_mem (by omega) _

end Go.Proofs.Ytlmdmgbhfoehgaa

/- Shape: what Sum and Negative find, as plain lists: bounds, the order of three, negatives. -/
namespace Go.Proofs.Ytlmdmgbhfoehgaa

theorem conv_of {P K : List Pt} {k0 : Pt} (h : Hull P K k0) (hlow : ∀ p ∈ P, leP k0 p) (h3 : 3 ≤ K.length) : Conv K k0 :=
  ⟨hull_self h, h3, fun p hp => hlow p (hull_sub h hp)⟩

theorem mst_len (a b : List Pt) : ∀ k, k ≤ (mst a b k).1 + (mst a b k).2
  | 0 => Nat.zero_le _
  | k + 1 => by
    have ih := mst_len a b k
    show k + 1 ≤ (mstep a b (mst a b k)).1 + (mstep a b (mst a b k)).2
    unfold mstep
    split
    · simp only; omega
    · split <;> simp only <;> omega
theorem sum_len {a b K : List Pt} {a0 b0 : Pt} (ca : Conv a a0) (cb : Conv b b0) (h : Hull (sums a b) K (sumP a0 b0)) (cK : Conv K (sumP a0 b0)) : K.length ≤ a.length + b.length := by
  have h1 := mst_len a b K.length
  rw [(merge_end ca cb h cK).1] at h1
  exact h1

/-- The least of a list. -/
theorem min_of (f : Pt → Int) : ∀ (l : List Pt), l ≠ [] → ∃ q ∈ l, ∀ p ∈ l, f q ≤ f p
  | [], h => absurd rfl h
  | [x], _ => ⟨x, by simp, by simp⟩
  | x :: y :: l, _ => by
    obtain ⟨q, hq, hm⟩ := min_of f (y :: l) (by simp)
    by_cases g : f x ≤ f q
    · refine ⟨x, by simp, fun p hp => ?_⟩
      rcases List.mem_cons.1 hp with rfl | hp
      · exact Int.le_refl _
      · exact Int.le_trans g (hm p hp)
    · refine ⟨q, by simp only [List.mem_cons] at hq ⊢; exact .inr hq, fun p hp => ?_⟩
      rcases List.mem_cons.1 hp with rfl | hp
      · omega
      · exact hm p hp

/-- In every direction a corner of the hull is the farthest of all points. -/
theorem Conv.support {P K : List Pt} {k0 : Pt} (h : Hull P K k0) (c : Conv K k0) (d : Pt) : ∃ q ∈ K, ∀ p ∈ P, 0 ≤ xr d (subP p q) := by
  have three := c.three
  obtain ⟨q, hq, hm⟩ := min_of (fun p => xr d p) K (by intro e; rw [e] at three; simp at three)
  refine ⟨q, hq, fun p hp => ?_⟩
  obtain ⟨i, hi, rfl⟩ := List.getElem_of_mem hq
  have e : vtx K i = K[i] := by rw [vtx_lt hi, gt_of (List.getElem?_eq_getElem hi)]
  have e2 : vtx K (i + (K.length - 1) + 1) = K[i] := by rw [show i + (K.length - 1) + 1 = i + K.length by omega, vtx_add, e]
  have t := c.turn (i + (K.length - 1))
  have a1 := ((h.edgeV (i + (K.length - 1))).ok p hp).nonneg
  have a2 := ((h.edgeV i).ok p hp).nonneg
  rw [crossP_xr2] at a1
  rw [crossP_xr] at a2
  have b1 := hm _ (c.vmem (i + (K.length - 1)))
  have b2 := hm _ (c.vmem (i + 1))
  have e3 : vtx K (i + (K.length - 1) + 1 + 1) = vtx K (i + 1) := by rw [show i + (K.length - 1) + 1 + 1 = i + 1 + K.length by omega, vtx_add]
  unfold ev at t
  rw [e3, e2] at t
  rw [e2] at a1
  rw [e] at a2
  generalize vtx K (i + (K.length - 1)) = r at *
  generalize vtx K (i + 1) = s at *
  generalize K[i] = q at *
  have b1' : xr d q ≤ xr d r := b1
  have b2' : xr d q ≤ xr d s := b2
  have id : xr (subP q r) (subP s q) * xr d (subP p q) = xr d (subP s q) * xr (subP q r) (subP p q) + (- xr d (subP q r)) * xr (subP s q) (subP p q) := by unfold xr subP; grind
  have c1 : 0 ≤ xr d (subP s q) := by rw [subP_add]; omega
  have c2 : 0 ≤ - xr d (subP q r) := by rw [subP_add]; omega
  refine nonneg_of_mul t id ?_
  have := Int.mul_nonneg c1 a1
  have := Int.mul_nonneg c2 a2
  omega

/-- The corners of a sum's hull are sums of corners. -/
theorem corner_sum {P K c Y : List Pt} {k0 y0 : Pt} (h : Hull P K k0) (cK : Conv K k0) (hY : Hull (sums P c) Y y0) (cY : Conv Y y0) (i : Nat) : vtx Y i ∈ sums K c := by
  have three := cY.three
  have E1 := hY.edgeV (i + (Y.length - 1))
  have E2 := hY.edgeV i
  have t := cY.turn (i + (Y.length - 1))
  have e2 : vtx Y (i + (Y.length - 1) + 1) = vtx Y i := by rw [show i + (Y.length - 1) + 1 = i + Y.length by omega, vtx_add]
  have e3 : vtx Y (i + (Y.length - 1) + 1 + 1) = vtx Y (i + 1) := by rw [show i + (Y.length - 1) + 1 + 1 = i + 1 + Y.length by omega, vtx_add]
  unfold ev at t
  rw [e3, e2] at t
  rw [e2] at E1
  generalize vtx Y (i + (Y.length - 1)) = r at *
  generalize vtx Y (i + 1) = s at *
  obtain ⟨p, hp, z, hz, e⟩ := mem_sums.1 E2.fst
  generalize vtx Y i = u at *
  obtain ⟨q, hq, hs⟩ := Conv.support h cK (sumP (subP u r) (subP s u))
  have k := hs p hp
  have m : sumP q z ∈ sums P c := mem_sums.2 ⟨q, hull_sub h hq, z, hz, rfl⟩
  have a1 := (E1.ok _ m).nonneg
  have a2 := (E2.ok _ m).nonneg
  rw [crossP_xr2] at a1
  rw [crossP_xr] at a2
  have f : subP (sumP q z) u = subP q p := by rw [e]; unfold subP sumP; simp only [Prod.mk.injEq]; omega
  rw [f] at a1 a2
  have g : xr (sumP (subP u r) (subP s u)) (subP p q) = - xr (subP u r) (subP q p) - xr (subP s u) (subP q p) := by unfold xr sumP subP; grind
  have zero := zero_vec t (v := subP q p) (by omega) (by omega)
  have : q = p := by
    unfold subP at zero
    simp only [Prod.mk.injEq] at zero
    refine Prod.ext ?_ ?_ <;> omega
  rw [e, ← this]
  exact mem_sums.2 ⟨q, hq, z, hz, rfl⟩

theorem hull_corners {P K c Y : List Pt} {k0 y0 : Pt} (h : Hull P K k0) (cK : Conv K k0) (hY : Hull (sums P c) Y y0) (cY : Conv Y y0) : Hull (sums K c) Y y0 := by
  have three := cY.three
  refine ⟨hY.first, hY.two, fun i hi => ?_, hY.once⟩
  have E := hY.edge i hi
  refine ⟨E.ne, fun p hp => E.ok p ?_, ?_, ?_⟩
  · obtain ⟨x, hx, z, hz, rfl⟩ := mem_sums.1 hp
    exact mem_sums.2 ⟨x, hull_sub h hx, z, hz, rfl⟩
  · have := corner_sum h cK hY cY i
    rwa [vtx_lt hi] at this
  · exact corner_sum h cK hY cY (i + 1)

theorem leP_sum {a b x y : Pt} (h1 : leP a x) (h2 : leP b y) : leP (sumP a b) (sumP x y) := by
  rcases h1 with rfl | h1
  · rcases h2 with rfl | h2
    · exact .inl rfl
    · right; unfold ltP sumP at *; simp only at *; omega
  · rcases h2 with rfl | h2
    · right; unfold ltP sumP at *; simp only at *; omega
    · right; unfold ltP sumP at *; simp only at *; omega

/-- The order of three sums plays no part. -/
theorem sum_assoc {a b c K M X W : List Pt} {a0 b0 c0 : Pt} (ca : Conv a a0) (cb : Conv b b0) (cc : Conv c c0)
    (hK : Hull (sums a b) K (sumP a0 b0)) (cK : Conv K (sumP a0 b0)) (hM : Hull (sums b c) M (sumP b0 c0)) (cM : Conv M (sumP b0 c0))
    (hX : Hull (sums K c) X (sumP (sumP a0 b0) c0)) (hW : Hull (sums a M) W (sumP a0 (sumP b0 c0))) : X = W := by
  have e0 : sumP (sumP a0 b0) c0 = sumP a0 (sumP b0 c0) := by unfold sumP; simp only [Prod.mk.injEq]; omega
  have a00 : a0 ∈ a := by have := ca.vmem 0; rwa [ca.hull.vtx0] at this
  have b00 : b0 ∈ b := by have := cb.vmem 0; rwa [cb.hull.vtx0] at this
  have c00 : c0 ∈ c := by have := cc.vmem 0; rwa [cc.hull.vtx0] at this
  have mem3 : ∀ x ∈ a, sumP (sumP x b0) c0 ∈ sums (sums a b) c := fun x hx => mem_sums.2 ⟨_, mem_sums.2 ⟨x, hx, b0, b00, rfl⟩, c0, c00, rfl⟩
  obtain ⟨Y, hY, cY⟩ : ∃ Y, Hull (sums (sums a b) c) Y (sumP (sumP a0 b0) c0) ∧ Conv Y (sumP (sumP a0 b0) c0) := by
    refine hull_exists (fun p hp => ?_) (mem3 a0 a00) (mem3 _ (ca.vmem 0)) (mem3 _ (ca.vmem 1)) (mem3 _ (ca.vmem 2)) ?_
    · obtain ⟨x, hx, z, hz, rfl⟩ := mem_sums.1 hp
      obtain ⟨u, hu, v, hv, rfl⟩ := mem_sums.1 hx
      exact leP_sum (leP_sum (ca.low u hu) (cb.low v hv)) (cc.low z hz)
    · have t := ca.turn 0
      have e : crossP (sumP (sumP (vtx a 0) b0) c0) (sumP (sumP (vtx a 1) b0) c0) (sumP (sumP (vtx a 2) b0) c0) = xr (ev a 0) (ev a (0 + 1)) := by unfold crossP cross ev xr subP sumP; simp only; grind
      omega
  have h1 := hull_unique hX (hull_corners hK cK hY cY)
  have hY2 : Hull (sums (sums b c) a) Y (sumP (sumP a0 b0) c0) := hY.mem fun p => by
    rw [sums_comm (sums b c) a]
    exact (sums_assoc a b c p).symm
  have h2 := hull_corners hM cM hY2 cY
  rw [e0] at h2
  have h3 : Hull (sums a M) Y (sumP a0 (sumP b0 c0)) := h2.mem fun p => sums_comm a M p
  rw [h1, hull_unique hW h3]

/-- The hull of the negatives, and that of their negatives. -/
theorem neg_conv {a s : List Pt} {a0 : Pt} (ca : Conv a a0) (hp : s.Perm (a.map negP)) (hs : s.Pairwise leP) :
    ∃ k0, Hull (a.map negP) (hullL s) k0 ∧ Conv (hullL s) k0 ∧ (hullL s).length ≤ a.length := by
  have three := ca.three
  have hl : 0 < (a.map negP).length := by rw [List.length_map]; omega
  obtain ⟨h1, h2⟩ := hull_both hl hp hs
  have mem : ∀ i, negP (vtx a i) ∈ a.map negP := fun i => List.mem_map.2 ⟨_, ca.vmem i, rfl⟩
  have hf : flatTo (a.map negP) (a.map negP).length = false := by
    cases e : flatTo (a.map negP) (a.map negP).length
    · rfl
    · exfalso
      have k := ((flatTo_iff hl).1 e).all (mem 0) (mem 1) (mem 2)
      rw [crossP_neg] at k
      have t := ca.turn 0
      have e : crossP (vtx a 0) (vtx a 1) (vtx a 2) = xr (ev a 0) (ev a (0 + 1)) := by unfold crossP cross ev xr subP; simp only; grind
      omega
  have h := h2 hf
  have h3 : 3 ≤ (hullL s).length := by
    rcases Nat.lt_or_ge (hullL s).length 3 with g | g
    · rw [h1.2 g] at hf; cases hf
    · exact g
  refine ⟨_, h, conv_of h (fun p hp => low_le hp) h3, ?_⟩
  have := hull_length h
  rwa [List.length_map] at this

theorem neg_back {a K t : List Pt} {a0 k0 : Pt} (ca : Conv a a0) (hK : Hull (a.map negP) K k0) (hp : t.Perm (K.map negP)) (hs : t.Pairwise leP) : hullL t = a := by
  refine hull_other ca.hull ca.low ca.three (Q := K.map negP) (fun p => ?_) hp hs
  rw [← neg_neg_mem a p]
  simp only [List.mem_map]
  constructor
  · rintro ⟨q, hq, rfl⟩
    obtain ⟨r, hr, rfl⟩ := List.mem_map.1 (hull_sub hK hq)
    exact ⟨_, ⟨r, hr, rfl⟩, rfl⟩
  · rintro ⟨q, ⟨r, hr, rfl⟩, rfl⟩
    exact ⟨negP r, (hull_neg_mem ca hK _).2 (List.mem_map.2 ⟨r, hr, rfl⟩), rfl⟩

end Go.Proofs.Ytlmdmgbhfoehgaa
