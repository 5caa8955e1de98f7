/- Parts of the proof, one after the other: RefLean, RefInt, RefSizes, DigSum, DigLess, RefLess, RefPlus, RefSign, RefAdd, RefSub, RefCmp, DigMul, DigRow. -/
import Derived.Test.YteicddmekhdjeaaGreatDoorEm1
/- cracknelref01.lean: zeros at the end are cut off. -/
namespace Go.Proofs.YteicddmekhdjeaaGreatDoor
open Go.RowKit Go.Sort

theorem DigAt.far {w : World} {A : Option Addr} {xs : List Nat} (h : DigAt w A xs) {p : Addr} (hp : ∀ a, A = some a → a.block ≠ p.block) (u : Value) : DigAt (w.setCell p u) A xs := fun hne => by
  obtain ⟨b, off, e, hlt, hc⟩ := h hne
  refine ⟨b, off, e, by simpa using hlt, fun i x hx => ?_⟩
  rw [World.cell?_setCell_other _ _ _ _ (fun q => hp _ e (by rw [q]))]
  exact hc i x hx
theorem lean_end {w w1 : World} {g : Nat} {s0 rs s : Bool} {v0 rv v : Value} {A1 : Option Addr} {xs : List Nat} (hB : ZBox w1 g s0 v0) (hR : ZBox w1 (g + 1) rs rv) (hA : DigAt w1 A1 xs) (hb : ∀ a, A1 = some a → g + 1 < a.block) (hW : Below w.heap.size w w1) (hg : w.heap.size = g) :
    ((((w1.setCell ⟨g, 1, none⟩ v).setCell ⟨g, 0, none⟩ (.bool s)).setCell ⟨g + 1, 0, none⟩ (.bool s)).setCell ⟨g + 1, 1, none⟩ v).cell? ⟨g + 1, 0, none⟩ = some (.bool s) ∧
    ((((w1.setCell ⟨g, 1, none⟩ v).setCell ⟨g, 0, none⟩ (.bool s)).setCell ⟨g + 1, 0, none⟩ (.bool s)).setCell ⟨g + 1, 1, none⟩ v).cell? ⟨g + 1, 1, none⟩ = some v ∧
    DigAt ((((w1.setCell ⟨g, 1, none⟩ v).setCell ⟨g, 0, none⟩ (.bool s)).setCell ⟨g + 1, 0, none⟩ (.bool s)).setCell ⟨g + 1, 1, none⟩ v) A1 xs ∧
    Below w.heap.size w ((((w1.setCell ⟨g, 1, none⟩ v).setCell ⟨g, 0, none⟩ (.bool s)).setCell ⟨g + 1, 0, none⟩ (.bool s)).setCell ⟨g + 1, 1, none⟩ v) := by
  have h := (((hR.far (p := ⟨g, 1, none⟩) (by show g + 1 ≠ g; omega) v).far (p := ⟨g, 0, none⟩) (by show g + 1 ≠ g; omega) (.bool s)).put0 s).put1 v
  refine ⟨h.cells.1, h.cells.2, ?_, ?_⟩
  · exact (((hA.far (p := ⟨g, 1, none⟩) (fun a e => by have := hb a e; show a.block ≠ g; omega) _).far (p := ⟨g, 0, none⟩) (fun a e => by have := hb a e; show a.block ≠ g; omega) _).far (p := ⟨g + 1, 0, none⟩) (fun a e => by have := hb a e; show a.block ≠ g + 1; omega) _).far (p := ⟨g + 1, 1, none⟩) (fun a e => by have := hb a e; show a.block ≠ g + 1; omega) _
  · exact (((hW.setCell (by rw [hg]; exact Nat.le_refl _) _).setCell (by rw [hg]; exact Nat.le_refl _) _).setCell (by rw [hg]; show g ≤ g + 1; omega) _).setCell (by rw [hg]; show g ≤ g + 1; omega) _

/-- The same, in memory of its own. -/
def RetF (neg : Bool) (ds : List Nat) (w : World) (e : Ending) (w' : World) : Prop := ∃ A c, e = .returned (.agg #[.bool neg, .slice A ds.length c]) ∧ ds.length ≤ c ∧ DigAt w' A ds ∧ (∀ a, A = some a → w.heap.size ≤ a.block) ∧ Below w.heap.size w w'
set_option maxRecDepth 100000 in
set_option maxHeartbeats 2000000 in
theorem lean_own (neg : Bool) (A : Option Addr) (n c : Nat) (ds : List Nat) (w : World) (hn : ds.length = n) (hc : n ≤ c) (hbig : n ≤ 50000) (hx : DigAt w A ds) :
    Calls Tryz.prog 67 #[.agg #[.bool neg, .slice A n c]] w (RetF (neg && decide (0 < (trimR ds).length)) (trimR ds) w) := by
  have HN := Lib.hid hn
  have HX := Lib.hid hx
  clear hn hx
  generalize hg : w.heap.size = g
  have B0 := (ZBox.new w neg (.slice A n c)).alloc (.cells #[.bool false, .slice none 0 0] 30)
  have R0 := ZBox.new (w.alloc (.cells #[.bool neg, .slice A n c] 30)) false (.slice none 0 0)
  have hb0 : Below w.heap.size w ((w.alloc (.cells #[.bool neg, .slice A n c] 30)).alloc (.cells #[.bool false, .slice none 0 0] 30)) := ((Below.refl _ _).alloc (Nat.le_refl _) _).alloc (by simp) _
  rw [World.size_alloc, hg] at R0
  rw [hg] at B0
  go_enter Tryz.func67, Tryz.ntmps67
  go_upto_region 1 with (fail)
  generalize (w.alloc (.cells #[.bool neg, .slice A n c] 30)).alloc (.cells #[.bool false, .slice none 0 0] 30) = w0 at *
  have HX0 := Lib.hid (HX.out.below hb0)
  have HB := Lib.hid B0
  have HR := Lib.hid R0
  obtain ⟨b0, b1⟩ := B0.cells
  have hg0 : g + 1 < w0.heap.size := R0.lt
  clear HX R0 B0
  go_upto_block 0 with (fail)
  go_cut [3] (fun v wx => ∃ k : Nat, k ≤ n ∧ v = .int .i64 (k : Int) ∧ w0 = wx ∧ ds.take k = trimR ds)
  case first =>
    go_wp2_with fail
    go_loopw [3] (fun v wr => ∃ k : Nat, k ≤ n ∧ v = .int .i64 (k : Int) ∧ w0 = wr ∧ ∀ (i d : Nat), ds[i]? = some d → k ≤ i → d = 0) (fun v _ => (intOf v).toNat)
    case atStart => exact ⟨n, Nat.le_refl _, rfl, rfl, fun i d hi hk => by
      have := (List.getElem?_eq_some_iff.1 hi).1
      rw [HN.out] at this; omega⟩
    case round =>
      obtain ⟨k, hk, rfl, rfl, hz⟩ := hrel
      have HZ := Lib.hid hz
      clear hz
      cases k with
      | zero =>
        have HE : Hid (ds.take 0 = trimR ds) := Lib.hid (take_trim (fun i d h1 h2 => HZ.out i d h1 h2) (fun _ h => absurd h (by omega)) (Nat.zero_le _))
        go_wp2_with fail
        go_meet
        exact ⟨0, Nat.zero_le _, rfl, rfl, HE.out⟩
      | succ j =>
        have hj : j < ds.length := by rw [HN.out]; omega
        obtain ⟨b, off, rfl, hlt, hcl⟩ := HX0.out (by intro e; rw [e] at hj; simp at hj)
        have h1 := hcl j _ (List.getElem?_eq_getElem hj)
        have HD : Hid (ds[j]? = some ds[j]) := Lib.hid (List.getElem?_eq_getElem hj)
        generalize ds[j] = d at *
        have e1 : ((j + 1 : Nat) : Int) - 1 = (j : Int) := by omega
        by_cases hd : d = 0
        · subst hd
          clear hcl
          go_wp2_with fail
          go_roundw
          case rel => exact ⟨j, by omega, by go_num, trivial, fun i e he hi => by
            rcases Nat.eq_or_lt_of_le hi with q | q
            · subst q
              rw [HD.out] at he; exact (Option.some.inj he).symm
            · exact HZ.out i e he q⟩
          case measure => simp [intOf]
        · have e2 : ((d : Int) == 0) = false := by rw [beq_eq_false_iff_ne]; omega
          have HE : Hid (ds.take (j + 1) = trimR ds) := Lib.hid (take_trim (fun i d h1 h2 => HZ.out i d h1 h2) (fun e _ he => by
            rw [Nat.add_sub_cancel, HD.out] at he
            obtain rfl := Option.some.inj he
            exact hd) (by omega))
          clear hcl
          go_wp2_with fail
          go_meet
          exact ⟨j + 1, by omega, rfl, rfl, HE.out⟩
  case rest =>
  obtain ⟨k, hk, rfl, rfl, htk⟩ := hcut
  go_upto_region 4 with (fail)
  have hbE : Below w0.heap.size w0 (w0.alloc (.cells #[] 3)) := (Below.refl _ _).alloc (Nat.le_refl _) _
  have HO := Lib.hid (DigOwn.empty w0)
  have HXE := Lib.hid ((HX0.out.take k).below hbE)
  have HBE := Lib.hid (HB.out.alloc (.cells #[] 3))
  have HRE := Lib.hid (HR.out.alloc (.cells #[] 3))
  have HW := Lib.hid (hb0.trans (hbE.mono hb0.size))
  have hlk : (ds.take k).length = k := by rw [List.length_take, HN.out]; omega
  have HLK := Lib.hid hlk
  have HTK := Lib.hid htk
  have hkc : k ≤ c := by omega
  have hs0 : w0.heap.size < (w0.alloc (.cells #[] 3)).heap.size := by simp
  obtain ⟨d0, d1⟩ := HBE.out.cells
  clear hbE hb0 hlk htk HX0 HB HR b0 b1
  go_wp2_with (at_builtin; refine wpList_dapp rfl (.tmp 20) (.tmp 24) rfl w0.heap.size (.slice (some ⟨w0.heap.size, 0, none⟩) 0 0) [] (ds.take k) A k c rfl rfl HO.out HLK.out HXE.out (by rw [HLK.out]; simp; omega) (by omega) ?_; intro v1 w1 ho hgr hat; rw [List.nil_append] at ho; obtain ⟨A1, c1, e1, hk1, hat1, hbs⟩ := ho.slice; rw [HLK.out] at e1 hk1; subst e1; have HO1 := Lib.hid hat1; have HB1 := Lib.hid (HBE.out.beside hgr (by simp [Value.ownBlock]; omega)); have HR1 := Lib.hid (HRE.out.beside hgr (by simp [Value.ownBlock]; omega)); have HW1 := Lib.hid (HW.out.grown hgr (by rw [← hg] at hg0; simp; omega) (by simp [Value.ownBlock]; omega)); obtain ⟨b0, b1⟩ := HB1.out.cells; have bf := HB1.out.frozen 1; have bf0 := HB1.out.frozen 0; obtain ⟨r0, r1⟩ := HR1.out.cells; have rf0 := HR1.out.frozen 0; have rf1 := HR1.out.frozen 1; have HBS : Hid (∀ a, A1 = some a → g + 1 < a.block) := Lib.hid (fun a e => by have := hbs a e; omega); clear ho hgr hat hat1 d0 d1 hbs)
  · rename_i hneg
    have HE : Hid ((neg && decide (0 < (trimR ds).length)) = (neg && decide (0 < k)) ∧ trimR ds = ds.take k) := Lib.hid ⟨by rw [← HTK.out, HLK.out], HTK.out.symm⟩
    obtain ⟨p0, p1, pa, pb⟩ := lean_end (s := decide (0 < k)) (v := .slice A1 k c1) HB1.out HR1.out HO1.out HBS.out HW1.out hg
    refine bodyPost_ret (v := .agg #[.bool (decide (0 < k)), .slice A1 k c1]) (by simp [results, Tryz.results67, go_sem, p0, p1]) rfl ?_
    rw [HE.out.2]
    exact ⟨A1, c1, by rw [HLK.out]; simp [hneg], by rw [HLK.out]; exact hk1, pa, (fun a e => by have := HBS.out a e; omega), pb⟩
  · rename_i hneg
    obtain ⟨p0, p1, pa, pb⟩ := lean_end (s := false) (v := .slice A1 k c1) HB1.out HR1.out HO1.out HBS.out HW1.out hg
    refine bodyPost_ret (v := .agg #[.bool false, .slice A1 k c1]) (by simp [results, Tryz.results67, go_sem, p0, p1]) rfl ?_
    rw [← HTK.out]
    exact ⟨A1, c1, by rw [HLK.out]; simp [hneg], by rw [HLK.out]; exact hk1, pa, (fun a e => by have := HBS.out a e; omega), pb⟩
theorem lean_any (neg : Bool) (A : Option Addr) (n c : Nat) (ds : List Nat) (w : World) (hn : ds.length = n) (hc : n ≤ c) (hbig : n ≤ 50000) (hx : DigAt w A ds) :
    Calls Tryz.prog 67 #[.agg #[.bool neg, .slice A n c]] w (RetD (neg && decide (0 < (trimR ds).length)) (trimR ds) w) :=
  (lean_own neg A n c ds w hn hc hbig hx).mono fun _ _ ⟨A1, c1, h1, h2, h3, _, h5⟩ => ⟨A1, c1, h1, h2, h3, h5⟩
end Go.Proofs.YteicddmekhdjeaaGreatDoor

/- cracknelref01.Int: the digits of an int. -/
namespace Go.Proofs.YteicddmekhdjeaaGreatDoor
open Go.RowKit Go.Sort

theorem DigOwn.far {w : World} {base : Nat} {v : Value} {xs : List Nat} (h : DigOwn w base v xs) {p : Addr} (hp : v.ownBlock ≠ some p.block) (u : Value) : DigOwn (w.setCell p u) base v xs := by
  have hg : w.grownBy (w.setCell p u) (some p.block) := ⟨rfl, rfl, rfl, by simp, fun k _ e => Below.heap_setCell w p u k (fun e2 => e (by rw [e2]))⟩
  unfold DigOwn at *
  refine World.ownsRow.kept h hg ?_
  cases e : v.ownBlock with
  | none => exact .inl rfl
  | some k => exact .inr fun e2 => hp (by rw [e]; exact e2.symm ▸ rfl)
theorem tdiv_abs (x : Int) : (x.tdiv 10000).natAbs = x.natAbs / 10000 := by
  rw [Int.natAbs_tdiv]; rfl
theorem tmod_abs (x : Int) : (x.tmod 10000).natAbs = x.natAbs % 10000 := by
  rw [Int.natAbs_tmod]; rfl

set_option maxRecDepth 100000 in
set_option maxHeartbeats 2000000 in
theorem int_any (v : Int) (w : World) (hv : -9223372036854775808 ≤ v ∧ v ≤ 9223372036854775807) :
    Calls Tryz.prog 19 #[.int .i64 v] w (RetZ v w) := by
  generalize hg : w.heap.size = g
  have hlen : (digs v.natAbs).length ≤ 5 := digs_len (by show v.natAbs < 100000000000000000000; omega)
  have HLEN := Lib.hid hlen
  clear hlen
  go_enter Tryz.func19, Tryz.ntmps19
  go_upto_region 1 with (fail)
  have R0 := ZBox.new w false (.slice none 0 0)
  have hb0 : Below w.heap.size w (w.alloc (.cells #[.bool false, .slice none 0 0] 30)) := (Below.refl _ _).alloc (Nat.le_refl _) _
  have hz0 : (w.alloc (.cells #[.bool false, .slice none 0 0] 30)).heap.size = g + 1 := by simp [hg]
  rw [hg] at R0
  generalize w.alloc (.cells #[.bool false, .slice none 0 0] 30) = w0 at *
  have B1 := ZBox.new w0 (decide (v < 0)) (.slice none 0 0)
  have R1 := R0.alloc (.cells #[.bool (decide (v < 0)), .slice none 0 0] 30)
  have hb1 : Below w.heap.size w (w0.alloc (.cells #[.bool (decide (v < 0)), .slice none 0 0] 30)) := hb0.alloc (by rw [hz0, hg]; omega) _
  have hz1 : (w0.alloc (.cells #[.bool (decide (v < 0)), .slice none 0 0] 30)).heap.size = g + 2 := by simp [hz0]
  rw [hz0] at B1
  go_upto_block 0 with (fail)
  generalize w0.alloc (.cells #[.bool (decide (v < 0)), .slice none 0 0] 30) = w1 at *
  have HB := Lib.hid B1
  have HR := Lib.hid R1
  have HW := Lib.hid hb1
  obtain ⟨b0, b1⟩ := B1.cells
  clear R0 hb0 B1 R1 hb1 hz0
  generalize hneg : decide (v < 0) = neg at *
  go_cut [0] (fun x wx => ∃ vv : Value, DigOwn wx (g + 2) vv (digs v.natAbs) ∧ ZBox wx (g + 1) neg vv ∧ (∃ rv, ZBox wx g false rv) ∧ Below g w wx)
  case first =>
    go_wp2_with fail
    go_loopw [0] (fun xv wr => ∃ (x : Int) (L : List Nat) (vv : Value), xv = .int .i64 x ∧ (-9223372036854775808 ≤ x ∧ x ≤ 9223372036854775807) ∧ L ++ digs x.natAbs = digs v.natAbs ∧ DigOwn wr (g + 2) vv L ∧ ZBox wr (g + 1) neg vv ∧ ZBox wr g false (.slice none 0 0) ∧ Below g w wr ∧ g + 2 ≤ wr.heap.size) (fun xv _ => (intOf xv).natAbs)
    case atStart => exact ⟨v, [], _, rfl, hv, rfl, DigOwn.nil _ _, HB.out, HR.out, by rw [← hg]; exact HW.out, by omega⟩
    case round =>
      clear b0 b1 HB HR HW hz1
      obtain ⟨x, L, vv, rfl, hx, hL, ho, hB, hR, hW, hz⟩ := hrel
      have HL := Lib.hid hL
      have HO := Lib.hid ho
      have HB := Lib.hid hB
      have HR := Lib.hid hR
      have HW := Lib.hid hW
      clear hL ho hB hR hW
      by_cases h0 : x = 0
      · subst h0
        have hLd : L = digs v.natAbs := by have := HL.out; rwa [show (0 : Int).natAbs = 0 from rfl, digs_zero, List.append_nil] at this
        subst hLd
        go_wp2_with fail
        go_meet
        exact ⟨vv, HO.out, HB.out, ⟨_, HR.out⟩, HW.out⟩
      · have e0 : (x == 0) = false := by rw [beq_eq_false_iff_ne]; exact h0
        have e1 : (x != 0) = true := by rw [bne, e0]; rfl
        obtain ⟨d, hd⟩ : ∃ d, d = x.natAbs % 10000 := ⟨_, rfl⟩
        have hd2 : d < 10000 := by omega
        have HS : Hid (L ++ [d] ++ digs (x.tdiv 10000).natAbs = digs v.natAbs) := Lib.hid (by
          rw [← HL.out, digs_step (n := x.natAbs) (by omega), tdiv_abs, hd, List.append_assoc]; rfl)
        have hq : (-9223372036854775808 ≤ x.tdiv 10000 ∧ x.tdiv 10000 ≤ 9223372036854775807) ∧ (x.tdiv 10000).natAbs < x.natAbs := by
          have := tdiv_abs x
          omega
        have hm : x.tmod 10000 = (d : Int) ∨ (x.tmod 10000 = -(d : Int) ∧ 0 < d) := by
          have := tmod_abs x
          omega
        have HLL : Hid (L.length + 1 ≤ 10) := Lib.hid (by
          have h1 := congrArg List.length HL.out
          have h2 := HLEN.out
          rw [List.length_append] at h1
          omega)
        obtain ⟨hq1, hq2⟩ := hq
        have w1' : IntKind.i64.wrap (x.tdiv 10000) = x.tdiv 10000 := by rw [IntKind.wrap_i64]; omega
        have w2' : IntKind.i64.wrap (x.tmod 10000) = x.tmod 10000 := by rw [IntKind.wrap_i64]; omega
        have w3' : IntKind.i64.wrap (d : Int) = (d : Int) := by rw [IntKind.wrap_i64]; omega
        clear hd
        have HOA := Lib.hid (HO.out.alloc (.cells #[.int .i64 (d : Int)] 3))
        have HBA := Lib.hid (HB.out.alloc (.cells #[.int .i64 (d : Int)] 3))
        have HRA := Lib.hid (HR.out.alloc (.cells #[.int .i64 (d : Int)] 3))
        have HWA := Lib.hid (HW.out.alloc (by omega) (.cells #[.int .i64 (d : Int)] 3))
        have HDA := Lib.hid (DigAt.one wr d)
        obtain ⟨b0, b1⟩ := HB.out.cells
        obtain ⟨c0, c1⟩ := HBA.out.cells
        have hsz : (wr.alloc (.cells #[.int .i64 (d : Int)] 3)).heap.size = wr.heap.size + 1 := by simp
        generalize hxm : x.tmod 10000 = xm at *
        have hown : vv.ownBlock ≠ some (g + 1) := fun e => by have := (HO.out.base _ e).1; omega
        have hown2 : vv.ownBlock ≠ some g := fun e => by have := (HO.out.base _ e).1; omega
        rcases hm with rfl | ⟨rfl, hd0⟩
        all_goals
          go_wp2_with (at_builtin; refine wpList_dapp rfl (.tmp 17) (.tmp 19) rfl (g + 2) vv L [d] (some ⟨wr.heap.size, 0, none⟩) 1 1 rfl rfl HOA.out rfl HDA.out (by have := HLL.out; simp; omega) (by omega) ?_; intro v1 w2 ho hgr hat; obtain ⟨A1, k1, e1, -, -, -⟩ := ho.slice; subst e1; have HO2 := Lib.hid ho; have HB2 := Lib.hid (HBA.out.beside hgr hown); have HR2 := Lib.hid (HRA.out.beside hgr hown2); have HW2 := Lib.hid (HWA.out.grown hgr (by omega) (fun q hq => by have := (HO.out.base q hq).1; omega)); have bf := HB2.out.frozen 1; obtain ⟨b2, b3⟩ := HB2.out.cells; have hz2 : g + 2 ≤ w2.heap.size := (by have := hgr.size; omega); have ho2 : (Value.slice A1 (L ++ [d]).length k1).ownBlock ≠ some (g + 1) := (fun e => by have := (HO2.out.base _ e).1; omega); clear ho hgr hat)
          exact ⟨⟨x.tdiv 10000, L ++ [d], _, rfl, hq1, HS.out, by simpa using HO2.out.far (p := ⟨g + 1, 1, none⟩) ho2 _, by simpa using HB2.out.put1 _, HR2.out.far (by show g ≠ g + 1; omega) _, HW2.out.setCell (by show g ≤ g + 1; omega) _, by simpa using hz2⟩, by simpa [intOf] using hq2⟩
  case rest =>
  obtain ⟨vv, ho, hB, ⟨rv, hR⟩, hW⟩ := hcut
  obtain ⟨A1, k1, e1, hk1, hat, hbs⟩ := ho.slice
  subst e1
  obtain ⟨q0, q1⟩ := hB.cells
  obtain ⟨r0, r1⟩ := hR.cells
  have rf0 := hR.frozen 0
  have rf1 := hR.frozen 1
  have P := (hR.put0 neg).put1 (.slice A1 (digs v.natAbs).length k1)
  obtain ⟨p0, p1⟩ := P.cells
  have HA := Lib.hid ((hat.far (p := ⟨g, 0, none⟩) (fun a e => by have := hbs a e; show a.block ≠ g; omega) (.bool neg)).far (p := ⟨g, 1, none⟩) (fun a e => by have := hbs a e; show a.block ≠ g; omega) (.slice A1 (digs v.natAbs).length k1))
  have HZ := Lib.hid ((hW.setCell (p := ⟨g, 0, none⟩) (Nat.le_refl _) (.bool neg)).setCell (p := ⟨g, 1, none⟩) (Nat.le_refl _) (.slice A1 (digs v.natAbs).length k1))
  clear P hat hbs ho hB hR hW b0 b1
  go_wp2_with fail
  refine bodyPost_ret (v := .agg #[.bool neg, .slice A1 (digs v.natAbs).length k1]) (by simp [results, Tryz.results19, go_sem, p0, p1]) rfl ?_
  unfold RetZ
  rw [hneg]
  exact ⟨A1, k1, rfl, hk1, HA.out, by rw [hg]; exact HZ.out⟩
end Go.Proofs.YteicddmekhdjeaaGreatDoor

/- cracknelref01.sizes: numbers without signs are compared. -/
namespace Go.Proofs.YteicddmekhdjeaaGreatDoor
open Go.RowKit Go.Sort

def cmpDN (x y : Nat) : Int := if x < y then -1 else if y < x then 1 else 0
theorem val_splitD {a : List Nat} {j : Nat} (h : j < a.length) : val10 a = val10 (a.take j) + 10000 ^ j * (a[j] + 10000 * val10 (a.drop (j + 1))) := by
  have e : a = a.take j ++ (a[j] :: a.drop (j + 1)) := by rw [List.getElem_cons_drop, List.take_append_drop]
  conv => lhs; rw [e]
  rw [val10_append, List.length_take, Nat.min_eq_left (by omega)]
  rfl
theorem val_top {a b : List Nat} {j : Nat} (ha : j < a.length) (hb : j < b.length) (Da : Digs a) (hd : a.drop (j + 1) = b.drop (j + 1)) (h : a[j] < b[j]) : val10 a < val10 b := by
  rw [val_splitD ha, val_splitD hb, hd]
  have h1 := val10_lt (l := a.take j) (fun d hd => Da d (List.mem_of_mem_take hd))
  rw [List.length_take, Nat.min_eq_left (by omega)] at h1
  have h2 : 10000 ^ j * (a[j] + 10000 * val10 (b.drop (j + 1)) + 1) ≤ 10000 ^ j * (b[j] + 10000 * val10 (b.drop (j + 1))) := Nat.mul_le_mul_left _ (by omega)
  rw [Nat.mul_add, Nat.mul_one] at h2
  omega
theorem drop_step {a b : List Nat} {j : Nat} (ha : j < a.length) (hb : j < b.length) (hd : a.drop (j + 1) = b.drop (j + 1)) (h : a[j] = b[j]) : a.drop j = b.drop j := by
  rw [List.drop_eq_getElem_cons ha, List.drop_eq_getElem_cons hb, hd, h]

set_option maxRecDepth 100000 in
set_option maxHeartbeats 2000000 in
theorem sizesZ_any (A : Option Addr) (n c : Nat) (A' : Option Addr) (m c' : Nat) (a b : List Nat) (w : World) (ha : a.length = n) (hb : b.length = m) (hn : n ≤ 50000) (hm : m ≤ 50000) (hx : DigAt w A a) (hy : DigAt w A' b) (Ca : CanonD a) (Cb : CanonD b) :
    Calls Tryz.prog 68 #[.slice A n c, .slice A' m c'] w fun e w' => e = .returned (.int .i64 (cmpDN (val10 a) (val10 b))) ∧ Below w.heap.size w w' := by
  have HA := Lib.hid ha
  have HB := Lib.hid hb
  have HX := Lib.hid hx
  have HY := Lib.hid hy
  have HCA := Lib.hid Ca
  have HCB := Lib.hid Cb
  clear ha hb hx hy Ca Cb
  by_cases hnm : n = m
  · subst hnm
    have e0 : ((n : Int) == (n : Int)) = true := by simp
    have e1 : ((n : Int) != (n : Int)) = false := by simp
    go_enter Tryz.func68, Tryz.ntmps68
    go_wp2_with fail
    go_loopw [5] (fun v wr => ∃ k : Nat, k ≤ n ∧ v = .int .i64 ((k : Int) - 1) ∧ a.drop k = b.drop k ∧ Below w.heap.size w wr) (fun v _ => ((intOf v) + 1).toNat)
    case atStart => exact ⟨n, Nat.le_refl _, rfl, by rw [List.drop_of_length_le (by rw [HA.out]; exact Nat.le_refl _), List.drop_of_length_le (by rw [HB.out]; exact Nat.le_refl _)], Below.refl _ _⟩
    case round =>
      obtain ⟨k, hk, rfl, hd, hbw⟩ := hrel
      have HD := Lib.hid hd
      clear hd
      cases k with
      | zero =>
        have HE : Hid (cmpDN (val10 a) (val10 b) = 0) := Lib.hid (by
          have : a = b := by simpa using HD.out
          rw [this]; unfold cmpDN; rw [if_neg (by omega), if_neg (by omega)])
        go_wp2_with fail
        go_ret
        exact ⟨by rw [HE.out]; rfl, hbw⟩
      | succ j =>
        have hja : j < a.length := by rw [HA.out]; omega
        have hjb : j < b.length := by rw [HB.out]; omega
        obtain ⟨p, off, rfl, hlt, hcl⟩ := (HX.out.below hbw) (by intro e; rw [e] at hja; simp at hja)
        obtain ⟨p', off', rfl, hlt', hcl'⟩ := (HY.out.below hbw) (by intro e; rw [e] at hjb; simp at hjb)
        have h1 := hcl j _ (List.getElem?_eq_getElem hja)
        have h2 := hcl' j _ (List.getElem?_eq_getElem hjb)
        have HL : Hid (a[j] < b[j] → cmpDN (val10 a) (val10 b) = -1) := Lib.hid fun h => by
          unfold cmpDN; rw [if_pos (val_top hja hjb HCA.out.1 HD.out h)]
        have HG : Hid (b[j] < a[j] → cmpDN (val10 a) (val10 b) = 1) := Lib.hid fun h => by
          have := val_top hjb hja HCB.out.1 HD.out.symm h
          unfold cmpDN; rw [if_neg (by omega), if_pos this]
        have HS : Hid (a[j] = b[j] → a.drop j = b.drop j) := Lib.hid fun h => drop_step hja hjb HD.out h
        generalize a[j] = x at *
        generalize b[j] = y at *
        have e2 : (((j + 1 : Nat) : Int) - 1) = (j : Int) := by omega
        rw [e2]
        have hj50 : j < 50000 := by omega
        clear hcl hcl' hja hjb HD
        have t1 := cell_regrown h1
        have t2 := cell_regrown h2
        go_upto_region 8 with (fail)
        refine wp_region_quiet_below (by kernel_rfl) (by kernel_rfl) ?_
        repeat (go_big_quiet_step (fail))
        refine wpQuiet_nil ?_
        intro w1 hw'
        have hb1 : Below wr.heap.size wr w1 := by
          obtain ⟨⟨dq, osq⟩, hw''⟩ := hw'
          subst hw''
          exact below_regrown wr dq osq
        have HBW1 := Lib.hid (hbw.trans (hb1.mono hbw.size))
        clear hw' t1 t2
        by_cases hxy : x < y
        · have HR := Lib.hid (HL.out hxy)
          go_wp2_with fail
          go_ret
          exact ⟨by rw [HR.out] <;> rfl, HBW1.out⟩
        · replace h1 := (hb1.cell (p := ⟨p, _, none⟩) hlt).trans h1
          replace h2 := (hb1.cell (p := ⟨p', _, none⟩) hlt').trans h2
          have t1 := cell_regrown h1
          have t2 := cell_regrown h2
          clear hb1 HL
          go_upto_region 10 with (fail)
          refine wp_region_quiet_below (by kernel_rfl) (by kernel_rfl) ?_
          repeat (go_big_quiet_step (fail))
          refine wpQuiet_nil ?_
          intro w2 hw'
          have hb2 : Below w1.heap.size w1 w2 := by
            obtain ⟨⟨dq, osq⟩, hw''⟩ := hw'
            subst hw''
            exact below_regrown w1 dq osq
          have HBW2 := Lib.hid (HBW1.out.trans (hb2.mono HBW1.out.size))
          clear hw' t1 t2 hb2
          by_cases hyx : y < x
          · have HR := Lib.hid (HG.out hyx)
            go_wp2_with fail
            go_ret
            exact ⟨by rw [HR.out] <;> rfl, HBW2.out⟩
          · have HR := Lib.hid (HS.out (by omega))
            go_wp2_with fail
            go_roundw
            case rel => exact ⟨j, by omega, by go_num, HR.out, HBW2.out⟩
            case measure => simp [intOf]
  · have e0 : ((n : Int) == (m : Int)) = false := by rw [beq_eq_false_iff_ne]; omega
    have e1 : ((n : Int) != (m : Int)) = true := by rw [bne, e0]; rfl
    by_cases hlt : n < m
    · have HE : Hid (cmpDN (val10 a) (val10 b) = -1) := Lib.hid (by
        unfold cmpDN
        rw [if_pos (canon_len HCA.out HCB.out (by rw [HA.out, HB.out]; exact hlt))])
      go_enter Tryz.func68, Tryz.ntmps68
      go_wp2_with fail
      go_ret
      exact ⟨by rw [HE.out] <;> rfl, Below.refl _ _⟩
    · have HE : Hid (cmpDN (val10 a) (val10 b) = 1) := Lib.hid (by
        have := canon_len HCB.out HCA.out (by rw [HA.out, HB.out]; omega)
        unfold cmpDN
        rw [if_neg (by omega), if_pos this])
      go_enter Tryz.func68, Tryz.ntmps68
      go_wp2_with fail
      go_ret
      exact ⟨by rw [HE.out] <;> rfl, Below.refl _ _⟩
end Go.Proofs.YteicddmekhdjeaaGreatDoor

/- Sums and differences of digits. -/
namespace Go.Proofs.YteicddmekhdjeaaGreatDoor
open Go.RowKit

/-- What a sum's digits up to k and the carry then are. -/
def sumTo (a b : List Nat) : Nat → List Nat × Nat
  | 0 => ([], 0)
  | k + 1 => ((sumTo a b k).1 ++ [((sumTo a b k).2 + a.getD k 0 + b.getD k 0) % 10000], ((sumTo a b k).2 + a.getD k 0 + b.getD k 0) / 10000)
theorem getD_lt {a : List Nat} (h : Digs a) (k : Nat) : a.getD k 0 < 10000 := by
  rw [List.getD_eq_getElem?_getD]
  cases e : a[k]? with
  | none => simp
  | some x => simpa using h x (List.mem_of_getElem? e)
theorem sumTo_carry {a b : List Nat} (ha : Digs a) (hb : Digs b) : ∀ k, (sumTo a b k).2 ≤ 1
  | 0 => by show (0 : Nat) ≤ 1; omega
  | k + 1 => by
    have h1 := sumTo_carry ha hb k
    have h2 := getD_lt ha k
    have h3 := getD_lt hb k
    show ((sumTo a b k).2 + a.getD k 0 + b.getD k 0) / 10000 ≤ 1
    omega
theorem sumTo_len (a b : List Nat) : ∀ k, (sumTo a b k).1.length = k
  | 0 => rfl
  | k + 1 => by
    show ((sumTo a b k).1 ++ [_]).length = k + 1
    rw [List.length_append, sumTo_len a b k]; rfl
theorem sumTo_digs (a b : List Nat) : ∀ k, Digs (sumTo a b k).1
  | 0 => fun d hd => by cases hd
  | k + 1 => fun d hd => by
    rcases List.mem_append.1 (show d ∈ (sumTo a b k).1 ++ [_] from hd) with h | h
    · exact sumTo_digs a b k d h
    · obtain rfl := List.mem_singleton.1 h
      exact Nat.mod_lt _ (by omega)
theorem val_take_succ (a : List Nat) (k : Nat) : val10 (a.take (k + 1)) = val10 (a.take k) + 10000 ^ k * a.getD k 0 := by
  by_cases h : k < a.length
  · rw [List.take_succ_eq_append_getElem h, val10_append, List.length_take, Nat.min_eq_left (by omega)]
    have : a.getD k 0 = a[k] := by rw [List.getD_eq_getElem?_getD, List.getElem?_eq_getElem h]; rfl
    rw [this]
    show _ + 10000 ^ k * (a[k] + 10000 * 0) = _
    rw [Nat.mul_zero, Nat.add_zero]
  · have : a.getD k 0 = 0 := by rw [List.getD_eq_getElem?_getD, List.getElem?_eq_none (by omega)]; rfl
    rw [this, Nat.mul_zero, List.take_of_length_le (by omega), List.take_of_length_le (by omega)]
    rfl
theorem sumTo_val (a b : List Nat) : ∀ k, val10 (sumTo a b k).1 + 10000 ^ k * (sumTo a b k).2 = val10 (a.take k) + val10 (b.take k)
  | 0 => by simp [sumTo, val10]
  | k + 1 => by
    have ih := sumTo_val a b k
    rw [val_take_succ, val_take_succ]
    show val10 ((sumTo a b k).1 ++ [((sumTo a b k).2 + a.getD k 0 + b.getD k 0) % 10000]) + 10000 ^ (k + 1) * (((sumTo a b k).2 + a.getD k 0 + b.getD k 0) / 10000) = _
    rw [val10_append, sumTo_len]
    show val10 (sumTo a b k).1 + 10000 ^ k * (((sumTo a b k).2 + a.getD k 0 + b.getD k 0) % 10000 + 10000 * 0) + 10000 ^ (k + 1) * (((sumTo a b k).2 + a.getD k 0 + b.getD k 0) / 10000) = _
    rw [Nat.mul_zero, Nat.add_zero, Nat.pow_succ, Nat.mul_assoc, Nat.add_assoc, ← Nat.mul_add, Nat.mod_add_div, Nat.mul_add, Nat.mul_add]
    omega
end Go.Proofs.YteicddmekhdjeaaGreatDoor

/- Differences of digits. -/
namespace Go.Proofs.YteicddmekhdjeaaGreatDoor
open Go.RowKit

/-- What a difference's digits up to k and the borrow then are. -/
def lessTo (a b : List Nat) : Nat → List Nat × Nat
  | 0 => ([], 0)
  | k + 1 => if (lessTo a b k).2 + b.getD k 0 ≤ a.getD k 0 then ((lessTo a b k).1 ++ [a.getD k 0 - ((lessTo a b k).2 + b.getD k 0)], 0) else ((lessTo a b k).1 ++ [10000 + a.getD k 0 - ((lessTo a b k).2 + b.getD k 0)], 1)
theorem lessTo_borrow (a b : List Nat) : ∀ k, (lessTo a b k).2 ≤ 1
  | 0 => by show (0 : Nat) ≤ 1; omega
  | k + 1 => by
    unfold lessTo
    split
    · show (0 : Nat) ≤ 1; omega
    · show (1 : Nat) ≤ 1; omega
theorem lessTo_len (a b : List Nat) : ∀ k, (lessTo a b k).1.length = k
  | 0 => rfl
  | k + 1 => by
    have ih := lessTo_len a b k
    unfold lessTo
    split
    · show ((lessTo a b k).1 ++ [_]).length = k + 1
      rw [List.length_append, ih]; rfl
    · show ((lessTo a b k).1 ++ [_]).length = k + 1
      rw [List.length_append, ih]; rfl
theorem lessTo_digs {a b : List Nat} (ha : Digs a) (hb : Digs b) : ∀ k, Digs (lessTo a b k).1
  | 0 => fun d hd => by cases hd
  | k + 1 => by
    have ih := lessTo_digs ha hb k
    have h2 := getD_lt ha k
    have h3 := getD_lt hb k
    have h4 := lessTo_borrow a b k
    unfold lessTo
    split
    · intro d hd
      rcases List.mem_append.1 (show d ∈ (lessTo a b k).1 ++ [_] from hd) with h | h
      · exact ih d h
      · obtain rfl := List.mem_singleton.1 h
        omega
    · intro d hd
      rcases List.mem_append.1 (show d ∈ (lessTo a b k).1 ++ [_] from hd) with h | h
      · exact ih d h
      · obtain rfl := List.mem_singleton.1 h
        omega
theorem lessTo_val {a b : List Nat} (ha : Digs a) (hb : Digs b) : ∀ k, val10 (lessTo a b k).1 + val10 (b.take k) = val10 (a.take k) + 10000 ^ k * (lessTo a b k).2
  | 0 => by simp [lessTo, val10]
  | k + 1 => by
    have ih := lessTo_val ha hb k
    have h3 := getD_lt hb k
    have h4 := lessTo_borrow a b k
    rw [val_take_succ, val_take_succ]
    have hl := lessTo_len a b k
    unfold lessTo
    generalize lessTo a b k = p at *
    obtain ⟨l, w⟩ := p
    simp only at *
    generalize a.getD k 0 = x at *
    generalize b.getD k 0 = y at *
    split
    · rename_i h
      show val10 (l ++ [x - (w + y)]) + (val10 (b.take k) + 10000 ^ k * y) = val10 (a.take k) + 10000 ^ k * x + 10000 ^ (k + 1) * 0
      rw [val10_append, hl]
      show val10 l + 10000 ^ k * (x - (w + y) + 10000 * 0) + (val10 (b.take k) + 10000 ^ k * y) = val10 (a.take k) + 10000 ^ k * x + 10000 ^ (k + 1) * 0
      have e : 10000 ^ k * x = 10000 ^ k * (x - (w + y)) + 10000 ^ k * w + 10000 ^ k * y := by rw [← Nat.mul_add, ← Nat.mul_add]; congr 1; omega
      simp only [Nat.mul_zero, Nat.add_zero]
      omega
    · rename_i h
      show val10 (l ++ [10000 + x - (w + y)]) + (val10 (b.take k) + 10000 ^ k * y) = val10 (a.take k) + 10000 ^ k * x + 10000 ^ (k + 1) * 1
      rw [val10_append, hl]
      show val10 l + 10000 ^ k * (10000 + x - (w + y) + 10000 * 0) + (val10 (b.take k) + 10000 ^ k * y) = val10 (a.take k) + 10000 ^ k * x + 10000 ^ (k + 1) * 1
      have e : 10000 ^ k * (10000 + x - (w + y)) + 10000 ^ k * w + 10000 ^ k * y = 10000 ^ k * x + 10000 ^ k * 10000 := by rw [← Nat.mul_add, ← Nat.mul_add, ← Nat.mul_add]; congr 1; omega
      rw [Nat.pow_succ]
      simp only [Nat.mul_zero, Nat.add_zero, Nat.mul_one]
      omega
theorem lessTo_end {a b : List Nat} (ha : Digs a) (hb : Digs b) (hl : b.length ≤ a.length) (h : val10 b ≤ val10 a) : (lessTo a b a.length).2 = 0 ∧ val10 (lessTo a b a.length).1 = val10 a - val10 b := by
  have h1 := lessTo_val ha hb a.length
  rw [List.take_of_length_le hl, List.take_of_length_le (Nat.le_refl _)] at h1
  have h2 := val10_lt (lessTo_digs ha hb a.length)
  rw [lessTo_len] at h2
  have h3 := lessTo_borrow a b a.length
  rcases Nat.eq_zero_or_pos (lessTo a b a.length).2 with h0 | h0
  · rw [h0] at h1
    exact ⟨h0, by omega⟩
  · have e : (lessTo a b a.length).2 = 1 := by omega
    rw [e] at h1
    omega
end Go.Proofs.YteicddmekhdjeaaGreatDoor

/- cracknelref01.less: differences without signs. -/
namespace Go.Proofs.YteicddmekhdjeaaGreatDoor
open Go.RowKit Go.Sort

def LessTo (a b : List Nat) (w : World) (e : Ending) (w' : World) : Prop := ∃ A c, e = .returned (.slice A a.length c) ∧ a.length ≤ c ∧ DigAt w' A (lessTo a b a.length).1 ∧ Below w.heap.size w w'

set_option maxRecDepth 100000 in
set_option maxHeartbeats 4000000 in
theorem less_any (A : Option Addr) (n c : Nat) (A' : Option Addr) (m c' : Nat) (a b : List Nat) (w : World) (ha : a.length = n) (hb : b.length = m) (hn : n ≤ 50000) (hm : m ≤ 50000) (hx : DigAt w A a) (hy : DigAt w A' b) (Da : Digs a) (Db : Digs b) :
    Calls Tryz.prog 70 #[.slice A n c, .slice A' m c'] w (LessTo a b w) := by
  have HA := Lib.hid ha
  have HB := Lib.hid hb
  have HX := Lib.hid hx
  have HY := Lib.hid hy
  have HDA := Lib.hid Da
  have HDB := Lib.hid Db
  clear ha hb hx hy Da Db
  go_enter Tryz.func70, Tryz.ntmps70
  go_upto_block 0 with (fail)
  have HO0 := Lib.hid (DigOwn.empty w)
  have HE0 := Lib.hid ((Below.refl _ w).alloc (Nat.le_refl _) (.cells #[] 3))
  generalize w.alloc (.cells #[] 3) = w0 at *
  go_cut [5] (fun v wx => DigOwn wx w.heap.size v (lessTo a b n).1 ∧ Below w.heap.size w wx)
  case first =>
    go_wp2_with fail
    go_loopw [5, 6, 7] (fun v bv i wr => ∃ k : Nat, k ≤ n ∧ i = .int .i64 (k : Int) ∧ bv = .int .i64 ((lessTo a b k).2 : Int) ∧ DigOwn wr w.heap.size v (lessTo a b k).1 ∧ Below w.heap.size w wr ∧ w.heap.size ≤ wr.heap.size) (fun _ _ i _ => n - (intOf i).toNat)
    case atStart => exact ⟨0, Nat.zero_le _, rfl, rfl, HO0.out, HE0.out, HE0.out.size⟩
    case round =>
      clear HO0 HE0
      obtain ⟨k, hk, rfl, rfl, ho, hbw, hz⟩ := hrel
      have HO := Lib.hid ho
      have HBW := Lib.hid hbw
      have hcar := lessTo_borrow a b k
      have HS : Hid (lessTo a b (k + 1) = if (lessTo a b k).2 + b.getD k 0 ≤ a.getD k 0 then ((lessTo a b k).1 ++ [a.getD k 0 - ((lessTo a b k).2 + b.getD k 0)], 0) else ((lessTo a b k).1 ++ [10000 + a.getD k 0 - ((lessTo a b k).2 + b.getD k 0)], 1)) := Lib.hid rfl
      have HSL := Lib.hid (lessTo_len a b k)
      clear ho
      by_cases hkn : k < n
      · have HXB := Lib.hid (HX.out.below hbw)
        have HYB := Lib.hid (HY.out.below hbw)
        have hxl : a.getD k 0 < 10000 := getD_lt HDA.out k
        have hyl : b.getD k 0 < 10000 := getD_lt HDB.out k
        have HX0 : Hid True := Lib.hid trivial
        have HY0 : Hid (¬ k < m → b.getD k 0 = 0) := Lib.hid fun h => by rw [List.getD_eq_getElem?_getD, List.getElem?_eq_none (by rw [HB.out]; omega)]; rfl
        have HXC : Hid (∃ p off, A = some ⟨p, off, none⟩ ∧ wr.cell? ⟨p, off + k, none⟩ = some (.int .i64 (a.getD k 0 : Int))) := Lib.hid (by
          have hka : k < a.length := by rw [HA.out]; exact hkn
          obtain ⟨p, off, e, -, hcl⟩ := HXB.out (by intro e; rw [e] at hka; simp at hka)
          exact ⟨p, off, e, hcl k _ (by rw [List.getD_eq_getElem?_getD, List.getElem?_eq_getElem hka]; rfl)⟩)
        have HYC : Hid (k < m → ∃ p off, A' = some ⟨p, off, none⟩ ∧ wr.cell? ⟨p, off + k, none⟩ = some (.int .i64 (b.getD k 0 : Int))) := Lib.hid fun h => by
          have hkb : k < b.length := by rw [HB.out]; exact h
          obtain ⟨p, off, e, -, hcl⟩ := HYB.out (by intro e; rw [e] at hkb; simp at hkb)
          exact ⟨p, off, e, hcl k _ (by rw [List.getD_eq_getElem?_getD, List.getElem?_eq_getElem hkb]; rfl)⟩
        clear HXB HYB
        generalize a.getD k 0 = x at *
        generalize b.getD k 0 = y at *
        generalize (lessTo a b k).2 = bw at *
        generalize hLd : (lessTo a b k).1 = L at *
        clear hLd
        have hk50 : k ≤ 50001 := by omega
        have HLL : Hid (L.length + 1 ≤ 100000) := Lib.hid (by rw [HSL.out]; omega)
        obtain ⟨p, off, rfl, hc1⟩ := HXC.out
        by_cases hkm : k < m
        · obtain ⟨p', off', rfl, hc2⟩ := HYC.out hkm
          by_cases hxy : bw + y ≤ x
          · have hnn : ¬ (x : Int) - (bw : Int) - (y : Int) < 0 := by omega
            obtain ⟨r, hr⟩ : ∃ r : Nat, r = x - (bw + y) := ⟨_, rfl⟩
            have HSR : Hid (lessTo a b (k + 1) = (L ++ [r], 0)) := Lib.hid (by rw [HS.out]; rw [if_pos hxy, hr])
            have hr3 : r < 10000 := by omega
            have e1 : (x : Int) - (bw : Int) - (y : Int) = (r : Int) := by omega
            have e2 : (x : Int) - (bw : Int) = (r : Int) + (y : Int) := by omega
            have e3 : ((r : Int) - 10000) + 10000 = (r : Int) := by omega
            clear hr HS HX0 HY0 HXC HYC
            have HOA := Lib.hid (HO.out.alloc (.cells #[.int .i64 (r : Int)] 3))
            have HDA2 := Lib.hid (DigAt.one wr r)
            have HWA := Lib.hid (HBW.out.alloc hz (.cells #[.int .i64 (r : Int)] 3))
            have hsz : w.heap.size ≤ (wr.alloc (.cells #[.int .i64 (r : Int)] 3)).heap.size := by simp; omega
            go_wp2_with (at_builtin; refine wpList_dapp rfl (.tmp 36) (.tmp 38) rfl w.heap.size _ L [r] (some ⟨wr.heap.size, 0, none⟩) 1 1 rfl rfl HOA.out rfl HDA2.out (by have := HLL.out; simp; omega) hsz ?_; intro v1 w2 ho hgr hat; have HO2 := Lib.hid ho; have HW2 := Lib.hid (HWA.out.grown hgr hsz (fun q hq => (HO.out.base q hq).1)); have hz2 : w.heap.size ≤ w2.heap.size := HW2.out.size; clear ho hgr hat)
            exact ⟨⟨k + 1, by omega, by go_num, by rw [HSR.out]; rfl, by rw [HSR.out]; exact HO2.out, HW2.out, hz2⟩, by simp [intOf]; omega⟩
          · have hnn : (x : Int) - (bw : Int) - (y : Int) < 0 := by omega
            obtain ⟨r, hr⟩ : ∃ r : Nat, r = 10000 + x - (bw + y) := ⟨_, rfl⟩
            have HSR : Hid (lessTo a b (k + 1) = (L ++ [r], 1)) := Lib.hid (by rw [HS.out]; rw [if_neg hxy, hr])
            have hr3 : r < 10000 := by omega
            have e1 : (x : Int) - (bw : Int) - (y : Int) = (r : Int) - 10000 := by omega
            have e2 : (x : Int) - (bw : Int) = (r : Int) - 10000 + (y : Int) := by omega
            have e3 : ((r : Int) - 10000) + 10000 = (r : Int) := by omega
            clear hr HS HX0 HY0 HXC HYC
            have HOA := Lib.hid (HO.out.alloc (.cells #[.int .i64 (r : Int)] 3))
            have HDA2 := Lib.hid (DigAt.one wr r)
            have HWA := Lib.hid (HBW.out.alloc hz (.cells #[.int .i64 (r : Int)] 3))
            have hsz : w.heap.size ≤ (wr.alloc (.cells #[.int .i64 (r : Int)] 3)).heap.size := by simp; omega
            go_wp2_with (at_builtin; refine wpList_dapp rfl (.tmp 36) (.tmp 38) rfl w.heap.size _ L [r] (some ⟨wr.heap.size, 0, none⟩) 1 1 rfl rfl HOA.out rfl HDA2.out (by have := HLL.out; simp; omega) hsz ?_; intro v1 w2 ho hgr hat; have HO2 := Lib.hid ho; have HW2 := Lib.hid (HWA.out.grown hgr hsz (fun q hq => (HO.out.base q hq).1)); have hz2 : w.heap.size ≤ w2.heap.size := HW2.out.size; clear ho hgr hat)
            exact ⟨⟨k + 1, by omega, by go_num, by rw [HSR.out]; rfl, by rw [HSR.out]; exact HO2.out, HW2.out, hz2⟩, by simp [intOf]; omega⟩
        · have hy0 := HY0.out hkm
          subst hy0
          by_cases hxy : bw + 0 ≤ x
          · have hnn : ¬ (x : Int) - (bw : Int) < 0 := by omega
            obtain ⟨r, hr⟩ : ∃ r : Nat, r = x - (bw + 0) := ⟨_, rfl⟩
            have HSR : Hid (lessTo a b (k + 1) = (L ++ [r], 0)) := Lib.hid (by rw [HS.out]; rw [if_pos hxy, hr])
            have hr3 : r < 10000 := by omega
            have e1 : (x : Int) - (bw : Int) - ((0 : Nat) : Int) = (r : Int) := by omega
            have e2 : (x : Int) - (bw : Int) = (r : Int) + ((0 : Nat) : Int) := by omega
            have e3 : ((r : Int) - 10000) + 10000 = (r : Int) := by omega
            clear hr HS HX0 HY0 HXC HYC
            have HOA := Lib.hid (HO.out.alloc (.cells #[.int .i64 (r : Int)] 3))
            have HDA2 := Lib.hid (DigAt.one wr r)
            have HWA := Lib.hid (HBW.out.alloc hz (.cells #[.int .i64 (r : Int)] 3))
            have hsz : w.heap.size ≤ (wr.alloc (.cells #[.int .i64 (r : Int)] 3)).heap.size := by simp; omega
            go_wp2_with (at_builtin; refine wpList_dapp rfl (.tmp 36) (.tmp 38) rfl w.heap.size _ L [r] (some ⟨wr.heap.size, 0, none⟩) 1 1 rfl rfl HOA.out rfl HDA2.out (by have := HLL.out; simp; omega) hsz ?_; intro v1 w2 ho hgr hat; have HO2 := Lib.hid ho; have HW2 := Lib.hid (HWA.out.grown hgr hsz (fun q hq => (HO.out.base q hq).1)); have hz2 : w.heap.size ≤ w2.heap.size := HW2.out.size; clear ho hgr hat)
            exact ⟨⟨k + 1, by omega, by go_num, by rw [HSR.out]; rfl, by rw [HSR.out]; exact HO2.out, HW2.out, hz2⟩, by simp [intOf]; omega⟩
          · have hnn : (x : Int) - (bw : Int) < 0 := by omega
            obtain ⟨r, hr⟩ : ∃ r : Nat, r = 10000 + x - (bw + 0) := ⟨_, rfl⟩
            have HSR : Hid (lessTo a b (k + 1) = (L ++ [r], 1)) := Lib.hid (by rw [HS.out]; rw [if_neg hxy, hr])
            have hr3 : r < 10000 := by omega
            have e1 : (x : Int) - (bw : Int) - ((0 : Nat) : Int) = (r : Int) - 10000 := by omega
            have e2 : (x : Int) - (bw : Int) = (r : Int) - 10000 + ((0 : Nat) : Int) := by omega
            have e3 : ((r : Int) - 10000) + 10000 = (r : Int) := by omega
            clear hr HS HX0 HY0 HXC HYC
            have HOA := Lib.hid (HO.out.alloc (.cells #[.int .i64 (r : Int)] 3))
            have HDA2 := Lib.hid (DigAt.one wr r)
            have HWA := Lib.hid (HBW.out.alloc hz (.cells #[.int .i64 (r : Int)] 3))
            have hsz : w.heap.size ≤ (wr.alloc (.cells #[.int .i64 (r : Int)] 3)).heap.size := by simp; omega
            go_wp2_with (at_builtin; refine wpList_dapp rfl (.tmp 36) (.tmp 38) rfl w.heap.size _ L [r] (some ⟨wr.heap.size, 0, none⟩) 1 1 rfl rfl HOA.out rfl HDA2.out (by have := HLL.out; simp; omega) hsz ?_; intro v1 w2 ho hgr hat; have HO2 := Lib.hid ho; have HW2 := Lib.hid (HWA.out.grown hgr hsz (fun q hq => (HO.out.base q hq).1)); have hz2 : w.heap.size ≤ w2.heap.size := HW2.out.size; clear ho hgr hat)
            exact ⟨⟨k + 1, by omega, by go_num, by rw [HSR.out]; rfl, by rw [HSR.out]; exact HO2.out, HW2.out, hz2⟩, by simp [intOf]; omega⟩
      · obtain rfl : k = n := by omega
        have HF : Hid (DigOwn wr w.heap.size u5 (lessTo a b k).1 ∧ Below w.heap.size w wr) := Lib.hid ⟨HO.out, hbw⟩
        clear HS
        generalize (lessTo a b k).2 = bw at *
        go_wp2_with fail
        go_meet
        exact HF.out
  case rest =>
  obtain ⟨ho, hbw⟩ := hcut
  obtain ⟨A1, c1, e1, hc1, hat, -⟩ := ho.slice
  rw [lessTo_len] at e1 hc1
  subst e1
  have HR : Hid (LessTo a b w (.returned (.slice A1 n c1)) wc) := Lib.hid ⟨A1, c1, by rw [HA.out], by rw [HA.out]; exact hc1, by rw [HA.out]; exact hat, hbw⟩
  clear ho hat hc1
  go_wp2_with fail
  go_ret
  exact HR.out
end Go.Proofs.YteicddmekhdjeaaGreatDoor

/- cracknelref01.plus: sums without signs. -/
namespace Go.Proofs.YteicddmekhdjeaaGreatDoor
open Go.RowKit Go.Sort

/-- A sum's digits: how many rounds there are. -/
def sumN (a b : List Nat) : Nat := max a.length b.length + (sumTo a b (max a.length b.length)).2
def PlusTo (a b : List Nat) (w : World) (e : Ending) (w' : World) : Prop := ∃ A c ds, e = .returned (.slice A ds.length c) ∧ Digs ds ∧ val10 ds = val10 a + val10 b ∧ ds.length ≤ max a.length b.length + 1 ∧ ds.length ≤ c ∧ DigAt w' A ds ∧ Below w.heap.size w w'
theorem sumTo_end {a b : List Nat} {k : Nat} (ha : a.length ≤ k) (hb : b.length ≤ k) (hc : (sumTo a b k).2 = 0) : val10 (sumTo a b k).1 = val10 a + val10 b := by
  have h := sumTo_val a b k
  rw [hc, List.take_of_length_le ha, List.take_of_length_le hb] at h
  omega
theorem sumTo_over {a b : List Nat} (ha : Digs a) (hb : Digs b) {k : Nat} (h1 : a.length ≤ k) (h2 : b.length ≤ k) : (sumTo a b (k + 1)).2 = 0 := by
  show ((sumTo a b k).2 + a.getD k 0 + b.getD k 0) / 10000 = 0
  have := sumTo_carry ha hb k
  rw [List.getD_eq_getElem?_getD, List.getElem?_eq_none h1, List.getD_eq_getElem?_getD, List.getElem?_eq_none h2]
  simp
  omega

set_option maxRecDepth 100000 in
set_option maxHeartbeats 4000000 in
theorem plus_any (A : Option Addr) (n c : Nat) (A' : Option Addr) (m c' : Nat) (a b : List Nat) (w : World) (ha : a.length = n) (hb : b.length = m) (hn : n ≤ 50000) (hm : m ≤ 50000) (hx : DigAt w A a) (hy : DigAt w A' b) (Da : Digs a) (Db : Digs b) :
    Calls Tryz.prog 117 #[.slice A n c, .slice A' m c'] w (PlusTo a b w) := by
  have HA := Lib.hid ha
  have HB := Lib.hid hb
  have HX := Lib.hid hx
  have HY := Lib.hid hy
  have HDA := Lib.hid Da
  have HDB := Lib.hid Db
  clear ha hb hx hy Da Db
  go_enter Tryz.func117, Tryz.ntmps117
  go_upto_block 0 with (fail)
  have HO0 := Lib.hid (DigOwn.empty w)
  have HE0 := Lib.hid ((Below.refl _ w).alloc (Nat.le_refl _) (.cells #[] 3))
  generalize w.alloc (.cells #[] 3) = w0 at *
  go_cut [5] (fun v wx => ∃ k : Nat, DigOwn wx w.heap.size v (sumTo a b k).1 ∧ a.length ≤ k ∧ b.length ≤ k ∧ k ≤ max n m + 1 ∧ (sumTo a b k).2 = 0 ∧ Below w.heap.size w wx)
  case first =>
    go_wp2_with fail
    go_loopw [5, 6, 7] (fun v cy i wr => ∃ k : Nat, i = .int .i64 (k : Int) ∧ cy = .int .i64 ((sumTo a b k).2 : Int) ∧ DigOwn wr w.heap.size v (sumTo a b k).1 ∧ k ≤ max n m + 1 ∧ (max n m < k → (sumTo a b k).2 = 0) ∧ Below w.heap.size w wr ∧ w.heap.size ≤ wr.heap.size) (fun _ _ i _ => max n m + 1 - (intOf i).toNat)
    case atStart => exact ⟨0, rfl, rfl, HO0.out, by omega, fun h => by omega, HE0.out, HE0.out.size⟩
    case round =>
      clear HO0 HE0
      obtain ⟨k, rfl, rfl, ho, hk, hkc, hbw, hz⟩ := hrel
      have HO := Lib.hid ho
      have HBW := Lib.hid hbw
      have hcar := sumTo_carry HDA.out HDB.out k
      have HS : Hid (sumTo a b (k + 1) = ((sumTo a b k).1 ++ [((sumTo a b k).2 + a.getD k 0 + b.getD k 0) % 10000], ((sumTo a b k).2 + a.getD k 0 + b.getD k 0) / 10000)) := Lib.hid rfl
      have HSL := Lib.hid (sumTo_len a b k)
      have HOV : Hid (max n m < k + 1 → (sumTo a b (k + 1)).2 = 0) := Lib.hid fun h => sumTo_over HDA.out HDB.out (by rw [HA.out]; omega) (by rw [HB.out]; omega)
      clear ho
      by_cases hend : n ≤ k ∧ m ≤ k ∧ (sumTo a b k).2 = 0
      · obtain ⟨h1, h2, h3⟩ := hend
        have HF : Hid (∃ k : Nat, DigOwn wr w.heap.size u5 (sumTo a b k).1 ∧ a.length ≤ k ∧ b.length ≤ k ∧ k ≤ max n m + 1 ∧ (sumTo a b k).2 = 0 ∧ Below w.heap.size w wr) := Lib.hid ⟨k, HO.out, by rw [HA.out]; exact h1, by rw [HB.out]; exact h2, hk, h3, hbw⟩
        clear HS HOV
        generalize (sumTo a b k).2 = cc at *
        subst h3
        go_wp2_with fail
        go_meet
        exact HF.out
      · have HXB := Lib.hid (HX.out.below hbw)
        have HYB := Lib.hid (HY.out.below hbw)
        have hxl : a.getD k 0 < 10000 := getD_lt HDA.out k
        have hyl : b.getD k 0 < 10000 := getD_lt HDB.out k
        have HX0 : Hid (¬ k < n → a.getD k 0 = 0) := Lib.hid fun h => by rw [List.getD_eq_getElem?_getD, List.getElem?_eq_none (by rw [HA.out]; omega)]; rfl
        have HY0 : Hid (¬ k < m → b.getD k 0 = 0) := Lib.hid fun h => by rw [List.getD_eq_getElem?_getD, List.getElem?_eq_none (by rw [HB.out]; omega)]; rfl
        have HXC : Hid (k < n → ∃ p off, A = some ⟨p, off, none⟩ ∧ wr.cell? ⟨p, off + k, none⟩ = some (.int .i64 (a.getD k 0 : Int))) := Lib.hid fun h => by
          have hka : k < a.length := by rw [HA.out]; exact h
          obtain ⟨p, off, e, -, hcl⟩ := HXB.out (by intro e; rw [e] at hka; simp at hka)
          exact ⟨p, off, e, hcl k _ (by rw [List.getD_eq_getElem?_getD, List.getElem?_eq_getElem hka]; rfl)⟩
        have HYC : Hid (k < m → ∃ p off, A' = some ⟨p, off, none⟩ ∧ wr.cell? ⟨p, off + k, none⟩ = some (.int .i64 (b.getD k 0 : Int))) := Lib.hid fun h => by
          have hkb : k < b.length := by rw [HB.out]; exact h
          obtain ⟨p, off, e, -, hcl⟩ := HYB.out (by intro e; rw [e] at hkb; simp at hkb)
          exact ⟨p, off, e, hcl k _ (by rw [List.getD_eq_getElem?_getD, List.getElem?_eq_getElem hkb]; rfl)⟩
        clear HXB HYB
        generalize a.getD k 0 = x at *
        generalize b.getD k 0 = y at *
        generalize (sumTo a b k).2 = cc at *
        generalize hLd : (sumTo a b k).1 = L at *
        clear hLd
        have hk50 : k ≤ 50001 := by omega
        have HLL : Hid (L.length + 1 ≤ 100000) := Lib.hid (by rw [HSL.out]; omega)
        by_cases hkn : k < n
        · obtain ⟨p, off, rfl, hc1⟩ := HXC.out hkn
          by_cases hkm : k < m
          · obtain ⟨p', off', rfl, hc2⟩ := HYC.out hkm
            obtain ⟨s, hs⟩ : ∃ s : Nat, s = cc + x + y := ⟨_, rfl⟩
            obtain ⟨r, hr⟩ : ∃ r : Nat, r = s % 10000 := ⟨_, rfl⟩
            obtain ⟨q, hq⟩ : ∃ q : Nat, q = s / 10000 := ⟨_, rfl⟩
            have es : (cc : Int) + (x : Int) + (y : Int) = (s : Int) := by omega
            have er : (s : Int).tmod 10000 = (r : Int) := by rw [Int.tmod_eq_emod_of_nonneg (by omega)]; omega
            have eq : (s : Int).tdiv 10000 = (q : Int) := by rw [Int.tdiv_eq_ediv_of_nonneg (by omega)]; omega
            have HSR : Hid (sumTo a b (k + 1) = (L ++ [r], q)) := Lib.hid (by rw [HS.out, hr, hq, hs])
            have hs3 : s < 30000 := by omega
            have hr3 : r < 10000 := by omega
            have hq3 : q < 10000 := by omega
            rw [HSR.out] at HOV
            clear hs hr hq HS HX0 HY0 HXC HYC
            go_upto_region 10 with (fail)
            try rw [es]
            have HOA := Lib.hid (HO.out.alloc (.cells #[.int .i64 (r : Int)] 3))
            have HDA2 := Lib.hid (DigAt.one wr r)
            have HWA := Lib.hid (HBW.out.alloc hz (.cells #[.int .i64 (r : Int)] 3))
            have hsz : w.heap.size ≤ (wr.alloc (.cells #[.int .i64 (r : Int)] 3)).heap.size := by simp; omega
            go_wp2_with (at_builtin; refine wpList_dapp rfl (.tmp 47) (.tmp 50) rfl w.heap.size _ L [r] (some ⟨wr.heap.size, 0, none⟩) 1 1 rfl rfl HOA.out rfl HDA2.out (by have := HLL.out; simp; omega) hsz ?_; intro v1 w2 ho hgr hat; have HO2 := Lib.hid ho; have HW2 := Lib.hid (HWA.out.grown hgr hsz (fun q hq => (HO.out.base q hq).1)); have hz2 : w.heap.size ≤ w2.heap.size := HW2.out.size; clear ho hgr hat)
            exact ⟨⟨k + 1, by go_num, by rw [HSR.out], by rw [HSR.out]; exact HO2.out, by omega, by rw [HSR.out]; exact HOV.out, HW2.out, hz2⟩, by simp [intOf]; omega⟩

          · have hy0 := HY0.out hkm
            obtain ⟨s, hs⟩ : ∃ s : Nat, s = cc + x + y := ⟨_, rfl⟩
            obtain ⟨r, hr⟩ : ∃ r : Nat, r = s % 10000 := ⟨_, rfl⟩
            obtain ⟨q, hq⟩ : ∃ q : Nat, q = s / 10000 := ⟨_, rfl⟩
            have es : (cc : Int) + (x : Int) = (s : Int) := by omega
            have er : (s : Int).tmod 10000 = (r : Int) := by rw [Int.tmod_eq_emod_of_nonneg (by omega)]; omega
            have eq : (s : Int).tdiv 10000 = (q : Int) := by rw [Int.tdiv_eq_ediv_of_nonneg (by omega)]; omega
            have HSR : Hid (sumTo a b (k + 1) = (L ++ [r], q)) := Lib.hid (by rw [HS.out, hr, hq, hs])
            have hs3 : s < 30000 := by omega
            have hr3 : r < 10000 := by omega
            have hq3 : q < 10000 := by omega
            rw [HSR.out] at HOV
            clear hs hr hq HS HX0 HY0 HXC HYC
            go_upto_region 10 with (fail)
            try rw [es]
            have HOA := Lib.hid (HO.out.alloc (.cells #[.int .i64 (r : Int)] 3))
            have HDA2 := Lib.hid (DigAt.one wr r)
            have HWA := Lib.hid (HBW.out.alloc hz (.cells #[.int .i64 (r : Int)] 3))
            have hsz : w.heap.size ≤ (wr.alloc (.cells #[.int .i64 (r : Int)] 3)).heap.size := by simp; omega
            go_wp2_with (at_builtin; refine wpList_dapp rfl (.tmp 47) (.tmp 50) rfl w.heap.size _ L [r] (some ⟨wr.heap.size, 0, none⟩) 1 1 rfl rfl HOA.out rfl HDA2.out (by have := HLL.out; simp; omega) hsz ?_; intro v1 w2 ho hgr hat; have HO2 := Lib.hid ho; have HW2 := Lib.hid (HWA.out.grown hgr hsz (fun q hq => (HO.out.base q hq).1)); have hz2 : w.heap.size ≤ w2.heap.size := HW2.out.size; clear ho hgr hat)
            exact ⟨⟨k + 1, by go_num, by rw [HSR.out], by rw [HSR.out]; exact HO2.out, by omega, by rw [HSR.out]; exact HOV.out, HW2.out, hz2⟩, by simp [intOf]; omega⟩

        · have hx0 := HX0.out hkn
          by_cases hkm : k < m
          · obtain ⟨p', off', rfl, hc2⟩ := HYC.out hkm
            obtain ⟨s, hs⟩ : ∃ s : Nat, s = cc + x + y := ⟨_, rfl⟩
            obtain ⟨r, hr⟩ : ∃ r : Nat, r = s % 10000 := ⟨_, rfl⟩
            obtain ⟨q, hq⟩ : ∃ q : Nat, q = s / 10000 := ⟨_, rfl⟩
            have es : (cc : Int) + (y : Int) = (s : Int) := by omega
            have er : (s : Int).tmod 10000 = (r : Int) := by rw [Int.tmod_eq_emod_of_nonneg (by omega)]; omega
            have eq : (s : Int).tdiv 10000 = (q : Int) := by rw [Int.tdiv_eq_ediv_of_nonneg (by omega)]; omega
            have HSR : Hid (sumTo a b (k + 1) = (L ++ [r], q)) := Lib.hid (by rw [HS.out, hr, hq, hs])
            have hs3 : s < 30000 := by omega
            have hr3 : r < 10000 := by omega
            have hq3 : q < 10000 := by omega
            rw [HSR.out] at HOV
            clear hs hr hq HS HX0 HY0 HXC HYC
            go_upto_region 10 with (fail)
            try rw [es]
            have HOA := Lib.hid (HO.out.alloc (.cells #[.int .i64 (r : Int)] 3))
            have HDA2 := Lib.hid (DigAt.one wr r)
            have HWA := Lib.hid (HBW.out.alloc hz (.cells #[.int .i64 (r : Int)] 3))
            have hsz : w.heap.size ≤ (wr.alloc (.cells #[.int .i64 (r : Int)] 3)).heap.size := by simp; omega
            go_wp2_with (at_builtin; refine wpList_dapp rfl (.tmp 47) (.tmp 50) rfl w.heap.size _ L [r] (some ⟨wr.heap.size, 0, none⟩) 1 1 rfl rfl HOA.out rfl HDA2.out (by have := HLL.out; simp; omega) hsz ?_; intro v1 w2 ho hgr hat; have HO2 := Lib.hid ho; have HW2 := Lib.hid (HWA.out.grown hgr hsz (fun q hq => (HO.out.base q hq).1)); have hz2 : w.heap.size ≤ w2.heap.size := HW2.out.size; clear ho hgr hat)
            exact ⟨⟨k + 1, by go_num, by rw [HSR.out], by rw [HSR.out]; exact HO2.out, by omega, by rw [HSR.out]; exact HOV.out, HW2.out, hz2⟩, by simp [intOf]; omega⟩

          · have hy0 := HY0.out hkm
            have hc0 : 0 < cc := by omega
            obtain ⟨s, hs⟩ : ∃ s : Nat, s = cc + x + y := ⟨_, rfl⟩
            obtain ⟨r, hr⟩ : ∃ r : Nat, r = s % 10000 := ⟨_, rfl⟩
            obtain ⟨q, hq⟩ : ∃ q : Nat, q = s / 10000 := ⟨_, rfl⟩
            have es : (cc : Int) = (s : Int) := by omega
            have er : (s : Int).tmod 10000 = (r : Int) := by rw [Int.tmod_eq_emod_of_nonneg (by omega)]; omega
            have eq : (s : Int).tdiv 10000 = (q : Int) := by rw [Int.tdiv_eq_ediv_of_nonneg (by omega)]; omega
            have HSR : Hid (sumTo a b (k + 1) = (L ++ [r], q)) := Lib.hid (by rw [HS.out, hr, hq, hs])
            have hs3 : s < 30000 := by omega
            have hr3 : r < 10000 := by omega
            have hq3 : q < 10000 := by omega
            rw [HSR.out] at HOV
            clear hs hr hq HS HX0 HY0 HXC HYC
            go_upto_region 10 with (fail)
            try rw [es]
            have HOA := Lib.hid (HO.out.alloc (.cells #[.int .i64 (r : Int)] 3))
            have HDA2 := Lib.hid (DigAt.one wr r)
            have HWA := Lib.hid (HBW.out.alloc hz (.cells #[.int .i64 (r : Int)] 3))
            have hsz : w.heap.size ≤ (wr.alloc (.cells #[.int .i64 (r : Int)] 3)).heap.size := by simp; omega
            go_wp2_with (at_builtin; refine wpList_dapp rfl (.tmp 47) (.tmp 50) rfl w.heap.size _ L [r] (some ⟨wr.heap.size, 0, none⟩) 1 1 rfl rfl HOA.out rfl HDA2.out (by have := HLL.out; simp; omega) hsz ?_; intro v1 w2 ho hgr hat; have HO2 := Lib.hid ho; have HW2 := Lib.hid (HWA.out.grown hgr hsz (fun q hq => (HO.out.base q hq).1)); have hz2 : w.heap.size ≤ w2.heap.size := HW2.out.size; clear ho hgr hat)
            exact ⟨⟨k + 1, by go_num, by rw [HSR.out], by rw [HSR.out]; exact HO2.out, by omega, by rw [HSR.out]; exact HOV.out, HW2.out, hz2⟩, by simp [intOf]; omega⟩

  case rest =>
  obtain ⟨k, ho, h1, h2, h3, h4, hbw⟩ := hcut
  obtain ⟨A1, c1, rfl, hc1, hat, -⟩ := ho.slice
  have HR : Hid (PlusTo a b w (.returned (.slice A1 (sumTo a b k).1.length c1)) wc) := Lib.hid ⟨A1, c1, _, rfl, sumTo_digs a b k, sumTo_end h1 h2 h4, by rw [sumTo_len, HA.out, HB.out]; exact h3, hc1, hat, hbw⟩
  clear ho hat h1 h2 h3 h4
  generalize (sumTo a b k).1.length = len at *
  go_wp2_with fail
  go_ret
  exact HR.out
end Go.Proofs.YteicddmekhdjeaaGreatDoor

/- cracknelref01.Neg, Abs, Sign. -/
namespace Go.Proofs.YteicddmekhdjeaaGreatDoor
open Go.RowKit Go.Sort

theorem DigAt.old {w w1 : World} {A : Option Addr} {xs : List Nat} (h : DigAt w A xs) {p : Addr} (hp : w.heap.size ≤ p.block) (hb : Below w.heap.size w w1) (u : Value) : DigAt (w1.setCell p u) A xs := h.below (hb.setCell hp u)
theorem neg_end {w w1 : World} {g : Nat} {s0 rs s : Bool} {v0 rv v : Value} {A1 : Option Addr} {xs : List Nat} (hR : ZBox w1 (g + 1) rs rv) (hA : DigAt w A1 xs) (hW : Below w.heap.size w w1) (hg : w.heap.size = g) :
    ((((w1.setCell ⟨g, 0, none⟩ (.bool s)).setCell ⟨g + 1, 0, none⟩ (.bool s)).setCell ⟨g + 1, 1, none⟩ v).cell? ⟨g + 1, 0, none⟩ = some (.bool s)) ∧
    ((((w1.setCell ⟨g, 0, none⟩ (.bool s)).setCell ⟨g + 1, 0, none⟩ (.bool s)).setCell ⟨g + 1, 1, none⟩ v).cell? ⟨g + 1, 1, none⟩ = some v) ∧
    DigAt (((w1.setCell ⟨g, 0, none⟩ (.bool s)).setCell ⟨g + 1, 0, none⟩ (.bool s)).setCell ⟨g + 1, 1, none⟩ v) A1 xs ∧
    Below w.heap.size w (((w1.setCell ⟨g, 0, none⟩ (.bool s)).setCell ⟨g + 1, 0, none⟩ (.bool s)).setCell ⟨g + 1, 1, none⟩ v) := by
  have h := ((hR.far (p := ⟨g, 0, none⟩) (by show g + 1 ≠ g; omega) (.bool s)).put0 s).put1 v
  have hb := ((hW.setCell (p := ⟨g, 0, none⟩) (by rw [hg]; exact Nat.le_refl _) (.bool s)).setCell (p := ⟨g + 1, 0, none⟩) (by rw [hg]; show g ≤ g + 1; omega) (.bool s)).setCell (p := ⟨g + 1, 1, none⟩) (by rw [hg]; show g ≤ g + 1; omega) v
  exact ⟨h.cells.1, h.cells.2, hA.below hb, hb⟩

set_option maxHeartbeats 1000000 in
theorem neg_any (neg : Bool) (A : Option Addr) (n c : Nat) (ds : List Nat) (w : World) (hn : ds.length = n) (hc : n ≤ c) (hx : DigAt w A ds) :
    Calls Tryz.prog 35 #[.agg #[.bool neg, .slice A n c]] w (RetD (!neg && decide (0 < n)) ds w) := by
  have HN := Lib.hid hn
  have HX := Lib.hid hx
  clear hn hx
  generalize hg : w.heap.size = g
  have B0 := (ZBox.new w neg (.slice A n c)).alloc (.cells #[.bool false, .slice none 0 0] 30)
  have R0 := ZBox.new (w.alloc (.cells #[.bool neg, .slice A n c] 30)) false (.slice none 0 0)
  have hb0 : Below w.heap.size w ((w.alloc (.cells #[.bool neg, .slice A n c] 30)).alloc (.cells #[.bool false, .slice none 0 0] 30)) := ((Below.refl _ _).alloc (Nat.le_refl _) _).alloc (by simp) _
  rw [World.size_alloc, hg] at R0
  rw [hg] at B0
  go_enter Tryz.func35, Tryz.ntmps35
  go_upto_region 1 with (fail)
  generalize (w.alloc (.cells #[.bool neg, .slice A n c] 30)).alloc (.cells #[.bool false, .slice none 0 0] 30) = w1 at *
  obtain ⟨b0, b1⟩ := B0.cells
  have bf0 := B0.frozen 0
  obtain ⟨r0, r1⟩ := R0.cells
  have rf0 := R0.frozen 0
  have rf1 := R0.frozen 1
  have HR := Lib.hid R0
  have HW := Lib.hid hb0
  clear B0 R0 hb0
  cases neg with
  | true =>
    obtain ⟨p0, p1, pa, pb⟩ := neg_end (s0 := true) (v0 := .bool true) (s := false) (v := .slice A n c) HR.out HX.out HW.out hg
    go_wp2_with fail
    refine bodyPost_ret (v := .agg #[.bool false, .slice A n c]) (by simp [results, Tryz.results35, go_sem, p0, p1]) rfl ?_
    exact ⟨A, c, by rw [HN.out]; rfl, by rw [HN.out]; exact hc, pa, pb⟩
  | false =>
    obtain ⟨p0, p1, pa, pb⟩ := neg_end (s0 := true) (v0 := .bool true) (s := decide (0 < n)) (v := .slice A n c) HR.out HX.out HW.out hg
    go_wp2_with fail
    refine bodyPost_ret (v := .agg #[.bool (decide (0 < n)), .slice A n c]) (by simp [results, Tryz.results35, go_sem, p0, p1]) rfl ?_
    exact ⟨A, c, by rw [HN.out]; rfl, by rw [HN.out]; exact hc, pa, pb⟩

set_option maxHeartbeats 1000000 in
theorem abs_any (neg : Bool) (A : Option Addr) (n c : Nat) (ds : List Nat) (w : World) (hn : ds.length = n) (hc : n ≤ c) (hx : DigAt w A ds) :
    Calls Tryz.prog 66 #[.agg #[.bool neg, .slice A n c]] w (RetD false ds w) := by
  have HN := Lib.hid hn
  have HX := Lib.hid hx
  clear hn hx
  generalize hg : w.heap.size = g
  have B0 := (ZBox.new w neg (.slice A n c)).alloc (.cells #[.bool false, .slice none 0 0] 30)
  have R0 := ZBox.new (w.alloc (.cells #[.bool neg, .slice A n c] 30)) false (.slice none 0 0)
  have hb0 : Below w.heap.size w ((w.alloc (.cells #[.bool neg, .slice A n c] 30)).alloc (.cells #[.bool false, .slice none 0 0] 30)) := ((Below.refl _ _).alloc (Nat.le_refl _) _).alloc (by simp) _
  rw [World.size_alloc, hg] at R0
  rw [hg] at B0
  go_enter Tryz.func66, Tryz.ntmps66
  go_upto_region 1 with (fail)
  generalize (w.alloc (.cells #[.bool neg, .slice A n c] 30)).alloc (.cells #[.bool false, .slice none 0 0] 30) = w1 at *
  obtain ⟨b0, b1⟩ := B0.cells
  have bf0 := B0.frozen 0
  obtain ⟨r0, r1⟩ := R0.cells
  have rf0 := R0.frozen 0
  have rf1 := R0.frozen 1
  have HR := Lib.hid R0
  have HW := Lib.hid hb0
  clear B0 R0 hb0
  obtain ⟨p0, p1, pa, pb⟩ := neg_end (s0 := true) (v0 := .bool true) (s := false) (v := .slice A n c) HR.out HX.out HW.out hg
  go_wp2_with fail
  refine bodyPost_ret (v := .agg #[.bool false, .slice A n c]) (by simp [results, Tryz.results66, go_sem, p0, p1]) rfl ?_
  exact ⟨A, c, by rw [HN.out], by rw [HN.out]; exact hc, pa, pb⟩

end Go.Proofs.YteicddmekhdjeaaGreatDoor

/- cracknelref01.Add: sums with signs. -/
namespace Go.Proofs.YteicddmekhdjeaaGreatDoor
open Go.RowKit Go.Sort

/-- Two numbers in boxes, and a result. -/
structure OpenZ (w w' : World) (g : Nat) (s : Bool) (v : Value) (t : Bool) (u : Value) : Prop where
  A : ZBox w' g s v
  B : ZBox w' (g + 1) t u
  R : ∃ r B k d, ZBox w' (g + 1 + 1) r (.slice B k d)
  bel : Below g w w'
theorem OpenZ.below {w w1 w2 : World} {g : Nat} {s t : Bool} {v u : Value} (h : OpenZ w w1 g s v t u) (hb : Below w1.heap.size w1 w2) : OpenZ w w2 g s v t u := by
  obtain ⟨r, B, k, d, hr⟩ := h.R
  have := hr.lt
  exact ⟨h.A.below hb (by omega), h.B.below hb (by omega), ⟨r, B, k, d, hr.below hb (by omega)⟩, h.bel.trans (hb.mono (by omega))⟩
theorem OpenZ.drew {w w1 : World} {g : Nat} {s t : Bool} {v u : Value} (h : OpenZ w w1 g s v t u) : OpenZ w w1.drew g s v t u := ⟨h.A, h.B, h.R, h.bel.drew⟩
theorem OpenZ.put {w w1 : World} {g : Nat} {s t : Bool} {v0 u : Value} (h : OpenZ w w1 g s v0 t u) (q : Bool) (B : Option Addr) (k d : Nat) : OpenZ w ((w1.setCell ⟨g + 1 + 1, 0, none⟩ (.bool q)).setCell ⟨g + 1 + 1, 1, none⟩ (.slice B k d)) g s v0 t u := by
  obtain ⟨r, B', k', d', hr⟩ := h.R
  exact ⟨(h.A.far (by show g ≠ g + 1 + 1; omega) _).far (by show g ≠ g + 1 + 1; omega) _, (h.B.far (by show g + 1 ≠ g + 1 + 1; omega) _).far (by show g + 1 ≠ g + 1 + 1; omega) _, ⟨q, B, k, d, (hr.put0 q).put1 _⟩, (h.bel.setCell (by show g ≤ g + 1 + 1; omega) _).setCell (by show g ≤ g + 1 + 1; omega) _⟩
theorem OpenZ.res {w w1 : World} {g : Nat} {s t : Bool} {v u : Value} (h : OpenZ w w1 g s v t u) : (∃ r, w1.cell? ⟨g + 1 + 1, 0, none⟩ = some (.bool r)) ∧ (∃ x, w1.cell? ⟨g + 1 + 1, 1, none⟩ = some x) ∧ w1.frozen? ⟨g + 1 + 1, 0, none⟩ = false ∧ w1.frozen? ⟨g + 1 + 1, 1, none⟩ = false :=
  let ⟨r, _, _, _, hr⟩ := h.R; ⟨⟨r, hr.cells.1⟩, ⟨_, hr.cells.2⟩, hr.frozen 0, hr.frozen 1⟩
theorem OpenZ.stored {w w1 : World} {g : Nat} {s t : Bool} {v0 u : Value} (h : OpenZ w w1 g s v0 t u) (q : Bool) (B : Option Addr) (k d : Nat) :
    ((w1.setCell ⟨g + 1 + 1, 0, none⟩ (.bool q)).setCell ⟨g + 1 + 1, 1, none⟩ (.slice B k d)).cell? ⟨g + 1 + 1, 0, none⟩ = some (.bool q) ∧ ((w1.setCell ⟨g + 1 + 1, 0, none⟩ (.bool q)).setCell ⟨g + 1 + 1, 1, none⟩ (.slice B k d)).cell? ⟨g + 1 + 1, 1, none⟩ = some (.slice B k d) ∧ Below g w ((w1.setCell ⟨g + 1 + 1, 0, none⟩ (.bool q)).setCell ⟨g + 1 + 1, 1, none⟩ (.slice B k d)) :=
  let ⟨_, _, _, _, hr⟩ := h.R; ⟨((hr.put0 q).put1 _).cells.1, ((hr.put0 q).put1 _).cells.2, (h.bel.setCell (by show g ≤ g + 1 + 1; omega) _).setCell (by show g ≤ g + 1 + 1; omega) _⟩
/-- What less answers when it is asked rightly. -/
def LessOf (a b : List Nat) (w : World) (e : Ending) (w' : World) : Prop := ∃ A c, ∃ ds : List Nat, e = .returned (.slice A ds.length c) ∧ Digs ds ∧ val10 ds = val10 a - val10 b ∧ ds.length ≤ a.length ∧ ds.length ≤ c ∧ DigAt w' A ds ∧ Below w.heap.size w w'
theorem less_of {A : Option Addr} {n c : Nat} {A' : Option Addr} {m c' : Nat} {a b : List Nat} {w : World} (Da : Digs a) (Db : Digs b) (hlen : b.length ≤ a.length) (hval : val10 b ≤ val10 a) (h : Calls Tryz.prog 70 #[.slice A n c, .slice A' m c'] w (LessTo a b w)) :
    Calls Tryz.prog 70 #[.slice A n c, .slice A' m c'] w (LessOf a b w) := by
  refine h.mono fun e w' ⟨A1, c1, he, hc1, hat, hb⟩ => ⟨A1, c1, (lessTo a b a.length).1, ?_, lessTo_digs Da Db _, (lessTo_end Da Db hlen hval).2, ?_, ?_, hat, hb⟩
  · rw [he, lessTo_len]
  · rw [lessTo_len]; exact Nat.le_refl _
  · rw [lessTo_len]; exact hc1
section
variable {w w1 w2 : World} {g n c m c' : Nat} {s t : Bool} {A A' : Option Addr}
theorem OpenZ.held (h : OpenZ w w1 g s (.slice A n c) t (.slice A' m c')) : w1.cell? ⟨g, 0, none⟩ = some (.bool s) ∧ w1.cell? ⟨g, 1, none⟩ = some (.slice A n c) ∧ w1.cell? ⟨g + 1, 0, none⟩ = some (.bool t) ∧ w1.cell? ⟨g + 1, 1, none⟩ = some (.slice A' m c') ∧ OpenZ w w1 g s (.slice A n c) t (.slice A' m c') := ⟨h.A.cells.1, h.A.cells.2, h.B.cells.1, h.B.cells.2, h⟩
theorem keepZ_call (h : w1.cell? ⟨g, 0, none⟩ = some (.bool s) ∧ w1.cell? ⟨g, 1, none⟩ = some (.slice A n c) ∧ w1.cell? ⟨g + 1, 0, none⟩ = some (.bool t) ∧ w1.cell? ⟨g + 1, 1, none⟩ = some (.slice A' m c') ∧ OpenZ w w1 g s (.slice A n c) t (.slice A' m c')) (hb : Below w1.heap.size w1 w2) : w2.cell? ⟨g, 0, none⟩ = some (.bool s) ∧ w2.cell? ⟨g, 1, none⟩ = some (.slice A n c) ∧ w2.cell? ⟨g + 1, 0, none⟩ = some (.bool t) ∧ w2.cell? ⟨g + 1, 1, none⟩ = some (.slice A' m c') ∧ OpenZ w w2 g s (.slice A n c) t (.slice A' m c') := (h.2.2.2.2.below hb).held
theorem keepZ_drew (h : w1.cell? ⟨g, 0, none⟩ = some (.bool s) ∧ w1.cell? ⟨g, 1, none⟩ = some (.slice A n c) ∧ w1.cell? ⟨g + 1, 0, none⟩ = some (.bool t) ∧ w1.cell? ⟨g + 1, 1, none⟩ = some (.slice A' m c') ∧ OpenZ w w1 g s (.slice A n c) t (.slice A' m c')) : w1.drew.cell? ⟨g, 0, none⟩ = some (.bool s) ∧ w1.drew.cell? ⟨g, 1, none⟩ = some (.slice A n c) ∧ w1.drew.cell? ⟨g + 1, 0, none⟩ = some (.bool t) ∧ w1.drew.cell? ⟨g + 1, 1, none⟩ = some (.slice A' m c') ∧ OpenZ w w1.drew g s (.slice A n c) t (.slice A' m c') := h.2.2.2.2.drew.held
theorem keepZ_put (q : Bool) (B : Option Addr) (k d : Nat) (h : w1.cell? ⟨g, 0, none⟩ = some (.bool s) ∧ w1.cell? ⟨g, 1, none⟩ = some (.slice A n c) ∧ w1.cell? ⟨g + 1, 0, none⟩ = some (.bool t) ∧ w1.cell? ⟨g + 1, 1, none⟩ = some (.slice A' m c') ∧ OpenZ w w1 g s (.slice A n c) t (.slice A' m c')) : ((w1.setCell ⟨g + 1 + 1, 0, none⟩ (.bool q)).setCell ⟨g + 1 + 1, 1, none⟩ (.slice B k d)).cell? ⟨g, 0, none⟩ = some (.bool s) ∧ ((w1.setCell ⟨g + 1 + 1, 0, none⟩ (.bool q)).setCell ⟨g + 1 + 1, 1, none⟩ (.slice B k d)).cell? ⟨g, 1, none⟩ = some (.slice A n c) ∧ ((w1.setCell ⟨g + 1 + 1, 0, none⟩ (.bool q)).setCell ⟨g + 1 + 1, 1, none⟩ (.slice B k d)).cell? ⟨g + 1, 0, none⟩ = some (.bool t) ∧ ((w1.setCell ⟨g + 1 + 1, 0, none⟩ (.bool q)).setCell ⟨g + 1 + 1, 1, none⟩ (.slice B k d)).cell? ⟨g + 1, 1, none⟩ = some (.slice A' m c') ∧ OpenZ w ((w1.setCell ⟨g + 1 + 1, 0, none⟩ (.bool q)).setCell ⟨g + 1 + 1, 1, none⟩ (.slice B k d)) g s (.slice A n c) t (.slice A' m c') := (h.2.2.2.2.put q B k d).held
end
theorem DigAt.box {w : World} {A : Option Addr} {xs : List Nat} (h : DigAt w A xs) {g : Nat} {r : Bool} {B : Option Addr} {k d : Nat} (hz : ZBox w g r (.slice B k d)) {p : Addr} (hp : p.block = g) (u : Value) : DigAt (w.setCell p u) A xs := by
  intro hne
  obtain ⟨b, off, e, hlt, hc⟩ := h hne
  have hb : b ≠ g := by
    rintro rfl
    have h0 := hc 0 _ (List.getElem?_eq_getElem (List.length_pos_iff.2 hne))
    rw [cell_of_row w b (off + 0) _ _ (0, 0) hz] at h0
    rcases Nat.lt_or_ge off 2 with q | q
    · rcases (show off = 0 ∨ off = 1 by omega) with rfl | rfl <;> simp at h0
    · rw [Array.getElem?_eq_none (by simp; omega)] at h0
      cases h0
  exact h.far (p := p) (fun a ha => by rw [hp]; rw [e] at ha; obtain rfl := Option.some.inj ha; exact hb) u hne
theorem OpenZ.dig {w w1 : World} {g : Nat} {s t : Bool} {v0 u : Value} (h : OpenZ w w1 g s v0 t u) {A : Option Addr} {xs : List Nat} (ha : DigAt w1 A xs) (q : Bool) (B : Option Addr) (k d : Nat) : DigAt ((w1.setCell ⟨g + 1 + 1, 0, none⟩ (.bool q)).setCell ⟨g + 1 + 1, 1, none⟩ (.slice B k d)) A xs := by
  obtain ⟨r, B', k', d', hr⟩ := h.R
  exact (ha.box hr (p := ⟨g + 1 + 1, 0, none⟩) rfl _).box (hr.put0 q) (p := ⟨g + 1 + 1, 1, none⟩) rfl _
theorem DigAt.drew {w : World} {A : Option Addr} {xs : List Nat} (h : DigAt w A xs) : DigAt w.drew A xs := h
theorem DigAt.kept {w w1 : World} {g : Nat} {A : Option Addr} {xs : List Nat} (h : DigAt w A xs) (hg : w.heap.size = g) (hb : Below g w w1) : DigAt w1 A xs := h.below (by rw [hg]; exact hb)

/-- Digits that are cut are those of the sum, or of the difference. -/
theorem add_same {x y : Int} {ds : List Nat} (hD : Digs ds) (hv : val10 ds = x.natAbs + y.natAbs) (hs : decide (x < 0) = decide (y < 0)) : trimR ds = digs (x + y).natAbs ∧ (decide (x < 0) && decide (0 < (trimR ds).length)) = decide (x + y < 0) := by
  have hs' : (x < 0) ↔ (y < 0) := decide_eq_decide.1 hs
  have e : trimR ds = digs (x + y).natAbs := by rw [trim_digs hD, hv]; congr 1; omega
  refine ⟨e, ?_⟩
  rw [e]
  by_cases h : x < 0
  · have : digs (x + y).natAbs ≠ [] := fun q => by have := digs_nil.1 q; omega
    have : 0 < (digs (x + y).natAbs).length := List.length_pos_iff.2 this
    simp [h, this]; omega
  · have : ¬ x + y < 0 := by omega
    simp [h, this]
theorem add_diff {x y : Int} {ds : List Nat} (hD : Digs ds) (hv : val10 ds = x.natAbs - y.natAbs) (hs : ¬ decide (x < 0) = decide (y < 0)) (hle : y.natAbs ≤ x.natAbs) : trimR ds = digs (x + y).natAbs ∧ (decide (x < 0) && decide (0 < (trimR ds).length)) = decide (x + y < 0) := by
  have hs' : ¬ ((x < 0) ↔ (y < 0)) := fun q => hs (decide_eq_decide.2 q)
  have e : trimR ds = digs (x + y).natAbs := by rw [trim_digs hD, hv]; congr 1; omega
  refine ⟨e, ?_⟩
  rw [e]
  by_cases h : x < 0
  · by_cases h0 : x + y = 0
    · rw [h0]; simp [digs_zero]
    · have : digs (x + y).natAbs ≠ [] := fun q => h0 (by have := digs_nil.1 q; omega)
      have : 0 < (digs (x + y).natAbs).length := List.length_pos_iff.2 this
      simp [h, this]; omega
  · have : ¬ x + y < 0 := by omega
    simp [h, this]
theorem add_diff2 {x y : Int} {ds : List Nat} (hD : Digs ds) (hv : val10 ds = y.natAbs - x.natAbs) (hs : ¬ decide (x < 0) = decide (y < 0)) (hle : x.natAbs ≤ y.natAbs) : trimR ds = digs (x + y).natAbs ∧ (decide (y < 0) && decide (0 < (trimR ds).length)) = decide (x + y < 0) := by
  rw [Int.add_comm x y]
  exact add_diff hD hv (fun h => hs h.symm) hle
theorem digs_le {a b : Nat} (h : a ≤ b) : (digs a).length ≤ (digs b).length := by
  apply Classical.byContradiction
  intro hn
  have := canon_len (digs_canon b) (digs_canon a) (by omega)
  rw [digs_val, digs_val] at this
  omega

set_option maxRecDepth 100000 in
set_option maxHeartbeats 4000000 in
theorem add_any (x y : Int) (v u : Value) (w : World) (hx : ZAt w v x) (hy : ZAt w u y) (hlx : (digs x.natAbs).length ≤ 40000) (hly : (digs y.natAbs).length ≤ 40000) :
    Calls Tryz.prog 92 #[v, u] w (RetZ (x + y) w) := by
  obtain ⟨A, c, rfl, hxk, hxa⟩ := hx
  obtain ⟨A', c', rfl, hyk, hya⟩ := hy
  generalize hg : w.heap.size = g
  have LN := fun V (s : Bool) (A : Option Addr) (c : Nat) (ds : List Nat) n (hn : ds.length = n) hc hbig (h : DigAt V A ds) => Lib.hid (lean_any s A n c ds V hn hc hbig h)
  have hCa := digs_canon x.natAbs
  have hCb := digs_canon y.natAbs
  have hVa := digs_val x.natAbs
  have hVb := digs_val y.natAbs
  generalize digs x.natAbs = a at *
  generalize digs y.natAbs = b at *
  have HDa := Lib.hid hCa.1
  have HDb := Lib.hid hCb.1
  obtain ⟨n, hn⟩ : ∃ n, a.length = n := ⟨_, rfl⟩
  obtain ⟨m, hm⟩ : ∃ m, b.length = m := ⟨_, rfl⟩
  obtain ⟨s, hs⟩ : ∃ s, decide (x < 0) = s := ⟨_, rfl⟩
  obtain ⟨t, ht⟩ : ∃ t, decide (y < 0) = t := ⟨_, rfl⟩
  rw [hn, hm, hs, ht]
  have O0 : OpenZ w (((w.alloc (.cells #[.bool s, .slice A n c] 30)).alloc (.cells #[.bool t, .slice A' m c'] 30)).alloc (.cells #[.bool false, .slice none 0 0] 30)) g s (.slice A n c) t (.slice A' m c') := by
    refine ⟨((ZBox.new w s (.slice A n c)).alloc _).alloc _ |> fun h => by rwa [hg] at h, ?_, ⟨false, none, 0, 0, ?_⟩, ?_⟩
    · have h := (ZBox.new (w.alloc (.cells #[.bool s, .slice A n c] 30)) t (.slice A' m c')).alloc (.cells #[.bool false, .slice none 0 0] 30)
      rw [World.size_alloc, hg] at h
      exact h
    · have h := ZBox.new ((w.alloc (.cells #[.bool s, .slice A n c] 30)).alloc (.cells #[.bool t, .slice A' m c'] 30)) false (.slice none 0 0)
      rw [World.size_alloc, World.size_alloc, hg] at h
      exact h
    · have h := (((Below.refl w.heap.size w).alloc (Nat.le_refl _) (.cells #[.bool s, .slice A n c] 30)).alloc (by simp) (.cells #[.bool t, .slice A' m c'] 30)).alloc (by simp; omega) (.cells #[.bool false, .slice none 0 0] 30)
      rwa [hg] at h
  have PL := fun V (h : OpenZ w V g s (.slice A n c) t (.slice A' m c')) => Lib.hid (plus_any A n c A' m c' a b V hn hm (by omega) (by omega) (hxa.kept hg h.bel) (hya.kept hg h.bel) HDa.out HDb.out)
  have SZ := fun V (h : OpenZ w V g s (.slice A n c) t (.slice A' m c')) => Lib.hid (sizesZ_any A n c A' m c' a b V hn hm (by omega) (by omega) (hxa.kept hg h.bel) (hya.kept hg h.bel) hCa hCb)
  have L1 := fun V (h : OpenZ w V g s (.slice A n c) t (.slice A' m c')) => Lib.hid (less_any A n c A' m c' a b V hn hm (by omega) (by omega) (hxa.kept hg h.bel) (hya.kept hg h.bel) HDa.out HDb.out)
  have L2 := fun V (h : OpenZ w V g s (.slice A n c) t (.slice A' m c')) => Lib.hid (less_any A' m c' A n c b a V hm hn (by omega) (by omega) (hya.kept hg h.bel) (hxa.kept hg h.bel) HDb.out HDa.out)
  have HCA := Lib.hid hCa
  have HCB := Lib.hid hCb
  have HVA := Lib.hid hVa
  have HVB := Lib.hid hVb
  have HST := Lib.hid (And.intro hs ht)
  have HLE : Hid (y.natAbs ≤ x.natAbs → b.length ≤ a.length) := Lib.hid fun h => by
    apply Classical.byContradiction
    intro hn
    have := canon_len hCa hCb (by omega)
    omega
  have HLE2 : Hid (x.natAbs ≤ y.natAbs → a.length ≤ b.length) := Lib.hid fun h => by
    apply Classical.byContradiction
    intro hn
    have := canon_len hCb hCa (by omega)
    omega
  clear hxa hya hCa hCb hVa hVb
  by_cases hst : s = t
  · subst hst
    have e1 : (s == s) = true := by simp
    go_enter Tryz.func92, Tryz.ntmps92
    go_upto_region 1 with (fail)
    generalize ((w.alloc (.cells #[.bool s, .slice A n c] 30)).alloc (.cells #[.bool s, .slice A' m c'] 30)).alloc (.cells #[.bool false, .slice none 0 0] 30) = w0 at *
    have HH := O0.held
    obtain ⟨c0, c1, c2, c3, -⟩ := O0.held
    clear SZ L1 L2
    go_upto_region 2 with (fail)
    go_region_held3 (fun w' => w'.cell? ⟨g, 0, none⟩ = some (.bool s) ∧ w'.cell? ⟨g, 1, none⟩ = some (.slice A n c) ∧ w'.cell? ⟨g + 1, 0, none⟩ = some (.bool s) ∧ w'.cell? ⟨g + 1, 1, none⟩ = some (.slice A' m c') ∧ OpenZ w w' g s (.slice A n c) s (.slice A' m c'))
      (first | assumption | exact hS | exact HH | (refine keepZ_drew ?_; first | assumption | exact hS | exact HH) | (refine keepZ_put _ _ _ _ ?_; first | assumption | exact hS))
      (first | ((go_at_call 117; refine ((PL _ ?_).out).mono ?_; (exact And.right (And.right (And.right (And.right (by assumption))))); rintro e w' ⟨A1, c1, ds, rfl, hD, hv, hl, hc1, hat, hb'⟩; have HC1 := Lib.hid hc1; have HAT1 := Lib.hid hat; have HL1 : Hid (ds.length ≤ 50000) := Lib.hid (by omega); have HDV := Lib.hid (And.intro hD hv); have hS := keepZ_call (by assumption) hb')) | ((go_at_call 67; refine ((LN _ _ _ _ _ _ rfl HC1.out HL1.out ?_).out).mono ?_; (first | exact HAT1.out | exact HAT1.out.drew); rintro e w' ⟨A2, c2, rfl, hk2, hat2, hb'⟩; have hS := keepZ_call (by assumption) hb'; obtain ⟨⟨_, r0⟩, ⟨_, r1⟩, f0, f1⟩ := hS.2.2.2.2.res; obtain ⟨p0, p1, pb⟩ := hS.2.2.2.2.stored (s && decide (0 < (trimR ds).length)) A2 (trimR ds).length c2; have HAT2 := Lib.hid hat2; have HSZ := Lib.hid hS.2.2.2.2)))
    go_wp2_with fail
    refine bodyPost_ret (v := .agg #[.bool (s && decide (0 < (trimR ds).length)), .slice A2 (trimR ds).length c2]) (by simp [results, Tryz.results92, go_sem, p0, p1]) rfl ?_
    obtain ⟨e1, e2⟩ := add_same (x := x) (y := y) HDV.out.1 (by rw [HDV.out.2, HVA.out, HVB.out]) (by rw [HST.out.1, HST.out.2])
    unfold RetZ
    rw [← e2, ← e1, HST.out.1]
    exact ⟨A2, c2, rfl, hk2, HSZ.out.dig HAT2.out _ _ _ _, by rw [hg]; exact pb⟩

  · have e1 : (s == t) = false := by simp [hst]
    have HNE := Lib.hid hst
    clear PL
    obtain ⟨z, hz⟩ : ∃ z, cmpDN (val10 a) (val10 b) = z := ⟨_, rfl⟩
    simp only [hz] at SZ
    go_enter Tryz.func92, Tryz.ntmps92
    go_upto_region 1 with (fail)
    generalize ((w.alloc (.cells #[.bool s, .slice A n c] 30)).alloc (.cells #[.bool t, .slice A' m c'] 30)).alloc (.cells #[.bool false, .slice none 0 0] 30) = w0 at *
    obtain ⟨c0, c1, c2, c3, -⟩ := O0.held
    by_cases hle : y.natAbs ≤ x.natAbs
    · have HVL : Hid (val10 b ≤ val10 a) := Lib.hid (by rw [HVA.out, HVB.out]; exact hle)
      have HLN := Lib.hid (HLE.out hle)
      have HLL := Lib.hid hle
      have hz0 : 0 ≤ z := by rw [← hz]; unfold cmpDN; rw [if_neg (by have := HVL.out; omega)]; split <;> omega
      have hz1 : decide (0 ≤ z) = true := decide_eq_true hz0
      have hz2 : (z < 0) = False := eq_false (by omega)
      clear hz hle
      go_upto_region 4 with (go_at_call 68; refine ((SZ _ O0).out).mono ?_; rintro e w1 ⟨rfl, hb1⟩; have O1 := O0.below hb1; obtain ⟨c0, c1, c2, c3, -⟩ := O1.held)
      have HH := O1.held
      clear SZ L2
      have L3 := fun V h => Lib.hid (less_of HDa.out HDb.out HLN.out HVL.out (L1 V h).out)
      clear L1
      go_upto_region 4 with (fail)
      go_region_held3 (fun w' => w'.cell? ⟨g, 0, none⟩ = some (.bool s) ∧ w'.cell? ⟨g, 1, none⟩ = some (.slice A n c) ∧ w'.cell? ⟨g + 1, 0, none⟩ = some (.bool t) ∧ w'.cell? ⟨g + 1, 1, none⟩ = some (.slice A' m c') ∧ OpenZ w w' g s (.slice A n c) t (.slice A' m c'))
        (first | assumption | exact hS | exact HH | (refine keepZ_drew ?_; first | assumption | exact hS | exact HH) | (refine keepZ_put _ _ _ _ ?_; first | assumption | exact hS))
        (first | ((go_at_call 70; refine ((L3 _ ?_).out).mono ?_; (exact And.right (And.right (And.right (And.right (by assumption))))); rintro e w' ⟨A1, c1, ds, rfl, hD, hv, hl, hc1, hat, hb'⟩; have HC1 := Lib.hid hc1; have HAT1 := Lib.hid hat; have HL1 : Hid (ds.length ≤ 50000) := Lib.hid (by omega); have HDV := Lib.hid (And.intro hD hv); have hS := keepZ_call (by assumption) hb')) | ((go_at_call 67; refine ((LN _ _ _ _ _ _ rfl HC1.out HL1.out ?_).out).mono ?_; (first | exact HAT1.out | exact HAT1.out.drew); rintro e w' ⟨A2, c2, rfl, hk2, hat2, hb'⟩; have hS := keepZ_call (by assumption) hb'; obtain ⟨⟨_, r0⟩, ⟨_, r1⟩, f0, f1⟩ := hS.2.2.2.2.res; obtain ⟨p0, p1, pb⟩ := hS.2.2.2.2.stored (s && decide (0 < (trimR ds).length)) A2 (trimR ds).length c2; have HAT2 := Lib.hid hat2; have HSZ := Lib.hid hS.2.2.2.2)))
      go_wp2_with fail
      refine bodyPost_ret (v := .agg #[.bool (s && decide (0 < (trimR ds).length)), .slice A2 (trimR ds).length c2]) (by simp [results, Tryz.results92, go_sem, p0, p1]) rfl ?_
      obtain ⟨e1, e2⟩ := add_diff (x := x) (y := y) HDV.out.1 (by rw [HDV.out.2, HVA.out, HVB.out]) (by rw [HST.out.1, HST.out.2]; exact HNE.out) HLL.out
      unfold RetZ
      rw [← e2, ← e1, HST.out.1]
      exact ⟨A2, c2, rfl, hk2, HSZ.out.dig HAT2.out _ _ _ _, by rw [hg]; exact pb⟩

    · have HVL : Hid (val10 a ≤ val10 b) := Lib.hid (by rw [HVA.out, HVB.out]; omega)
      have HLN := Lib.hid (HLE2.out (by omega))
      have HLL : Hid (x.natAbs ≤ y.natAbs) := Lib.hid (by omega)
      have hz0 : z < 0 := by rw [← hz]; unfold cmpDN; rw [if_pos (by rw [HVA.out, HVB.out]; omega)]; omega
      have hz1 : decide (0 ≤ z) = false := decide_eq_false (by omega)
      have hz2 : (z < 0) = True := eq_true hz0
      clear hz hle
      go_upto_region 5 with (go_at_call 68; refine ((SZ _ O0).out).mono ?_; rintro e w1 ⟨rfl, hb1⟩; have O1 := O0.below hb1; obtain ⟨c0, c1, c2, c3, -⟩ := O1.held)
      have HH := O1.held
      clear SZ L1
      have L3 := fun V h => Lib.hid (less_of HDb.out HDa.out HLN.out HVL.out (L2 V h).out)
      clear L2
      go_upto_region 5 with (fail)
      go_region_held3 (fun w' => w'.cell? ⟨g, 0, none⟩ = some (.bool s) ∧ w'.cell? ⟨g, 1, none⟩ = some (.slice A n c) ∧ w'.cell? ⟨g + 1, 0, none⟩ = some (.bool t) ∧ w'.cell? ⟨g + 1, 1, none⟩ = some (.slice A' m c') ∧ OpenZ w w' g s (.slice A n c) t (.slice A' m c'))
        (first | assumption | exact hS | exact HH | (refine keepZ_drew ?_; first | assumption | exact hS | exact HH) | (refine keepZ_put _ _ _ _ ?_; first | assumption | exact hS))
        (first | ((go_at_call 70; refine ((L3 _ ?_).out).mono ?_; (exact And.right (And.right (And.right (And.right (by assumption))))); rintro e w' ⟨A1, c1, ds, rfl, hD, hv, hl, hc1, hat, hb'⟩; have HC1 := Lib.hid hc1; have HAT1 := Lib.hid hat; have HL1 : Hid (ds.length ≤ 50000) := Lib.hid (by omega); have HDV := Lib.hid (And.intro hD hv); have hS := keepZ_call (by assumption) hb')) | ((go_at_call 67; refine ((LN _ _ _ _ _ _ rfl HC1.out HL1.out ?_).out).mono ?_; (first | exact HAT1.out | exact HAT1.out.drew); rintro e w' ⟨A2, c2, rfl, hk2, hat2, hb'⟩; have hS := keepZ_call (by assumption) hb'; obtain ⟨⟨_, r0⟩, ⟨_, r1⟩, f0, f1⟩ := hS.2.2.2.2.res; obtain ⟨p0, p1, pb⟩ := hS.2.2.2.2.stored (t && decide (0 < (trimR ds).length)) A2 (trimR ds).length c2; have HAT2 := Lib.hid hat2; have HSZ := Lib.hid hS.2.2.2.2)))
      go_wp2_with fail
      refine bodyPost_ret (v := .agg #[.bool (t && decide (0 < (trimR ds).length)), .slice A2 (trimR ds).length c2]) (by simp [results, Tryz.results92, go_sem, p0, p1]) rfl ?_
      obtain ⟨e1, e2⟩ := add_diff2 (x := x) (y := y) HDV.out.1 (by rw [HDV.out.2, HVA.out, HVB.out]) (by rw [HST.out.1, HST.out.2]; exact HNE.out) HLL.out
      unfold RetZ
      rw [← e2, ← e1, HST.out.2]
      exact ⟨A2, c2, rfl, hk2, HSZ.out.dig HAT2.out _ _ _ _, by rw [hg]; exact pb⟩

end Go.Proofs.YteicddmekhdjeaaGreatDoor

/- cracknelref01.Sub: differences. -/
namespace Go.Proofs.YteicddmekhdjeaaGreatDoor
open Go.RowKit Go.Sort

theorem OpenZ.new {w : World} {g n c m c' : Nat} {s t : Bool} {A A' : Option Addr} (hg : w.heap.size = g) : OpenZ w (((w.alloc (.cells #[.bool s, .slice A n c] 30)).alloc (.cells #[.bool t, .slice A' m c'] 30)).alloc (.cells #[.bool false, .slice none 0 0] 30)) g s (.slice A n c) t (.slice A' m c') := by
  refine ⟨((ZBox.new w s (.slice A n c)).alloc _).alloc _ |> fun h => by rwa [hg] at h, ?_, ⟨false, none, 0, 0, ?_⟩, ?_⟩
  · have h := (ZBox.new (w.alloc (.cells #[.bool s, .slice A n c] 30)) t (.slice A' m c')).alloc (.cells #[.bool false, .slice none 0 0] 30)
    rw [World.size_alloc, hg] at h
    exact h
  · have h := ZBox.new ((w.alloc (.cells #[.bool s, .slice A n c] 30)).alloc (.cells #[.bool t, .slice A' m c'] 30)) false (.slice none 0 0)
    rw [World.size_alloc, World.size_alloc, hg] at h
    exact h
  · have h := (((Below.refl w.heap.size w).alloc (Nat.le_refl _) (.cells #[.bool s, .slice A n c] 30)).alloc (by simp) (.cells #[.bool t, .slice A' m c'] 30)).alloc (by simp; omega) (.cells #[.bool false, .slice none 0 0] 30)
    rwa [hg] at h
theorem neg_sign (y : Int) : (!decide (y < 0) && decide (0 < (digs y.natAbs).length)) = decide (-y < 0) := by
  by_cases h : y < 0
  · have : ¬ -y < 0 := by omega
    simp [h, this]; omega
  · by_cases h0 : y = 0
    · subst h0; simp [digs_zero]
    · have h1 : digs y.natAbs ≠ [] := fun q => h0 (by have := digs_nil.1 q; omega)
      have h2 : 0 < (digs y.natAbs).length := List.length_pos_iff.2 h1
      have h3 : -y < 0 := by omega
      simp [h, h2, h3]; omega

set_option maxRecDepth 100000 in
set_option maxHeartbeats 4000000 in
theorem sub_any (x y : Int) (v u : Value) (w : World) (hx : ZAt w v x) (hy : ZAt w u y) (hlx : (digs x.natAbs).length ≤ 40000) (hly : (digs y.natAbs).length ≤ 40000) :
    Calls Tryz.prog 71 #[v, u] w (RetZ (x - y) w) := by
  obtain ⟨A, c, rfl, hxk, hxa⟩ := hx
  obtain ⟨A', c', rfl, hyk, hya⟩ := hy
  generalize hg : w.heap.size = g
  obtain ⟨r, hr⟩ : ∃ r, decide (x + -y < 0) = r := ⟨_, rfl⟩
  obtain ⟨ds, hds⟩ : ∃ ds, digs (x + -y).natAbs = ds := ⟨_, rfl⟩
  have AD := fun V v u (h1 : ZAt V v x) (h2 : ZAt V u (-y)) => add_any x (-y) v u V h1 h2 hlx (by rw [Int.natAbs_neg]; exact hly)
  unfold RetZ at AD
  rw [hr, hds] at AD
  have AD := fun V v u h1 h2 => Lib.hid (AD V v u h1 h2)
  have hsg := neg_sign y
  have ZX : ∀ V, DigAt V A (digs x.natAbs) → ZAt V (.agg #[.bool (decide (x < 0)), .slice A (digs x.natAbs).length c]) x := fun V h => ⟨A, c, rfl, hxk, h⟩
  have ZN : ∀ V A1 c1, (digs y.natAbs).length ≤ c1 → DigAt V A1 (digs y.natAbs) → ZAt V (.agg #[.bool (!decide (y < 0) && decide (0 < (digs y.natAbs).length)), .slice A1 (digs y.natAbs).length c1]) (-y) := fun V A1 c1 hk h => ⟨A1, c1, by rw [hsg, Int.natAbs_neg], by rw [Int.natAbs_neg]; exact hk, by rw [Int.natAbs_neg]; exact h⟩
  clear hsg hlx hly
  generalize digs x.natAbs = a at *
  generalize digs y.natAbs = b at *
  obtain ⟨n, hn⟩ : ∃ n, a.length = n := ⟨_, rfl⟩
  obtain ⟨m, hm⟩ : ∃ m, b.length = m := ⟨_, rfl⟩
  obtain ⟨s, hs⟩ : ∃ s, decide (x < 0) = s := ⟨_, rfl⟩
  obtain ⟨t, ht⟩ : ∃ t, decide (y < 0) = t := ⟨_, rfl⟩
  rw [hs, hn] at ZX
  rw [ht, hm] at ZN
  rw [hn, hm, hs, ht]
  have O0 := OpenZ.new (w := w) (n := n) (c := c) (m := m) (c' := c') (s := s) (t := t) (A := A) (A' := A') hg
  have NG := fun V (h : OpenZ w V g s (.slice A n c) t (.slice A' m c')) => neg_any t A' m c' b V hm (by rw [← hm]; exact hyk) (hya.kept hg h.bel)
  unfold RetD at NG
  rw [hm] at NG
  have NG := fun V h => Lib.hid (NG V h)
  have ZX := fun V (h : OpenZ w V g s (.slice A n c) t (.slice A' m c')) => Lib.hid (ZX V (hxa.kept hg h.bel))
  have ZN := fun V A1 c1 hk h => Lib.hid (ZN V A1 c1 hk h)
  have HRD := Lib.hid (And.intro hr hds)
  clear hxa hya hr hds hs ht hn hm
  go_enter Tryz.func71, Tryz.ntmps71
  go_upto_region 1 with (fail)
  generalize ((w.alloc (.cells #[.bool s, .slice A n c] 30)).alloc (.cells #[.bool t, .slice A' m c'] 30)).alloc (.cells #[.bool false, .slice none 0 0] 30) = w0 at *
  have HH := O0.held
  obtain ⟨c0, c1, c2, c3, -⟩ := O0.held
  go_region_held3 (fun w' => w'.cell? ⟨g, 0, none⟩ = some (.bool s) ∧ w'.cell? ⟨g, 1, none⟩ = some (.slice A n c) ∧ w'.cell? ⟨g + 1, 0, none⟩ = some (.bool t) ∧ w'.cell? ⟨g + 1, 1, none⟩ = some (.slice A' m c') ∧ OpenZ w w' g s (.slice A n c) t (.slice A' m c'))
    (first | assumption | exact hS | exact HH | (refine keepZ_drew ?_; first | assumption | exact hS | exact HH) | (refine keepZ_put _ _ _ _ ?_; first | assumption | exact hS))
    (first | ((go_at_call 35; refine ((NG _ ?_).out).mono ?_; (exact And.right (And.right (And.right (And.right (by assumption))))); rintro e w' ⟨A1, c1, rfl, hk1, hat, hb'⟩; have HAT1 := Lib.hid hat; have hS := keepZ_call (by assumption) hb')) | ((go_at_call 92; refine ((AD _ _ _ (ZX _ ?_).out (ZN _ _ _ hk1 ?_).out).out).mono ?_; (exact And.right (And.right (And.right (And.right (by assumption))))); (first | exact HAT1.out | exact HAT1.out.drew); rintro e w' ⟨A2, c2, rfl, hk2, hat2, hb'⟩; have hS := keepZ_call (by assumption) hb'; obtain ⟨⟨_, r0⟩, ⟨_, r1⟩, f0, f1⟩ := hS.2.2.2.2.res; obtain ⟨p0, p1, pb⟩ := hS.2.2.2.2.stored r A2 ds.length c2; have HAT2 := Lib.hid hat2; have HSZ := Lib.hid hS.2.2.2.2)))
  go_wp2_with fail
  refine bodyPost_ret (v := .agg #[.bool r, .slice A2 ds.length c2]) (by simp [results, Tryz.results71, go_sem, p0, p1]) rfl ?_
  unfold RetZ
  rw [Int.sub_eq_add_neg, HRD.out.1, HRD.out.2]
  exact ⟨A2, c2, rfl, hk2, HSZ.out.dig HAT2.out _ _ _ _, by rw [hg]; exact pb⟩
end Go.Proofs.YteicddmekhdjeaaGreatDoor

/- cracknelref01.Cmp: the order of integers. -/
namespace Go.Proofs.YteicddmekhdjeaaGreatDoor
open Go.RowKit Go.Sort

/-- The sign of a difference. -/
def cmpZ (x y : Int) : Int := if x < y then -1 else if y < x then 1 else 0
theorem cmpZ_sub (x y : Int) : (if (digs (x + -y).natAbs).length = 0 then (0 : Int) else if decide (x + -y < 0) then -1 else 1) = cmpZ x y := by
  unfold cmpZ
  by_cases h : x = y
  · subst h
    rw [if_pos (by rw [show (x + -x).natAbs = 0 by omega, digs_zero]; rfl), if_neg (by omega), if_neg (by omega)]
  · rw [if_neg (by rw [List.length_eq_zero_iff]; exact fun q => h (by have := digs_nil.1 q; omega))]
    by_cases h1 : x < y
    · rw [if_pos h1, if_pos (decide_eq_true (by omega))]
    · rw [if_neg h1, if_pos (show y < x by omega), if_neg (by simp; omega)]

end Go.Proofs.YteicddmekhdjeaaGreatDoor

/- Products of digits, row by row: plain mathematics for cracknelref01.Mul. -/
namespace Go.Proofs.YteicddmekhdjeaaGreatDoor
open Go.RowKit

/-- A row: q times b is added to o from digit i on; what o and the carry are behind k rounds. -/
def mulRow (q : Nat) (b : List Nat) (i : Nat) (o : List Nat) : Nat → List Nat × Nat
  | 0 => (o, 0)
  | k + 1 => ((mulRow q b i o k).1.set (i + k) (((mulRow q b i o k).1.getD (i + k) 0 + (mulRow q b i o k).2 + q * b.getD k 0) % 10000), ((mulRow q b i o k).1.getD (i + k) 0 + (mulRow q b i o k).2 + q * b.getD k 0) / 10000)
theorem val10_set : ∀ (l : List Nat) (k d : Nat), k < l.length → val10 (l.set k d) + 10000 ^ k * l.getD k 0 = val10 l + 10000 ^ k * d
  | [], k, d, h => by simp at h
  | x :: l, 0, d, _ => by simp [val10]; omega
  | x :: l, k + 1, d, h => by
    have ih := val10_set l k d (by simp at h; omega)
    simp only [List.set_cons_succ, val10, List.getD_cons_succ, Nat.pow_succ]
    rw [show 10000 ^ k * 10000 * l.getD k 0 = 10000 * (10000 ^ k * l.getD k 0) by grind, show 10000 ^ k * 10000 * d = 10000 * (10000 ^ k * d) by grind]
    omega
theorem mulRow_len (q : Nat) (b : List Nat) (i : Nat) (o : List Nat) : ∀ k, (mulRow q b i o k).1.length = o.length
  | 0 => rfl
  | k + 1 => by
    have := mulRow_len q b i o k
    simp only [mulRow, List.length_set]
    exact this
theorem digs_set {l : List Nat} (h : Digs l) (k : Nat) {d : Nat} (hd : d < 10000) : Digs (l.set k d) := fun x hx => by
  rcases List.mem_or_eq_of_mem_set hx with q | q
  · exact h x q
  · rw [q]; exact hd
theorem mulRow_digs {q : Nat} {b : List Nat} {i : Nat} {o : List Nat} (ho : Digs o) : ∀ k, Digs (mulRow q b i o k).1
  | 0 => ho
  | k + 1 => digs_set (mulRow_digs ho k) _ (Nat.mod_lt _ (by omega))
theorem mul_small {q d : Nat} (hq : q < 10000) (hd : d < 10000) : q * d ≤ 99980001 := Nat.le_trans (Nat.mul_le_mul (Nat.le_of_lt_succ hq) (Nat.le_of_lt_succ hd)) (by decide)
theorem mulRow_carry {q : Nat} {b : List Nat} {i : Nat} {o : List Nat} (hq : q < 10000) (hb : Digs b) (ho : Digs o) : ∀ k, (mulRow q b i o k).2 < 10000
  | 0 => by show (0 : Nat) < 10000; omega
  | k + 1 => by
    have ih := mulRow_carry (i := i) hq hb ho k
    have h1 := getD_lt (mulRow_digs (q := q) (b := b) (i := i) ho k) (i + k)
    have h2 := mul_small hq (getD_lt hb k)
    simp only [mulRow]
    omega
theorem mulRow_val {q : Nat} {b : List Nat} {i : Nat} {o : List Nat} : ∀ k, i + k ≤ o.length → val10 (mulRow q b i o k).1 + 10000 ^ (i + k) * (mulRow q b i o k).2 = val10 o + 10000 ^ i * (q * val10 (b.take k))
  | 0, _ => by simp [mulRow, val10]
  | k + 1, h => by
    have ih := mulRow_val (q := q) (b := b) (i := i) (o := o) k (by omega)
    have hs := val10_set (mulRow q b i o k).1 (i + k) (((mulRow q b i o k).1.getD (i + k) 0 + (mulRow q b i o k).2 + q * b.getD k 0) % 10000) (by rw [mulRow_len]; omega)
    rw [val_take_succ]
    simp only [mulRow]
    generalize (mulRow q b i o k).1.getD (i + k) 0 = e at *
    generalize (mulRow q b i o k).2 = c at *
    obtain ⟨t, ht⟩ : ∃ t, q * b.getD k 0 = t := ⟨_, rfl⟩
    rw [ht] at hs ⊢
    have hm := Nat.div_add_mod (e + c + t) 10000
    generalize (e + c + t) % 10000 = r at *
    generalize (e + c + t) / 10000 = z at *
    have hp : 10000 ^ i * 10000 ^ k = 10000 ^ (i + k) := (Nat.pow_add ..).symm
    have hr : 10000 ^ i * (q * (val10 (b.take k) + 10000 ^ k * b.getD k 0)) = 10000 ^ i * (q * val10 (b.take k)) + 10000 ^ (i + k) * t := by
      rw [← hp, ← ht]; grind
    have hz : 10000 ^ (i + (k + 1)) * z = 10000 ^ (i + k) * (10000 * z) := by rw [← Nat.add_assoc, Nat.pow_succ]; grind
    rw [hr, hz]
    have hk : 10000 ^ (i + k) * (10000 * z) + 10000 ^ (i + k) * r = 10000 ^ (i + k) * e + 10000 ^ (i + k) * c + 10000 ^ (i + k) * t := by rw [← Nat.mul_add, ← Nat.mul_add, ← Nat.mul_add, hm]
    omega
/-- A row's carry is gone at the digit behind b's last, if o is below. -/
theorem mulRow_stop {q : Nat} {b : List Nat} {i : Nat} {o : List Nat} (hq : q < 10000) (hb : Digs b) (hv : val10 o < 10000 ^ (i + b.length)) (hl : i + b.length < o.length) {k : Nat} (hk : b.length < k) (hko : i + k ≤ o.length) : (mulRow q b i o k).2 = 0 := by
  apply Classical.byContradiction
  intro hn
  have h := mulRow_val (q := q) (b := b) (i := i) (o := o) k hko
  rw [List.take_of_length_le (by omega)] at h
  have h1 := val10_lt hb
  have h2 : q * val10 b ≤ 9999 * val10 b := Nat.mul_le_mul_right _ (by omega)
  have h3 : 10000 ^ i * (q * val10 b) + 10000 ^ i * 9999 ≤ 10000 ^ i * (9999 * 10000 ^ b.length) := by
    rw [← Nat.mul_add]
    exact Nat.mul_le_mul_left _ (by omega)
  have h4 : 10000 ^ i * (9999 * 10000 ^ b.length) = 9999 * 10000 ^ (i + b.length) := by rw [Nat.pow_add]; grind
  have h5 : 10000 ^ (i + b.length + 1) ≤ 10000 ^ (i + k) := Nat.pow_le_pow_right (by omega) (by omega)
  have h6 : 10000 ^ (i + k) * 1 ≤ 10000 ^ (i + k) * (mulRow q b i o k).2 := Nat.mul_le_mul_left _ (by omega)
  rw [Nat.pow_succ] at h5
  omega
/-- What the product's digits are behind i rows. -/
def mulTo (a b : List Nat) : Nat → List Nat
  | 0 => List.replicate (a.length + b.length + 1) 0
  | i + 1 => (mulRow (a.getD i 0) b i (mulTo a b i) (b.length + 1)).1
theorem val10_zeros : ∀ n, val10 (List.replicate n 0) = 0
  | 0 => rfl
  | n + 1 => by rw [List.replicate_succ]; show 0 + 10000 * val10 (List.replicate n 0) = 0; rw [val10_zeros n]
theorem mulTo_len (a b : List Nat) : ∀ i, (mulTo a b i).length = a.length + b.length + 1
  | 0 => List.length_replicate
  | i + 1 => by rw [mulTo, mulRow_len]; exact mulTo_len a b i
theorem mulTo_digs (a b : List Nat) : ∀ i, Digs (mulTo a b i)
  | 0 => fun d hd => by rw [List.eq_of_mem_replicate hd]; omega
  | i + 1 => mulRow_digs (mulTo_digs a b i) _
theorem take_lt {a b : List Nat} (ha : Digs a) (hb : Digs b) {i : Nat} (hi : i ≤ a.length) : val10 (a.take i) * val10 b < 10000 ^ (i + b.length) := by
  have h1 := val10_lt (l := a.take i) (fun d hd => ha d (List.mem_of_mem_take hd))
  have h2 := val10_lt hb
  rw [List.length_take, Nat.min_eq_left hi] at h1
  rw [Nat.pow_add]
  exact Nat.mul_lt_mul'' h1 h2
theorem mulTo_val {a b : List Nat} (ha : Digs a) (hb : Digs b) : ∀ i, i ≤ a.length → val10 (mulTo a b i) = val10 (a.take i) * val10 b
  | 0, _ => by rw [mulTo, val10_zeros]; simp [val10]
  | i + 1, h => by
    have ih := mulTo_val ha hb i (by omega)
    have hl := mulTo_len a b i
    have hlt := take_lt ha hb (show i ≤ a.length by omega)
    have h1 := mulRow_val (q := a.getD i 0) (b := b) (i := i) (o := mulTo a b i) (b.length + 1) (by omega)
    have h2 := mulRow_stop (i := i) (o := mulTo a b i) (getD_lt ha i) hb (by rw [ih]; exact hlt) (by omega) (Nat.lt_succ_self _) (by omega)
    rw [h2, Nat.mul_zero, Nat.add_zero, List.take_of_length_le (by omega), ih] at h1
    rw [mulTo, h1, val_take_succ]
    grind
/-- A row that has no carry at b's end is done. -/
theorem mulRow_done {q : Nat} {b : List Nat} {i : Nat} {o : List Nat} (ho : Digs o) (hl : i + b.length < o.length) (h : (mulRow q b i o b.length).2 = 0) : (mulRow q b i o (b.length + 1)).1 = (mulRow q b i o b.length).1 := by
  simp only [mulRow]
  rw [h]
  have h0 : b.getD b.length 0 = 0 := by simp
  have h1 := getD_lt (mulRow_digs (q := q) (b := b) (i := i) ho b.length) (i + b.length)
  rw [h0, Nat.mul_zero, Nat.add_zero, Nat.mod_eq_of_lt h1]
  apply List.ext_getElem?
  intro j
  rw [List.getElem?_set]
  have hm := mulRow_len q b i o b.length
  by_cases e : i + b.length = j
  · subst e
    rw [if_pos rfl, if_pos (by omega), List.getD_eq_getElem?_getD, List.getElem?_eq_getElem (show i + b.length < (mulRow q b i o b.length).1.length by omega)]
    rfl
  · rw [if_neg e]
theorem mulTo_end {a b : List Nat} (ha : Digs a) (hb : Digs b) : val10 (mulTo a b a.length) = val10 a * val10 b := by
  rw [mulTo_val ha hb _ (Nat.le_refl _), List.take_of_length_le (Nat.le_refl _)]
end Go.Proofs.YteicddmekhdjeaaGreatDoor

/- Digits in a made slice: a block of the call's own whose cells are this list; makes and stores. -/
namespace Go.Proofs.YteicddmekhdjeaaGreatDoor
open Go.RowKit Go.Sort

def DigRow (w : World) (g : Nat) (l : List Nat) : Prop := w.heap[g]? = some (.cells (dV l).toArray 3 (0, 0))
section
variable {w w' : World} {g : Nat} {l : List Nat}
theorem DigRow.lt (h : DigRow w g l) : g < w.heap.size := (Array.getElem?_eq_some_iff.1 h).1
theorem DigRow.same (h : DigRow w g l) (e : w'.heap[g]? = w.heap[g]?) : DigRow w' g l := e.trans h
theorem DigRow.cell (h : DigRow w g l) {k : Nat} (hk : k < l.length) : w.cell? ⟨g, k, none⟩ = some (.int .i64 (l.getD k 0 : Int)) := by
  rw [cell_of_row w g k _ 3 (0, 0) h, List.getElem?_toArray, dV_get, List.getElem?_eq_getElem hk, List.getD_eq_getElem?_getD, List.getElem?_eq_getElem hk]
  rfl
theorem DigRow.frozen (h : DigRow w g l) (k : Nat) : w.frozen? ⟨g, k, none⟩ = false := by simp [World.frozen?, show w.heap[g]? = _ from h]
theorem DigRow.below {B : Nat} (h : DigRow w g l) (hb : Below B w w') (hg : g < B) : DigRow w' g l := h.same (hb.block g hg)
theorem DigRow.at (h : DigRow w g l) : DigAt w (some ⟨g, 0, none⟩) l := fun _ => ⟨g, 0, rfl, h.lt, fun i x hx => by
  have hi : i < l.length := (List.getElem?_eq_some_iff.1 hx).1
  rw [Nat.zero_add, h.cell hi, List.getD_eq_getElem?_getD, hx]
  rfl⟩
theorem DigRow.set (h : DigRow w g l) (k d : Nat) : DigRow (w.setCell ⟨g, k, none⟩ (.int .i64 (d : Int))) g (l.set k d) := by
  have e : w.heap[g]? = _ := h
  have e2 : (dV l).toArray.setIfInBounds k (.int .i64 (d : Int)) = (dV (l.set k d)).toArray := by
    rw [List.setIfInBounds_toArray, dV, dV, List.map_set]
  unfold DigRow
  rw [← e2]
  simp [World.setCell, Array.getElem?_modify, e]
theorem DigRow.far (h : DigRow w g l) {p : Addr} (hp : p.block ≠ g) (v : Value) : DigRow (w.setCell p v) g l := h.same (Below.heap_setCell w p v g (fun e => hp e.symm))
end
theorem DigRow.new (w : World) (l : List Nat) : DigRow (w.alloc (.cells (dV l).toArray 3)) w.heap.size l := heap_alloc_new _ _
theorem make_digs (W : World) (n : Nat) (hn : n ≤ 200000) : (Instr.makeSlice 28 (.int .i64 (n : Int)) (.int .i64 (n : Int))).run Tryz.prog W = .ok (.slice (some ⟨W.heap.size, 0, none⟩) n n) (W.alloc (.cells (dV (List.replicate n 0)).toArray 3)) := by
  obtain ⟨i0, hi0, hz0, hz1, hz2⟩ := info_dparts info_dig
  have h := run_makeSlice (P := Tryz.prog) W 28 3 i0 _ Tryz.underlying28 hi0 hz0 .i64 .i64 (n : Int) (n : Int) (by omega) (Int.le_refl _) (by rw [hz1]; simp [maxLen]; omega) (by rw [hz2]; simp [maxLen]; omega) (by omega)
  rw [h, hz1]
  have e : madeCells (Value.int .i64 0).cells ((n : Int).toNat * 1) = (dV (List.replicate n 0)).toArray := by
    apply Array.ext_getElem?
    intro i
    have eR : (dV (List.replicate n 0)).toArray[i]? = (dV (List.replicate n 0))[i]? := List.getElem?_toArray ..
    rw [eR, dV_get]
    by_cases hi : i < n
    · rw [List.getElem?_replicate, if_pos hi]
      simp [madeCells, Value.cells, hi, Nat.mod_one]
    · rw [List.getElem?_replicate, if_neg hi]
      simp [madeCells, hi]
  rw [e]
  rfl
end Go.Proofs.YteicddmekhdjeaaGreatDoor
