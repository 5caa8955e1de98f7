/- Parts of the proof, one after the other: BigTimes, BigRat, BigText, BigDen, BigWrite. -/
import Derived.Test.YteicddmekhdjeaaGreatDoorEm10
import Derived.Test.YteicddmekhdjeaaGreatDoorEm11
import Derived.Laws.IdiomStrings
/- A great integer times one. -/
namespace Go.Proofs.YteicddmekhdjeaaGreatDoor
open Go.RowKit Go.Sort

set_option maxRecDepth 100000 in
set_option maxHeartbeats 4000000 in
theorem times_one_big (x : Int) (v : Value) (w : World) (hx : ZW w v x) (hn : smB x = false) : Calls Tryz.prog 24 #[v, SI 1] w (RetZW x w) := by
  obtain ⟨s, A, n, c, rfl⟩ := hx.form
  unfold SI
  generalize hg : w.heap.size = g
  have O0 := OI.new (t := 1) (A' := none) (m := 0) (c' := 0) (y := 1) hg hx (.inl ⟨by unfold Small; omega, rfl⟩)
  have SA := fun V (h : ZW V (.agg #[.int .i64 s, .slice A n c]) x) => small_zw x _ V h
  rw [hn] at SA
  have SA := fun V h => Lib.hid (SA V h)
  have ON := fun V => isOne_any 1 V
  unfold SI at ON
  have ON := fun V => Lib.hid (ON V)
  clear hx hn
  go_enter Tryz.func24, Tryz.ntmps24
  go_upto_region 1 with (fail)
  generalize ((w.alloc (.cells #[.int .i64 s, .slice A n c] 39)).alloc (.cells #[.int .i64 1, .slice none 0 0] 39)).alloc (.cells #[.int .i64 0, .slice none 0 0] 39) = w0 at *
  have HO0 := Lib.hid O0
  obtain ⟨c0, c1, c2, c3⟩ := O0.held
  clear O0
  go_wp2_with (first | (go_at_call 44; refine ((SA _ HO0.out.zA).out).mono ?_; rintro e w1 ⟨rfl, hb1⟩; have HO1 := Lib.hid (HO0.out.below hb1); clear c0 c1 c2 c3; obtain ⟨c0, c1, c2, c3⟩ := HO1.out.held; clear hb1) | (go_at_call 41; refine ((ON _).out).mono ?_; rintro e w2 ⟨rfl, hb2⟩; have HO2 := Lib.hid (HO1.out.below hb2); clear c0 c1 c2 c3; obtain ⟨c0, c1, c2, c3⟩ := HO2.out.held; obtain ⟨r5, B5, k5, d5, hr5⟩ := HO2.out.R; have HR5 := Lib.hid hr5; obtain ⟨r0, r1⟩ := hr5.cells; have f0 := hr5.frozen 0; have f1 := hr5.frozen 1; clear hb2 hr5))
  obtain ⟨pz, pu, pb⟩ := HR5.out.put s (.slice A n c)
  obtain ⟨p0, p1⟩ := pz.cells
  refine bodyPost_ret (v := .agg #[.int .i64 s, .slice A n c]) (by simp [results, Tryz.results24, go_sem, p0, p1]) rfl ?_
  exact ⟨_, rfl, HO2.out.zA.put pu, by rw [hg]; exact pb HO2.out.bel (by omega)⟩
end Go.Proofs.YteicddmekhdjeaaGreatDoor

/- Ratios of integers of a word at most: their boxes; Divisor, DividedBy and Times by one at all of them. -/
namespace Go.Proofs.YteicddmekhdjeaaGreatDoor
open Go.RowKit Go.Sort

/-- A ratio's struct in a block. -/
def RBox (w : World) (g : Nat) (s1 : Int) (v1 : Value) (s2 : Int) (v2 : Value) : Prop := w.heap[g]? = some (.cells #[.int .i64 s1, v1, .int .i64 s2, v2] 41 (0, 0))
section
variable {w w' : World} {g : Nat} {s1 s2 : Int} {v1 v2 : Value}
theorem RBox.lt (h : RBox w g s1 v1 s2 v2) : g < w.heap.size := (Array.getElem?_eq_some_iff.1 h).1
theorem RBox.below (h : RBox w g s1 v1 s2 v2) {B : Nat} (hb : Below B w w') (hg : g < B) : RBox w' g s1 v1 s2 v2 := (hb.block g hg).trans h
theorem RBox.alloc (h : RBox w g s1 v1 s2 v2) (o : Obj) : RBox (w.alloc o) g s1 v1 s2 v2 := (Below.heap_alloc w o g h.lt).trans h
theorem RBox.new (w : World) (s1 s2 : Int) (v1 v2 : Value) : RBox (w.alloc (.cells #[.int .i64 s1, v1, .int .i64 s2, v2] 41)) w.heap.size s1 v1 s2 v2 := heap_alloc_new _ _
theorem RBox.cells (h : RBox w g s1 v1 s2 v2) : w.cell? ⟨g, 0, none⟩ = some (.int .i64 s1) ∧ w.cell? ⟨g, 1, none⟩ = some v1 ∧ w.cell? ⟨g, 2, none⟩ = some (.int .i64 s2) ∧ w.cell? ⟨g, 3, none⟩ = some v2 := by
  refine ⟨?_, ?_, ?_, ?_⟩
  · rw [cell_of_row w g 0 _ _ (0, 0) h]; rfl
  · rw [cell_of_row w g 1 _ _ (0, 0) h]; rfl
  · rw [cell_of_row w g 2 _ _ (0, 0) h]; rfl
  · rw [cell_of_row w g 3 _ _ (0, 0) h]; rfl
theorem RBox.frozen (h : RBox w g s1 v1 s2 v2) (i : Nat) : w.frozen? ⟨g, i, none⟩ = false := by simp [World.frozen?, show w.heap[g]? = _ from h]
end
/-- A store of a ratio: what lies in its cells; words elsewhere stay. -/
theorem RBox.put {w : World} {g : Nat} {s1 s2 : Int} {B1 B2 : Option Addr} {k1 d1 k2 d2 : Nat} (h : RBox w g s1 (.slice B1 k1 d1) s2 (.slice B2 k2 d2)) (s t : Int) (u v : Value) :
    RBox ((((w.setCell ⟨g, 0, none⟩ (.int .i64 s)).setCell ⟨g, 1, none⟩ u).setCell ⟨g, 2, none⟩ (.int .i64 t)).setCell ⟨g, 3, none⟩ v) g s u t v ∧
    (∀ {b off : Nat} {x : Int}, w.cell? ⟨b, off, none⟩ = some (.int .u64 x) → ((((w.setCell ⟨g, 0, none⟩ (.int .i64 s)).setCell ⟨g, 1, none⟩ u).setCell ⟨g, 2, none⟩ (.int .i64 t)).setCell ⟨g, 3, none⟩ v).cell? ⟨b, off, none⟩ = some (.int .u64 x)) ∧
    (∀ {w0 : World} {B : Nat}, Below B w0 w → B ≤ g → Below B w0 ((((w.setCell ⟨g, 0, none⟩ (.int .i64 s)).setCell ⟨g, 1, none⟩ u).setCell ⟨g, 2, none⟩ (.int .i64 t)).setCell ⟨g, 3, none⟩ v)) := by
  refine ⟨?_, fun {b off x} hc => ?_, fun hb hB => (((hb.setCell (p := ⟨g, 0, none⟩) hB _).setCell (p := ⟨g, 1, none⟩) hB _).setCell (p := ⟨g, 2, none⟩) hB _).setCell (p := ⟨g, 3, none⟩) hB _⟩
  · have e : w.heap[g]? = _ := h
    unfold RBox
    simp [World.setCell, Array.getElem?_modify, e]
  · have hb : b ≠ g := by
      rintro rfl
      rw [cell_of_row w b off _ _ (0, 0) h] at hc
      rcases Nat.lt_or_ge off 4 with q | q
      · rcases (show off = 0 ∨ off = 1 ∨ off = 2 ∨ off = 3 by omega) with rfl | rfl | rfl | rfl <;> simp at hc
      · rw [Array.getElem?_eq_none (by simp; omega)] at hc
        cases hc
    have hx : ∀ i, (⟨g, i, none⟩ : Addr) ≠ ⟨b, off, none⟩ := fun i e => hb (congrArg Addr.block e).symm
    rw [World.cell?_setCell_other _ _ _ _ (hx 3), World.cell?_setCell_other _ _ _ _ (hx 2), World.cell?_setCell_other _ _ _ _ (hx 1), World.cell?_setCell_other _ _ _ _ (hx 0)]
    exact hc

theorem ZW.small {w : World} {v : Value} {z : Int} (h : ZW w v z) (hs : smB z = true) : Small z ∧ v = SI z := by
  have hz : z.natAbs < 9223372036854775808 := of_decide_eq_true hs
  rcases h with h | ⟨h1, -⟩
  · exact h
  · omega
theorem ZW.of {w : World} {z : Int} (h : Small z) : ZW w (SI z) z := .inl ⟨h, rfl⟩
theorem smB_or {x y : Int} (h : ¬ (smB x = true ∧ smB y = true)) : smB x = false ∨ smB y = false := by
  cases h1 : smB x <;> cases h2 : smB y <;> simp_all
/-- An integer of a word, with the parts of its value named. -/
def RetZV (z : Int) (w : World) (e : Ending) (w' : World) : Prop := ∃ s A n c, e = .returned (.agg #[.int .i64 s, .slice A n c]) ∧ ZW w' (.agg #[.int .i64 s, .slice A n c]) z ∧ Below w.heap.size w w'
theorem retZV_of {z : Int} {w : World} {e : Ending} {w' : World} (h : RetZW z w e w') : RetZV z w e w' := by
  obtain ⟨v, he, hz, hb⟩ := h
  obtain ⟨s, A, n, c, rfl⟩ := hz.form
  exact ⟨s, A, n, c, he, hz, hb⟩
theorem zdivisorW (x y : Int) (v u : Value) (w : World) (hx : ZW w v x) (hy : ZW w u y) (hxl : x.natAbs ≤ 9223372036854775808) (hyl : y.natAbs ≤ 9223372036854775808) : Calls Tryz.prog 40 #[v, u] w (RetZV (Nat.gcd x.natAbs y.natAbs : Nat) w) := by
  by_cases h : smB x = true ∧ smB y = true
  · obtain ⟨hsx, rfl⟩ := hx.small h.1
    obtain ⟨hsy, rfl⟩ := hy.small h.2
    refine (divisor_small x y hsx hsy w).mono fun e w' ⟨he, hb⟩ => retZV_of ⟨_, he, .inl ⟨?_, rfl⟩, hb⟩
    unfold Small at *
    have : Nat.gcd x.natAbs y.natAbs < 9223372036854775808 := by
      rcases Nat.eq_zero_or_pos x.natAbs with e | e
      · rw [e, Nat.gcd_zero_left]; omega
      · have := Nat.gcd_le_left y.natAbs e; omega
    omega
  · exact (zdivisor_big x y v u w hx hy (smB_or h) hxl hyl).mono fun _ _ h => retZV_of h
theorem zdividedW (x y : Int) (v u : Value) (w : World) (hx : ZW w v x) (hy : ZW w u y) (hxl : x.natAbs ≤ 9223372036854775808) (hyl : y.natAbs ≤ 9223372036854775808) (h0 : y ≠ 0) : Calls Tryz.prog 42 #[v, u] w (RetZV (x.tdiv y) w) := by
  by_cases h : smB x = true ∧ smB y = true
  · obtain ⟨hsx, rfl⟩ := hx.small h.1
    obtain ⟨hsy, rfl⟩ := hy.small h.2
    exact (dividedBy_small x y h0 (small_tdiv hsx) w).mono fun e w' ⟨he, hb⟩ => retZV_of ⟨_, he, .inl ⟨small_tdiv hsx, rfl⟩, hb⟩
  · exact (zdivided_big x y v u w hx hy (smB_or h) hxl hyl h0).mono fun _ _ h => retZV_of h
theorem ztimes_oneW (x : Int) (v : Value) (w : World) (hx : ZW w v x) : Calls Tryz.prog 24 #[v, SI 1] w (RetZV x w) := by
  by_cases h : smB x = true
  · obtain ⟨hsx, rfl⟩ := hx.small h
    exact (times_one x hsx w).mono fun e w' ⟨he, hb⟩ => retZV_of ⟨_, he, .inl ⟨hsx, rfl⟩, hb⟩
  · exact (times_one_big x v w hx (by simpa using h)).mono fun _ _ h => retZV_of h
theorem negW (x : Int) (v : Value) (w : World) (hx : ZW w v x) : Calls Tryz.prog 39 #[v] w (RetZV (-x) w) := (neg_zw x v w hx).mono fun _ _ h => retZV_of h
theorem ofW (z : Int) (w : World) (hz : -9223372036854775808 ≤ z ∧ z ≤ 9223372036854775807) : Calls Tryz.prog 10 #[.int .i64 z] w (RetZV z w) := (of_zw z w hz).mono fun _ _ h => retZV_of h

/-- Two integers and a ratio in their boxes. -/
structure OR (w w' : World) (g : Nat) (s : Int) (A : Option Addr) (n c : Nat) (x : Int) (t : Int) (A' : Option Addr) (m c' : Nat) (y : Int) : Prop where
  bA : IBox w' g s (.slice A n c)
  bB : IBox w' (g + 1) t (.slice A' m c')
  R : ∃ s1 B1 k1 d1 s2 B2 k2 d2, RBox w' (g + 1 + 1) s1 (.slice B1 k1 d1) s2 (.slice B2 k2 d2)
  zA : ZW w' (.agg #[.int .i64 s, .slice A n c]) x
  zB : ZW w' (.agg #[.int .i64 t, .slice A' m c']) y
  bel : Below g w w'
section
variable {w w1 w2 : World} {g n c m c' : Nat} {s t x y : Int} {A A' : Option Addr}
theorem OR.below (h : OR w w1 g s A n c x t A' m c' y) (hb : Below w1.heap.size w1 w2) : OR w w2 g s A n c x t A' m c' y := by
  obtain ⟨s1, B1, k1, d1, s2, B2, k2, d2, hr⟩ := h.R
  have := hr.lt
  exact ⟨h.bA.below hb (by omega), h.bB.below hb (by omega), ⟨s1, B1, k1, d1, s2, B2, k2, d2, hr.below hb hr.lt⟩, h.zA.below hb, h.zB.below hb, h.bel.trans (hb.mono (by omega))⟩
theorem OR.drew (h : OR w w1 g s A n c x t A' m c' y) : OR w w1.drew g s A n c x t A' m c' y := ⟨h.bA, h.bB, h.R, h.zA, h.zB, h.bel.drew⟩
theorem OR.held (h : OR w w1 g s A n c x t A' m c' y) : w1.cell? ⟨g, 0, none⟩ = some (.int .i64 s) ∧ w1.cell? ⟨g, 1, none⟩ = some (.slice A n c) ∧ w1.cell? ⟨g + 1, 0, none⟩ = some (.int .i64 t) ∧ w1.cell? ⟨g + 1, 1, none⟩ = some (.slice A' m c') := ⟨h.bA.cells.1, h.bA.cells.2, h.bB.cells.1, h.bB.cells.2⟩
end
theorem OR.new {w : World} {g n c m c' : Nat} {s t x y : Int} {A A' : Option Addr} (hg : w.heap.size = g) (hx : ZW w (.agg #[.int .i64 s, .slice A n c]) x) (hy : ZW w (.agg #[.int .i64 t, .slice A' m c']) y) :
    OR w (((w.alloc (.cells #[.int .i64 s, .slice A n c] 39)).alloc (.cells #[.int .i64 t, .slice A' m c'] 39)).alloc (.cells #[.int .i64 0, .slice none 0 0, .int .i64 0, .slice none 0 0] 41)) g s A n c x t A' m c' y := by
  have hb := (((Below.refl w.heap.size w).alloc (Nat.le_refl _) (.cells #[.int .i64 s, .slice A n c] 39)).alloc (by simp) (.cells #[.int .i64 t, .slice A' m c'] 39)).alloc (by simp; omega) (.cells #[.int .i64 0, .slice none 0 0, .int .i64 0, .slice none 0 0] 41)
  refine ⟨((IBox.new w s (.slice A n c)).alloc _).alloc _ |> fun h => by rwa [hg] at h, ?_, ⟨0, none, 0, 0, 0, none, 0, 0, ?_⟩, hx.below hb, hy.below hb, by rwa [hg] at hb⟩
  · have h := (IBox.new (w.alloc (.cells #[.int .i64 s, .slice A n c] 39)) t (.slice A' m c')).alloc (.cells #[.int .i64 0, .slice none 0 0, .int .i64 0, .slice none 0 0] 41)
    rw [World.size_alloc, hg] at h
    exact h
  · have h := RBox.new ((w.alloc (.cells #[.int .i64 s, .slice A n c] 39)).alloc (.cells #[.int .i64 t, .slice A' m c'] 39)) 0 0 (.slice none 0 0) (.slice none 0 0)
    rw [World.size_alloc, World.size_alloc, hg] at h
    exact h
/-- Both integers are stored anew. -/
theorem OR.put {w w1 : World} {g n c m c' n1 c1 n2 c2 : Nat} {s t x y s1 t1 x1 y1 : Int} {A A' A1 A2 : Option Addr} (h : OR w w1 g s A n c x t A' m c' y) (hx : ZW w1 (.agg #[.int .i64 s1, .slice A1 n1 c1]) x1) (hy : ZW w1 (.agg #[.int .i64 t1, .slice A2 n2 c2]) y1) :
    OR w ((((w1.setCell ⟨g, 0, none⟩ (.int .i64 s1)).setCell ⟨g, 1, none⟩ (.slice A1 n1 c1)).setCell ⟨g + 1, 0, none⟩ (.int .i64 t1)).setCell ⟨g + 1, 1, none⟩ (.slice A2 n2 c2)) g s1 A1 n1 c1 x1 t1 A2 n2 c2 y1 := by
  obtain ⟨u1, B1, k1, d1, u2, B2, k2, d2, hr⟩ := h.R
  obtain ⟨pa, ua, ba⟩ := h.bA.put s1 (.slice A1 n1 c1)
  have hB := (h.bB.far (p := ⟨g, 0, none⟩) (by show g + 1 ≠ g; omega) (.int .i64 s1)).far (p := ⟨g, 1, none⟩) (by show g + 1 ≠ g; omega) (.slice A1 n1 c1)
  obtain ⟨pb, ub, bb⟩ := hB.put t1 (.slice A2 n2 c2)
  refine ⟨(pa.far (p := ⟨g + 1, 0, none⟩) (by show g ≠ g + 1; omega) _).far (p := ⟨g + 1, 1, none⟩) (by show g ≠ g + 1; omega) _, pb, ⟨u1, B1, k1, d1, u2, B2, k2, d2, ?_⟩, (hx.put ua).put ub, (hy.put ua).put ub, bb (ba h.bel (Nat.le_refl _)) (by omega)⟩
  exact (Below.heap_setCell _ ⟨g + 1, 1, none⟩ _ _ (by show g + 1 + 1 ≠ g + 1; omega)).trans ((Below.heap_setCell _ ⟨g + 1, 0, none⟩ _ _ (by show g + 1 + 1 ≠ g + 1; omega)).trans ((Below.heap_setCell _ ⟨g, 1, none⟩ _ _ (by show g + 1 + 1 ≠ g; omega)).trans ((Below.heap_setCell _ ⟨g, 0, none⟩ _ _ (by show g + 1 + 1 ≠ g; omega)).trans hr)))
/-- A ratio of integers of a word, by value. -/
def RetQW (x y : Int) (w : World) (e : Ending) (w' : World) : Prop := ∃ s1 A1 n1 c1 s2 A2 n2 c2, e = .returned (.agg #[.int .i64 s1, .slice A1 n1 c1, .int .i64 s2, .slice A2 n2 c2]) ∧ ZW w' (.agg #[.int .i64 s1, .slice A1 n1 c1]) x ∧ ZW w' (.agg #[.int .i64 s2, .slice A2 n2 c2]) y ∧ Below w.heap.size w w'
end Go.Proofs.YteicddmekhdjeaaGreatDoor

/- Texts of integers of a word at most. -/
namespace Go.Proofs.YteicddmekhdjeaaGreatDoor
open Go.RowKit Go.Sort Go.Lib

theorem len64_big (V : World) : Calls Tryz.prog 122 #[.int .u64 9223372036854775808] V fun e w' => e = .returned (.int .i64 64) ∧ w' = V := by
  have h := Tryz.bits_Len64 9223372036854775808 V (by omega) (by omega)
  rwa [show Lib.bitLen (9223372036854775808 : Int).toNat = 64 by decide] at h
theorem bits_big (b off c : Nat) (w : World) (hc : w.cell? ⟨b, off, none⟩ = some (.int .u64 9223372036854775808)) : Calls Tryz.prog 94 #[.slice (some ⟨b, off, none⟩) 1 c] w fun e w' => e = .returned (.int .i64 64) ∧ w' = w := by
  have L := fun V => Lib.hid (len64_big V)
  go_enter Tryz.func94, Tryz.ntmps94
  go_wp2_with (go_at_call 122; refine (L _).out.mono ?_; rintro e w1 ⟨rfl, rfl⟩)
  go_ret
  exact ⟨rfl, rfl⟩
theorem append_big (B g : Nat) (w : World) (hown : w.ownsRow B 5 1 (.slice (some ⟨g, 0, none⟩) 0 19) 0 []) (hB : B ≤ w.heap.size) (hT : Pow10In w) :
    Calls Tryz.prog 96 #[.slice (some ⟨g, 0, none⟩) 0 19, .int .u64 9223372036854775808, .int .i64 10] w fun e w' => ∃ k c, e = .returned (.slice (some ⟨k, 0, none⟩) 19 c) ∧ (∀ j (hj : j < (decDigits 9223372036854775808).length), w'.cell? ((⟨k, 0, none⟩ : Addr).add j) = some (.int .u8 ((decDigits 9223372036854775808)[j].toNat : Int))) ∧ Below B w w' := by
  have h19 : (decDigits 9223372036854775808).length = 19 := by rw [decDigits_length, nDigits_unique 18 _ (by decide) (by decide)]
  have IC : Calls Tryz.prog 124 #[.slice (some ⟨g, 0, none⟩) 0 19, .int .u64 9223372036854775808, .int .i64 10] w fun e w' => ∃ k c, e = .returned (.slice (some ⟨k, 0, none⟩) 19 c) ∧ (∀ j (hj : j < (decDigits 9223372036854775808).length), w'.cell? ((⟨k, 0, none⟩ : Addr).add j) = some (.int .u8 ((decDigits 9223372036854775808)[j].toNat : Int))) ∧ Below B w w' := by
    refine (Tryz.internal_strconv_AppendUint_10_big B 0 9223372036854775808 (by omega) (by omega) _ [] w hown hB (by omega) hT).mono ?_
    rintro e w' ⟨v', rfl, ho, hb, -⟩
    rw [Nat.zero_add, List.nil_append] at ho
    rcases ho.2 with ⟨-, h0⟩ | ⟨k, cap, cur, rfl, -, -, -, -, -, -⟩
    · omega
    · exact ⟨k, cap, by rw [h19], fun j hj => World.ownsRow.cells ho (g := k) rfl j _ (by simp [Lib.byteCells, hj]), hb⟩
  generalize decDigits 9223372036854775808 = D at *
  have IC := Lib.hid IC
  clear h19 hown hB hT
  go_enter Tryz.func96, Tryz.ntmps96
  go_wp2_with (go_at_call 124; refine IC.out.mono ?_; rintro e w1 ⟨k, c, rfl, hc, hb⟩; have HC := Lib.hid hc; have HB := Lib.hid hb; clear hc hb)
  go_ret
  exact ⟨k, c, rfl, HC.out, HB.out⟩

set_option maxRecDepth 100000 in
set_option maxHeartbeats 4000000 in
theorem ntext_big (b off c : Nat) (w : World) (hc : w.cell? ⟨b, off, none⟩ = some (.int .u64 9223372036854775808)) (hT : Pow10In w) :
    Calls Tryz.prog 73 #[.slice (some ⟨b, off, none⟩) 1 c] w fun e w' => e = .returned (.tuple #[.string (ofL (decDigits 9223372036854775808)), .bool true]) ∧ Below w.heap.size w w' := by
  have BT := Lib.hid (bits_big b off c w hc)
  have cp := copy_one b off c 9223372036854775808 w hc
  have hmk : ∀ W : World, (Instr.makeSlice 37 (.int .i64 1) (.int .i64 1)).run Tryz.prog W = .ok (.slice (some ⟨W.heap.size, 0, none⟩) 1 1) (W.alloc (.cells #[.int .u64 0] 59)) := fun _ => by kernel_rfl
  have hmb : ∀ W : World, (Instr.makeSlice 134 (.int .i64 0) (.int .i64 19)).run Tryz.prog W = .ok (.slice (some ⟨W.heap.size, 0, none⟩) 0 19) (W.alloc (.cells (Array.replicate 19 (.int .u8 0)) 5)) := fun _ => by kernel_rfl
  have cn : (w.alloc (.cells #[.int .u64 9223372036854775808] 59)).cell? ⟨w.heap.size, 0, none⟩ = some (.int .u64 9223372036854775808) := by simp [World.cell?_alloc_new]
  have h19 : (decDigits 9223372036854775808).length = 19 := by rw [decDigits_length, nDigits_unique 18 _ (by decide) (by decide)]
  have AP := fun V (h : Below w.heap.size w V) (hs : V.heap.size = w.heap.size + 1 + 1) (ho : V.ownsRow w.heap.size 5 1 (.slice (some ⟨w.heap.size + 1, 0, none⟩) 0 19) 0 []) => Lib.hid (append_big w.heap.size (w.heap.size + 1) V ho (by omega) (hT.below h))
  have HB2 := ((Below.refl w.heap.size w).alloc (Nat.le_refl _) (.cells #[.int .u64 9223372036854775808] 59)).alloc (by simp) (.cells (Array.replicate 19 (.int .u8 0)) 5)
  have HO2 : ((w.alloc (.cells #[.int .u64 9223372036854775808] 59)).alloc (.cells (Array.replicate 19 (.int .u8 0)) 5)).ownsRow w.heap.size 5 1 (.slice (some ⟨w.heap.size + 1, 0, none⟩) 0 19) 0 [] :=
    ⟨rfl, .inr ⟨w.heap.size + 1, 19, Array.replicate 19 (.int .u8 0), rfl, by omega, by
      have h := heap_alloc_new (w.alloc (.cells #[.int .u64 9223372036854775808] 59)) (.cells (Array.replicate 19 (.int .u8 0)) 5)
      rw [World.size_alloc] at h
      exact h, by omega, by unfold maxLen; omega, by simp, rfl⟩⟩
  generalize decDigits 9223372036854775808 = D at *
  have HF := Lib.hid (And.intro HB2 HO2)
  have H19 := Lib.hid h19
  clear hT HB2 HO2 h19
  go_enter Tryz.func73, Tryz.ntmps73
  go_wp2_with (go_at_call 94; refine BT.out.mono ?_; rintro e w1 ⟨rfl, rfl⟩)
  refine wp_loop_rounds 1 ?_
  rw [rounds_succ]
  go_wp2_with (go_at_call 96; refine ((AP _ HF.out.1 (by simp) HF.out.2).out).mono ?_; rintro e w2 ⟨k2, c2, rfl, hc2, hb2⟩; have hcv := run_convert_bytes_back (P := Tryz.prog) w2 134 9 5 ⟨k2, 0, none⟩ c2 D Tryz.underlying134 Tryz.underlying5 Tryz.underlying9 hc2; rw [H19.out] at hcv; have HB3 := Lib.hid (HF.out.1.trans hb2); clear hc2 hb2)
  refine wp_loop_rounds 1 ?_
  rw [rounds_succ]
  go_wp2_with fail
  go_ret2
  exact ⟨rfl, HB3.out⟩
end Go.Proofs.YteicddmekhdjeaaGreatDoor

/- Denominators, whole ratios and whether a ratio is an integer, where the parts are integers of a word at most. -/
namespace Go.Proofs.YteicddmekhdjeaaGreatDoor
open Go.RowKit Go.Sort

structure OD (w w' : World) (g : Nat) (s : Int) (A : Option Addr) (n c : Nat) (t : Int) (A' : Option Addr) (m c' : Nat) (y : Int) : Prop where
  bR : RBox w' g s (.slice A n c) t (.slice A' m c')
  R : ∃ r B k d, IBox w' (g + 1) r (.slice B k d)
  zD : ZW w' (.agg #[.int .i64 t, .slice A' m c']) y
  bel : Below g w w'
theorem OD.new {w : World} {g n c m c' : Nat} {s t y : Int} {A A' : Option Addr} (hg : w.heap.size = g) (hy : ZW w (.agg #[.int .i64 t, .slice A' m c']) y) :
    OD w ((w.alloc (.cells #[.int .i64 s, .slice A n c, .int .i64 t, .slice A' m c'] 41)).alloc (.cells #[.int .i64 0, .slice none 0 0] 39)) g s A n c t A' m c' y := by
  have hb := ((Below.refl w.heap.size w).alloc (Nat.le_refl _) (.cells #[.int .i64 s, .slice A n c, .int .i64 t, .slice A' m c'] 41)).alloc (by simp) (.cells #[.int .i64 0, .slice none 0 0] 39)
  refine ⟨(RBox.new w s t (.slice A n c) (.slice A' m c')).alloc _ |> fun h => by rwa [hg] at h, ⟨0, none, 0, 0, ?_⟩, hy.below hb, by rwa [hg] at hb⟩
  have h := IBox.new (w.alloc (.cells #[.int .i64 s, .slice A n c, .int .i64 t, .slice A' m c'] 41)) 0 (.slice none 0 0)
  rw [World.size_alloc, hg] at h
  exact h
theorem OD.below {w w1 w2 : World} {g n c m c' : Nat} {s t y : Int} {A A' : Option Addr} (h : OD w w1 g s A n c t A' m c' y) (hb : Below w1.heap.size w1 w2) : OD w w2 g s A n c t A' m c' y := by
  obtain ⟨r, B, k, d, hr⟩ := h.R
  have := hr.lt
  exact ⟨h.bR.below hb (by omega), ⟨r, B, k, d, hr.below hb hr.lt⟩, h.zD.below hb, h.bel.trans (hb.mono (by omega))⟩

theorem denW (s : Int) (A : Option Addr) (n c : Nat) (t : Int) (A' : Option Addr) (m c' : Nat) (y : Int) (w : World) (hy : ZW w (.agg #[.int .i64 t, .slice A' m c']) y) (h0 : y ≠ 0) :
    Calls Tryz.prog 23 #[.agg #[.int .i64 s, .slice A n c, .int .i64 t, .slice A' m c']] w fun e w' => e = .returned (.agg #[.int .i64 t, .slice A' m c']) ∧ Below w.heap.size w w' := by
  generalize hg : w.heap.size = g
  have O0 := OD.new (s := s) (A := A) (n := n) (c := c) hg hy
  have ZR := fun V (h : ZW V (.agg #[.int .i64 t, .slice A' m c']) y) => zero_zw y _ V h
  rw [show (y == 0) = false from beq_eq_false_iff_ne.2 h0] at ZR
  have ZR := fun V h => Lib.hid (ZR V h)
  clear hy h0
  go_enter Tryz.func23, Tryz.ntmps23
  go_upto_region 1 with (fail)
  generalize (w.alloc (.cells #[.int .i64 s, .slice A n c, .int .i64 t, .slice A' m c'] 41)).alloc (.cells #[.int .i64 0, .slice none 0 0] 39) = w0 at *
  have HO0 := Lib.hid O0
  obtain ⟨c0, c1, c2, c3⟩ := O0.bR.cells
  clear O0
  go_wp2_with (go_at_call 43; refine ((ZR _ HO0.out.zD).out).mono ?_; rintro e w1 ⟨rfl, hb1⟩; have O1 := HO0.out.below hb1; clear c0 c1 c2 c3; obtain ⟨c0, c1, c2, c3⟩ := O1.bR.cells; have HO1 := Lib.hid O1; obtain ⟨r5, B5, k5, d5, hr5⟩ := O1.R; have HR5 := Lib.hid hr5; obtain ⟨r0, r1⟩ := hr5.cells; have f0 := hr5.frozen 0; have f1 := hr5.frozen 1; clear hb1 hr5 O1)
  obtain ⟨pz, pu, pb⟩ := HR5.out.put t (.slice A' m c')
  obtain ⟨p0, p1⟩ := pz.cells
  refine bodyPost_ret (v := .agg #[.int .i64 t, .slice A' m c']) (by simp [results, Tryz.results23, go_sem, p0, p1]) rfl ?_
  exact ⟨rfl, pb HO1.out.bel (by omega)⟩

theorem isIntegerW (s : Int) (A : Option Addr) (n c : Nat) (t : Int) (A' : Option Addr) (m c' : Nat) (y : Int) (w : World) (hy : ZW w (.agg #[.int .i64 t, .slice A' m c']) y) (h0 : y ≠ 0) :
    Calls Tryz.prog 37 #[.agg #[.int .i64 s, .slice A n c, .int .i64 t, .slice A' m c']] w fun e w' => e = .returned (.bool (y == 1)) ∧ Below w.heap.size w w' := by
  have z0 := RBox.new w s t (.slice A n c) (.slice A' m c')
  have HB0 := Lib.hid ((Below.refl w.heap.size w).alloc (Nat.le_refl _) (.cells #[.int .i64 s, .slice A n c, .int .i64 t, .slice A' m c'] 41))
  have DN := fun V (h : Below w.heap.size w V) => Lib.hid (denW s A n c t A' m c' y V (hy.below h) h0)
  have ON := fun V (h : Below w.heap.size w V) => Lib.hid (one_zw y _ V (hy.below h))
  clear hy h0
  go_enter Tryz.func37, Tryz.ntmps37
  go_upto_region 1 with (fail)
  generalize w.alloc (.cells #[.int .i64 s, .slice A n c, .int .i64 t, .slice A' m c'] 41) = w0 at *
  obtain ⟨c0, c1, c2, c3⟩ := z0.cells
  go_wp2_with (first | (go_at_call 23; refine (DN _ HB0.out).out.mono ?_; rintro e w1 ⟨rfl, hb1⟩; have HB1 := Lib.hid (HB0.out.trans (hb1.mono HB0.out.size)); clear hb1) | (go_at_call 41; refine (ON _ HB1.out).out.mono ?_; rintro e w2 ⟨rfl, hb2⟩; have HB2 := Lib.hid (HB1.out.trans (hb2.mono HB1.out.size)); clear hb2))
  go_ret
  exact ⟨rfl, HB2.out⟩

theorem wholeW (s : Int) (A : Option Addr) (n c : Nat) (w : World) :
    Calls Tryz.prog 9 #[.agg #[.int .i64 s, .slice A n c]] w fun e w' => e = .returned (.agg #[.int .i64 s, .slice A n c, .int .i64 1, .slice none 0 0]) ∧ Below w.heap.size w w' := by
  generalize hg : w.heap.size = g
  have b0 := (IBox.new w s (.slice A n c)).alloc (.cells #[.int .i64 0, .slice none 0 0, .int .i64 0, .slice none 0 0] 41)
  have q0 := RBox.new (w.alloc (.cells #[.int .i64 s, .slice A n c] 39)) 0 0 (.slice none 0 0) (.slice none 0 0)
  have hb0 := ((Below.refl w.heap.size w).alloc (Nat.le_refl _) (.cells #[.int .i64 s, .slice A n c] 39)).alloc (by simp) (.cells #[.int .i64 0, .slice none 0 0, .int .i64 0, .slice none 0 0] 41)
  rw [World.size_alloc] at q0
  rw [hg] at b0 q0 hb0
  have OF := fun V => of_small 1 (by unfold Small; omega) V
  unfold SI at OF
  have OF := fun V => Lib.hid (OF V)
  go_enter Tryz.func9, Tryz.ntmps9
  go_upto_region 1 with (fail)
  generalize (w.alloc (.cells #[.int .i64 s, .slice A n c] 39)).alloc (.cells #[.int .i64 0, .slice none 0 0, .int .i64 0, .slice none 0 0] 41) = w0 at *
  obtain ⟨c0, c1⟩ := b0.cells
  have HQ0 := Lib.hid q0
  have HB0 := Lib.hid hb0
  have hs0 := q0.lt
  have HBX := Lib.hid b0
  clear q0 hb0 b0
  go_region_with (go_at_call 10; refine ((OF _).out).mono ?_; rintro e w1 ⟨rfl, hb1⟩; have q1 : RBox w1 (g + 1) 0 (.slice none 0 0) 0 (.slice none 0 0) := (by first | exact HQ0.out.below hb1 hs0 | exact RBox.below (show RBox (World.drew _) _ _ _ _ _ from HQ0.out) hb1 hs0); have HB1 : Hid (Below g w w1) := Lib.hid (by first | exact HB0.out.trans (hb1.mono (by omega)) | exact HB0.out.drew.trans (hb1.mono (by show g ≤ w0.heap.size; omega))); have b1 : IBox w1 g s (.slice A n c) := (by first | exact HBX.out.below hb1 (by omega) | exact IBox.below (show IBox (World.drew _) _ _ _ from HBX.out) hb1 (by show g < w0.heap.size; omega)); clear c0 c1; obtain ⟨c0, c1⟩ := b1.cells; obtain ⟨r0, r1, r2, r3⟩ := q1.cells; have f0 := q1.frozen 0; have f1 := q1.frozen 1; have f2 := q1.frozen 2; have f3 := q1.frozen 3; have HQ1 := Lib.hid q1; clear q1 hb1)
  all_goals (obtain ⟨pz, pu, pb⟩ := HQ1.out.put s 1 (.slice A n c) (.slice none 0 0); obtain ⟨p0, p1, p2, p3⟩ := pz.cells)
  all_goals go_wp2_with fail
  all_goals (refine bodyPost_ret (v := .agg #[.int .i64 s, .slice A n c, .int .i64 1, .slice none 0 0]) (by simp [results, Tryz.results9, go_sem, p0, p1, p2, p3]) rfl ?_)
  all_goals exact ⟨rfl, pb HB1.out (by omega)⟩
end Go.Proofs.YteicddmekhdjeaaGreatDoor

/- Texts of ratios of integers of a word at most. -/
namespace Go.Proofs.YteicddmekhdjeaaGreatDoor
open Go.RowKit Go.Sort Go.Lib

theorem size_hyphen (k : Nat) (l : List UInt8) (h : l.length ≤ 20) (hk : k ≤ 1) : ¬ 9223372036854775807 < k + (ofL l).size := by rw [ofL_size]; omega
set_option maxRecDepth 100000 in
set_option maxHeartbeats 4000000 in
theorem textW (z : Int) (s : Int) (A : Option Addr) (n c : Nat) (w : World) (h : ZW w (.agg #[.int .i64 s, .slice A n c]) z) (hT : Pow10In w) : Calls Tryz.prog 36 #[.agg #[.int .i64 s, .slice A n c]] w fun e w' => e = .returned (.tuple #[.string (ofL (itoa z)), .bool true]) ∧ Below w.heap.size w w' := by
  by_cases hs : smB z = true
  · obtain ⟨h1, h2⟩ := h.small hs
    rw [h2]
    exact text_small z h1 w hT
  · rcases h with ⟨h1, -⟩ | ⟨h1, A', c', h2, b, off, rfl, -, -, hc⟩
    · exact absurd (decide_eq_true (by unfold Small at h1; omega)) hs
    · obtain ⟨rfl, rfl, rfl, rfl⟩ : s = (if z < 0 then -1 else 1) ∧ A = some ⟨b, off, none⟩ ∧ n = 1 ∧ c = c' := by
        unfold BI at h2
        simpa using h2
      have z0 := IBox.new w (if z < 0 then -1 else 1) (.slice (some ⟨b, off, none⟩) 1 c)
      have hb0 := (Below.refl w.heap.size w).alloc (Nat.le_refl _) (.cells #[.int .i64 (if z < 0 then -1 else 1), .slice (some ⟨b, off, none⟩) 1 c] 39)
      have IS := fun V => bSmall_any (if z < 0 then -1 else 1) b off c V
      unfold BI at IS
      have NT := fun V (hV : Below w.heap.size w V) => Lib.hid (ntext_big b off c V ((hV.cell (p := ⟨b, off, none⟩) (World.block_lt_of_cell? w _ hc)).trans hc) (hT.below hV))
      have HI : Hid (itoa z = if z < 0 then 45 :: decDigits 9223372036854775808 else decDigits 9223372036854775808) := Lib.hid (by
        unfold itoa
        by_cases hz : z < 0
        · rw [if_pos hz, if_pos hz, h1]
        · rw [if_neg hz, if_neg hz, show z.toNat = 9223372036854775808 by omega])
      have hov : ¬ 9223372036854775807 < ({ data := #[45] } : ByteArray).size + (ofL (decDigits 9223372036854775808)).size := by
        rw [ofL_size, decDigits_length, nDigits_unique 18 _ (by decide) (by decide)]
        decide
      have HE : Hid (({ data := #[45] } : ByteArray) ++ ofL (decDigits 9223372036854775808) = ofL (45 :: decDigits 9223372036854775808)) := Lib.hid (by
        rw [show (({ data := #[45] } : ByteArray)) = ofL [45] from rfl, ofL_append]; rfl)
      generalize decDigits 9223372036854775808 = D at *
      generalize itoa z = T at *
      have HB0 := Lib.hid hb0
      have IS := fun V => Lib.hid (IS V)
      clear hb0 hT hs h1 h2 hc
      by_cases hz : z < 0
      · simp only [if_pos hz] at *
        have HT := Lib.hid HI.out
        clear HI hz
        go_enter Tryz.func36, Tryz.ntmps36
        go_upto_region 1 with (fail)
        generalize w.alloc (.cells #[.int .i64 (-1), .slice (some ⟨b, off, none⟩) 1 c] 39) = w0 at *
        have HZ := Lib.hid z0
        have hs0 := z0.lt
        obtain ⟨c0, c1⟩ := z0.cells
        clear z0
        go_wp2_with (first | (go_at_call 44; refine (IS _).out.mono ?_; rintro e w1 ⟨rfl, hb1⟩; have HB1 := Lib.hid (HB0.out.trans (hb1.mono HB0.out.size)); have z1 := HZ.out.below hb1 hs0; have HZ1 := Lib.hid z1; have hs1 := z1.lt; clear c0 c1; obtain ⟨c0, c1⟩ := z1.cells; clear hb1 z1) | (go_at_call 73; refine ((NT _ HB1.out).out).mono ?_; rintro e w2 ⟨rfl, hb2⟩; have HB2 := Lib.hid (HB1.out.trans (hb2.mono HB1.out.size)); have z2 := HZ1.out.below hb2 hs1; clear c0 c1; obtain ⟨c0, c1⟩ := z2.cells; clear hb2 z2))
        go_ret2
        exact ⟨by rw [HT.out, ← HE.out]; rfl, HB2.out⟩
      · simp only [if_neg hz] at *
        have HT := Lib.hid HI.out
        clear HI hz
        go_enter Tryz.func36, Tryz.ntmps36
        go_upto_region 1 with (fail)
        generalize w.alloc (.cells #[.int .i64 1, .slice (some ⟨b, off, none⟩) 1 c] 39) = w0 at *
        have HZ := Lib.hid z0
        have hs0 := z0.lt
        obtain ⟨c0, c1⟩ := z0.cells
        clear z0
        go_wp2_with (first | (go_at_call 44; refine (IS _).out.mono ?_; rintro e w1 ⟨rfl, hb1⟩; have HB1 := Lib.hid (HB0.out.trans (hb1.mono HB0.out.size)); have z1 := HZ.out.below hb1 hs0; have HZ1 := Lib.hid z1; have hs1 := z1.lt; clear c0 c1; obtain ⟨c0, c1⟩ := z1.cells; clear hb1 z1) | (go_at_call 73; refine ((NT _ HB1.out).out).mono ?_; rintro e w2 ⟨rfl, hb2⟩; have HB2 := Lib.hid (HB1.out.trans (hb2.mono HB1.out.size)); have z2 := HZ1.out.below hb2 hs1; clear c0 c1; obtain ⟨c0, c1⟩ := z2.cells; clear hb2 z2))
        go_ret2
        exact ⟨by rw [HT.out]; rfl, HB2.out⟩

theorem itoa_len2 {z : Int} (h : z.natAbs ≤ 9223372036854775808) : (itoa z).length ≤ 20 := by
  have hd : ∀ u : Nat, u ≤ 9223372036854775808 → (decDigits u).length ≤ 19 := fun u hu => by
    rcases Nat.eq_zero_or_pos u with e | e
    · subst e; rw [decDigits_one (by omega)]; simp
    · exact dec_len_le e (by omega)
  unfold itoa
  split
  · have := hd z.natAbs (by omega)
    rw [List.length_cons]; omega
  · have := hd z.toNat (by omega)
    omega
theorem one_beq {d : Int} : (d == 1) = decide (d = 1) := rfl
set_option maxRecDepth 100000 in
set_option maxHeartbeats 4000000 in
theorem textRW (a d : Int) (s : Int) (A : Option Addr) (n c : Nat) (t : Int) (A' : Option Addr) (m c' : Nat) (w : World) (ha : ZW w (.agg #[.int .i64 s, .slice A n c]) a) (hd : ZW w (.agg #[.int .i64 t, .slice A' m c']) d) (hal : a.natAbs ≤ 9223372036854775808) (hdl : d.natAbs ≤ 9223372036854775808) (h0 : 0 < d) (hT : Pow10In w) :
    Calls Tryz.prog 20 #[.agg #[.int .i64 s, .slice A n c, .int .i64 t, .slice A' m c']] w fun e w' => e = .returned (.tuple #[.string (ofL (textQ a d)), .bool true]) ∧ Below w.heap.size w w' := by
  have z0 := RBox.new w s t (.slice A n c) (.slice A' m c')
  have HB0 := Lib.hid ((Below.refl w.heap.size w).alloc (Nat.le_refl _) (.cells #[.int .i64 s, .slice A n c, .int .i64 t, .slice A' m c'] 41))
  have TA := fun V (h : Below w.heap.size w V) => Lib.hid (textW a s A n c V (ha.below h) (hT.below h))
  have TD := fun V (h : Below w.heap.size w V) => Lib.hid (textW d t A' m c' V (hd.below h) (hT.below h))
  have II := fun V (h : Below w.heap.size w V) => isIntegerW s A n c t A' m c' d V (hd.below h) (by omega)
  have hs0 := z0.lt
  have hla := itoa_len2 hal
  have hld := itoa_len2 hdl
  have hov1 : ¬ 9223372036854775807 < (ofL (itoa a)).size + ({ data := #[47] } : ByteArray).size := by rw [ofL_size]; show ¬ _ < _ + 1; omega
  have hov2 : ¬ 9223372036854775807 < (ofL (itoa a) ++ ({ data := #[47] } : ByteArray)).size + (ofL (itoa d)).size := by rw [ByteArray.size_append, ofL_size, ofL_size]; show ¬ _ < _ + 1 + _; omega
  have HE : Hid (ofL (itoa a) ++ ({ data := #[47] } : ByteArray) ++ ofL (itoa d) = ofL (itoa a ++ 47 :: itoa d)) := Lib.hid (by
    rw [show (({ data := #[47] } : ByteArray)) = ofL [47] from rfl, ofL_append, ofL_append, List.append_assoc]; rfl)
  clear ha hd hal hdl hT hla hld
  by_cases h1 : d = 1
  · have hb1 : (d == 1) = true := beq_iff_eq.2 h1
    have HQ : Hid (textQ a d = itoa a) := Lib.hid (by unfold textQ; rw [if_pos h1])
    rw [hb1] at II
    have II := fun V h => Lib.hid (II V h)
    clear h0 h1 hb1
    generalize itoa a = TXA at *
    generalize itoa d = TXD at *
    generalize textQ a d = TXQ at *
    go_enter Tryz.func20, Tryz.ntmps20
    go_upto_region 1 with (fail)
    generalize w.alloc (.cells #[.int .i64 s, .slice A n c, .int .i64 t, .slice A' m c'] 41) = w0 at *
    obtain ⟨c0, c1, c2, c3⟩ := z0.cells
    have HZ := Lib.hid z0
    clear z0
    go_wp2_with (first | (go_at_call 36; (with_reducible refine ((TA _ HB0.out).out).mono ?_); rintro e w1 ⟨rfl, hb1⟩; have HB1 := Lib.hid (HB0.out.trans (hb1.mono HB0.out.size)); clear c0 c1 c2 c3; obtain ⟨c0, c1, c2, c3⟩ := (HZ.out.below hb1 hs0).cells; clear hb1) | (go_at_call 37; refine (II _ HB1.out).out.mono ?_; rintro e w2 ⟨rfl, hb2⟩; have HB2 := Lib.hid (HB1.out.trans (hb2.mono HB1.out.size)); clear hb2))
    go_ret2
    exact ⟨by rw [HQ.out]; rfl, HB2.out⟩
  · have hb1 : (d == 1) = false := beq_eq_false_iff_ne.2 h1
    have HQ : Hid (textQ a d = itoa a ++ 47 :: itoa d) := Lib.hid (by unfold textQ; rw [if_neg h1])
    rw [hb1] at II
    have II := fun V h => Lib.hid (II V h)
    clear h0 h1 hb1
    generalize itoa a = TXA at *
    generalize itoa d = TXD at *
    generalize textQ a d = TXQ at *
    go_enter Tryz.func20, Tryz.ntmps20
    go_upto_region 1 with (fail)
    generalize w.alloc (.cells #[.int .i64 s, .slice A n c, .int .i64 t, .slice A' m c'] 41) = w0 at *
    obtain ⟨c0, c1, c2, c3⟩ := z0.cells
    have HZ := Lib.hid z0
    clear z0
    go_wp2_with (first | (go_at_call 36; (with_reducible refine ((TD _ HB2.out).out).mono ?_); rintro e w3 ⟨rfl, hb3⟩; have HB3 := Lib.hid (HB2.out.trans (hb3.mono HB2.out.size)); clear hb3) | (go_at_call 36; (with_reducible refine ((TA _ HB0.out).out).mono ?_); rintro e w1 ⟨rfl, hb1⟩; have HB1 := Lib.hid (HB0.out.trans (hb1.mono HB0.out.size)); clear c0 c1 c2 c3; have z1 := HZ.out.below hb1 hs0; obtain ⟨c0, c1, c2, c3⟩ := z1.cells; have HZ1 := Lib.hid z1; clear hb1 z1) | (go_at_call 37; refine (II _ HB1.out).out.mono ?_; rintro e w2 ⟨rfl, hb2⟩; have HB2 := Lib.hid (HB1.out.trans (hb2.mono HB1.out.size)); clear c0 c1 c2 c3; obtain ⟨c0, c1, c2, c3⟩ := (HZ1.out.below hb2 HZ1.out.lt).cells; clear hb2))
    go_ret2
    exact ⟨by rw [HQ.out, ← HE.out]; rfl, HB3.out⟩

set_option maxRecDepth 100000 in
theorem writeW (a d : Int) (s : Int) (A : Option Addr) (n c : Nat) (t : Int) (A' : Option Addr) (m c' : Nat) (w : World) (ha : ZW w (.agg #[.int .i64 s, .slice A n c]) a) (hd : ZW w (.agg #[.int .i64 t, .slice A' m c']) d) (hal : a.natAbs ≤ 9223372036854775808) (hdl : d.natAbs ≤ 9223372036854775808) (h0 : 0 < d) (hT : Pow10In w) :
    Calls Tryz.prog 8 #[.agg #[.int .i64 s, .slice A n c, .int .i64 t, .slice A' m c']] w fun e w' => e = .returned (.tuple #[.string (ofL (textQ a d)), .int .i64 0]) ∧ Below w.heap.size w w' := by
  have z0 := RBox.new w s t (.slice A n c) (.slice A' m c')
  have HB0 := Lib.hid ((Below.refl w.heap.size w).alloc (Nat.le_refl _) (.cells #[.int .i64 s, .slice A n c, .int .i64 t, .slice A' m c'] 41))
  have TX := fun V (h : Below w.heap.size w V) => Lib.hid (textRW a d s A n c t A' m c' V (ha.below h) (hd.below h) hal hdl h0 (hT.below h))
  clear ha hd hal hdl h0 hT
  generalize textQ a d = T at *
  go_enter Tryz.func8, Tryz.ntmps8
  go_upto_region 1 with (fail)
  generalize w.alloc (.cells #[.int .i64 s, .slice A n c, .int .i64 t, .slice A' m c'] 41) = w0 at *
  obtain ⟨c0, c1, c2, c3⟩ := z0.cells
  go_wp2_with (go_at_call 20; refine ((TX _ HB0.out).out).mono ?_; rintro e w1 ⟨rfl, hb1⟩; have HB1 := Lib.hid (HB0.out.trans (hb1.mono HB0.out.size)); clear hb1)
  go_ret2
  exact ⟨rfl, HB1.out⟩
end Go.Proofs.YteicddmekhdjeaaGreatDoor
