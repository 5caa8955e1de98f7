/- The document's Next. -/
import Derived.Test.YtddejjilfmphbaaGreatDoorRefLive
import Derived.Test.YtddejjilfmphbaaGreatDoorNextMath
import Derived.Test.YtddejjilfmphbaaGreatDoorBagRep
import Derived.IntWalk
namespace Go.Proofs.YtddejjilfmphbaaGreatDoor
open Go.RowKit Go.Sort

theorem infoB6 : (Tryz.prog.info? 4).map (fun i => (i.zero, i.size, i.bytes)) = some (some (.bool false), 1, 1) := by kernel_rfl
def hasC (m : Nat) (o : Nat → Option Int) : Array Value := ((List.range m).map fun i => Value.bool (o i).isSome).toArray
def outC (m : Nat) (o : Nat → Option Int) : Array Value := cellsOf ((List.range m).map fun i => (o i).getD 0)
theorem hasC_get {m : Nat} {o : Nat → Option Int} {i : Nat} (h : i < m) : (hasC m o)[i]? = some (.bool (o i).isSome) := by simp [hasC, h]
theorem outC_get {m : Nat} {o : Nat → Option Int} {i : Nat} (h : i < m) : (outC m o)[i]? = some (.int .i64 ((o i).getD 0)) := by simp [outC, cellsOf, h]
theorem hasC_set {m : Nat} {o o' : Nat → Option Int} {t : Nat} {v : Int} (e : o' = fun i => if i = t then some v else o i) : (hasC m o).setIfInBounds t (.bool true) = hasC m o' := by
  subst e
  apply Array.ext
  · simp [hasC]
  · intro i h1 h2
    have hi : i < m := by simpa [hasC] using h2
    rw [Array.getElem_setIfInBounds (by simpa [hasC] using hi)]
    simp only [hasC, List.getElem_toArray, List.getElem_map, List.getElem_range]
    by_cases h : t = i
    · subst h; simp
    · rw [if_neg h, if_neg (Ne.symm h)]
theorem outC_set {m : Nat} {o o' : Nat → Option Int} {t : Nat} {v : Int} (e : o' = fun i => if i = t then some v else o i) : (outC m o).setIfInBounds t (.int .i64 v) = outC m o' := by
  subst e
  apply Array.ext
  · simp [outC, cellsOf]
  · intro i h1 h2
    have hi : i < m := by simpa [outC, cellsOf] using h2
    rw [Array.getElem_setIfInBounds (by simpa [outC, cellsOf] using hi)]
    simp only [outC, cellsOf, List.getElem_toArray, List.getElem_map, List.getElem_range]
    by_cases h : t = i
    · subst h; simp
    · rw [if_neg h, if_neg (Ne.symm h)]
theorem made_has (m : Nat) : madeCells #[Value.bool false] m = hasC m fun _ => none := by
  apply Array.ext
  · simp [madeCells, hasC]
  · intro i h1 h2
    simp [madeCells, hasC, Nat.mod_one]
theorem made_out (m : Nat) : cellsOf (List.replicate m 0) = outC m fun _ => none := by
  unfold outC
  congr 1
  apply List.ext_getElem <;> simp
theorem make_has (m : Nat) (hm : m ≤ 1000000) (W : World) : (Instr.makeSlice 62 (.int .i64 (m : Int)) (.int .i64 (m : Int))).run Tryz.prog W =
    .ok (.slice (some ⟨W.heap.size, 0, none⟩) m m) (W.alloc (.cells (hasC m fun _ => none) 4)) := by
  obtain ⟨i0, hi0, hz0, hz1, hz2⟩ := info_parts infoB6
  have h := run_makeSlice (P := Tryz.prog) W 62 4 i0 _ Tryz.underlying62 hi0 hz0 .i64 .i64 (m : Int) (m : Int) (by omega) (Int.le_refl _) (by rw [hz1]; omega) (by rw [hz2]; omega) (by omega)
  rw [h, hz1, Nat.mul_one, Int.toNat_natCast]
  rw [show (Value.bool false).cells = #[Value.bool false] from rfl, made_has]
theorem make_out (m : Nat) (hm : m ≤ 1000000) (W : World) : (Instr.makeSlice 25 (.int .i64 (m : Int)) (.int .i64 (m : Int))).run Tryz.prog W =
    .ok (.slice (some ⟨W.heap.size, 0, none⟩) m m) (W.alloc (.cells (outC m fun _ => none) 3)) := by
  rw [make_ints m (by omega) W, made_out]

theorem Blk.far {w : World} {g : Nat} {t : TypeId} {cs : Array Value} (h : Blk w g t cs) {p : Addr} (hp : g ≠ p.block) (u : Value) : Blk (w.setCell p u) g t cs := h.same (Below.heap_setCell w p u g hp)
/-- What Next's memory holds. -/
structure NxS (w : World) (m : Nat) (A X : Option Addr) (l : List Arc) (xs : List Int) (g0 g1 : Nat) (o : Nat → Option Int) (w' : World) : Prop where
  out : Blk w' g0 3 (outC m o)
  has : Blk w' g1 4 (hasC m o)
  ne : g0 ≠ g1
  lt0 : w.heap.size ≤ g0
  lt1 : w.heap.size ≤ g1
  below : Below w.heap.size w w'
theorem NxS.put {w w' : World} {m : Nat} {A X : Option Addr} {l : List Arc} {xs : List Int} {g0 g1 : Nat} {o o' : Nat → Option Int} (h : NxS w m A X l xs g0 g1 o w') {t : Nat} {v : Int} (e : o' = fun i => if i = t then some v else o i) :
    NxS w m A X l xs g0 g1 o' ((w'.setCell ⟨g0, t, none⟩ (.int .i64 v)).setCell ⟨g1, t, none⟩ (.bool true)) :=
  ⟨by
    have := (h.out.set_ t (.int .i64 v))
    rw [outC_set e] at this
    exact this.same (Below.heap_setCell _ _ _ _ h.ne), by
    have := (h.has.same (w' := w'.setCell ⟨g0, t, none⟩ (.int .i64 v)) (Below.heap_setCell _ _ _ _ (Ne.symm h.ne))).set_ t (.bool true)
    rwa [hasC_set e] at this, h.ne, h.lt0, h.lt1, (h.below.setCell h.lt0 _).setCell h.lt1 _⟩
theorem NxS.then_ {w w' w'' : World} {m : Nat} {A X : Option Addr} {l : List Arc} {xs : List Int} {g0 g1 : Nat} {o : Nat → Option Int} (h : NxS w m A X l xs g0 g1 o w') (hb : Below w'.heap.size w' w'') : NxS w m A X l xs g0 g1 o w'' :=
  ⟨h.out.below hb h.out.lt, h.has.below hb h.has.lt, h.ne, h.lt0, h.lt1, h.below.trans (hb.mono h.below.size)⟩
def NxTo (w : World) (m : Nat) (x : Nat → Option Int) (l : List Arc) (e : Ending) (w' : World) : Prop :=
  ∃ g : Nat, e = .returned (.slice (some ⟨g, 0, none⟩) m m) ∧ w.heap.size ≤ g ∧ Blk w' g 3 (outC m (nArcs x l)) ∧ Below w.heap.size w w'

set_option maxHeartbeats 4000000 in
theorem next_any (m : Nat) (A : Option Addr) (n c : Nat) (l : List Arc) (X : Option Addr) (cx : Nat) (xs : List Int) (w : World) (hm : m ≤ 16) (hn : l.length = n) (hbig : n ≤ 1000000) (hA : ArcsAt w A l)
    (hok : ∀ a ∈ l, (0 ≤ a.f ∧ a.f < m) ∧ (0 ≤ a.t ∧ a.t < m) ∧ -1000000 ≤ a.d ∧ a.d ≤ 1000000) (hxn : xs.length = m) (hx : Ints w X xs) (hxs : ∀ v ∈ xs, -4000000000000 ≤ v ∧ v ≤ 4000000000000) :
    Calls Tryz.prog 17 #[.int .i64 (m : Int), .slice A n c, .slice X m cx] w (NxTo w m (stOf xs) l) := by
  have HN := Lib.hid hn
  have HA := Lib.hid hA
  have HOK := Lib.hid hok
  have HXN := Lib.hid hxn
  have HX := Lib.hid hx
  have HXS := Lib.hid hxs
  have mk1 := make_has m (by omega)
  have mk2 := make_out m (by omega)
  clear hn hA hok hxn hx hxs
  go_enter Tryz.func17, Tryz.ntmps17
  go_upto_region 1 with (fail)
  go_cut [7, 8] from 12 to 61 (fun s7 s8 wx => ∃ g0 g1 : Nat, s7 = .slice (some ⟨g0, 0, none⟩) m m ∧ s8 = .slice (some ⟨g1, 0, none⟩) m m ∧ NxS w m A X l xs g0 g1 (fun _ => none) wx)
  case first =>
    have HA1 : Hid (∀ W : World, Below w.heap.size w W → NxS w m A X l xs W.heap.size (W.heap.size + 1) (fun _ => none) ((W.alloc (.cells (outC m fun _ => none) 3)).alloc (.cells (hasC m fun _ => none) 4))) := Lib.hid fun W hb =>
      ⟨(Blk.new W _ _).alloc _, Blk.newAt _ _ _ (by simp), by omega, hb.size, by have := hb.size; omega, (hb.alloc hb.size _).alloc (by have := hb.size; simp; omega) _⟩
    have HA2 : Hid (∀ W : World, Below w.heap.size w W → NxS w m A X l xs (W.heap.size + 1) W.heap.size (fun _ => none) ((W.alloc (.cells (hasC m fun _ => none) 4)).alloc (.cells (outC m fun _ => none) 3))) := Lib.hid fun W hb =>
      ⟨Blk.newAt _ _ _ (by simp), (Blk.new W _ _).alloc _, by omega, by have := hb.size; omega, hb.size, (hb.alloc hb.size _).alloc (by have := hb.size; simp; omega) _⟩
    go_region
    all_goals (go_wp2_with fail; go_meet)
    · exact ⟨_, _, rfl, rfl, (HA1.out w (Below.refl _ _)).then_ (Below.refl _ _).drew⟩
    · exact ⟨_, _, rfl, rfl, (HA2.out w (Below.refl _ _)).then_ (Below.refl _ _).drew⟩
  case rest =>
    obtain ⟨g0, g1, rfl, rfl, hS⟩ := hcut
    clear mk1 mk2
    have HS0 := Lib.hid hS
    clear hS
    go_wp2_with fail
    go_loopw [9] (fun i wr => ∃ q : Nat, q ≤ n ∧ i = .int .i64 q ∧ NxS w m A X l xs g0 g1 (nArcs (stOf xs) (l.take q)) wr) (fun i _ => n - (intOf i).toNat)
    case atStart => exact ⟨0, Nat.zero_le _, rfl, HS0.out⟩
    case round =>
      clear HS0
      obtain ⟨q, hq, rfl, hS⟩ := hrel
      by_cases hqn : q < n
      · have hl : q < l.length := by have := HN.out; omega
        obtain ⟨b, off, rfl, hbl, hps⟩ := HA.out (by intro e; subst e; simp at hl)
        obtain ⟨q0, q1, q2⟩ := hps q _ (List.getElem?_eq_getElem hl)
        have hok := HOK.out _ (List.getElem_mem hl)
        have HNX := Lib.hid (nArcs_take (stOf xs) l hl)
        clear hps
        obtain ⟨o2, ho2⟩ : ∃ o2, nArcs (stOf xs) (l.take (q + 1)) = o2 := ⟨_, rfl⟩
        rw [ho2] at HNX
        have HO2 := Lib.hid ho2
        clear ho2
        generalize nArcs (stOf xs) (l.take q) = o at *
        generalize l[q] = a at *
        obtain ⟨f, t, d⟩ := a
        simp only at q0 q1 q2 hok
        obtain ⟨⟨hf1, hf2⟩, ⟨ht1, ht2⟩, hd1, hd2⟩ := hok
        obtain ⟨f, rfl⟩ : ∃ k : Nat, f = (k : Int) := ⟨f.toNat, by omega⟩
        obtain ⟨t, rfl⟩ : ∃ k : Nat, t = (k : Int) := ⟨t.toNat, by omega⟩
        have hfl : f < xs.length := by have := HXN.out; omega
        obtain ⟨bx, offx, rfl, hcx⟩ := (HX.out.below hS.below).at_ hfl
        have hxv := HXS.out _ (List.getElem_mem hfl)
        have HST : Hid (stOf xs f = some xs[f]) := Lib.hid (List.getElem?_eq_getElem hfl)
        generalize xs[f] = xv at *
        have hsum : IntKind.i64.wrap (xv + d) = xv + d := IntWalk.i64_in _ (by omega)
        have t0 := cell_regrown ((hS.below.cell (p := ⟨b, _, none⟩) hbl).trans q0)
        have t2 := cell_regrown ((hS.below.cell (p := ⟨b, _, none⟩) hbl).trans q2)
        have t3 := cell_regrown hcx
        have HS := Lib.hid hS
        have htm : t < m := by omega
        have hfm : f < m := by omega
        have HNX2 : Hid (o2 = fun i => if i = t then MP.mx (o i) (some (xv + d)) else o i) := Lib.hid (by
          rw [HNX.out]
          funext i
          show (if i = (t : Int).toNat then MP.mx (o i) (MP.add (stOf xs (f : Int).toNat) (some d)) else o i) = _
          rw [Int.toNat_natCast, Int.toNat_natCast, HST.out]; rfl)
        clear hS hcx hf1 ht1 HNX HST
        go_upto_region 5 with (fail)
        refine wp_region_quiet_below (by kernel_rfl) (by kernel_rfl) ?_
        repeat (go_big_quiet_step (fail))
        refine wpQuiet_nil ?_
        intro _ hw'
        obtain ⟨⟨dq, osq⟩, hw''⟩ := hw'
        subst hw''
        have HS5 := Lib.hid (HS.out.then_ (below_regrown wr dq osq))
        have q1' := cell_regrown ((HS.out.below.cell (p := ⟨b, _, none⟩) hbl).trans q1) dq osq
        clear t0 t2 t3 HS q0 q1 q2
        dsimp only
        generalize grow (redrawn wr dq) osq = w5 at *
        have k0 : w5.cell? ⟨g1, t, none⟩ = some (.bool (o t).isSome) := by rw [HS5.out.has.cell, hasC_get htm]
        have k1 : w5.cell? ⟨g0, t, none⟩ = some (.int .i64 ((o t).getD 0)) := by rw [HS5.out.out.cell, outC_get htm]
        have kf0 := HS5.out.has.frozen t
        have kf1 := HS5.out.out.frozen t
        have k2 : ∀ u : Value, (w5.setCell ⟨g0, t, none⟩ u).cell? ⟨g1, t, none⟩ = some (.bool (o t).isSome) := fun u => by
          rw [Blk.cell (Blk.far HS5.out.has (p := ⟨g0, t, none⟩) (Ne.symm HS5.out.ne) u), hasC_get htm]
        have kf2 : ∀ u : Value, (w5.setCell ⟨g0, t, none⟩ u).frozen? ⟨g1, t, none⟩ = false := fun u =>
          Blk.frozen (Blk.far HS5.out.has (p := ⟨g0, t, none⟩) (Ne.symm HS5.out.ne) u) t
        cases ho : o t with
        | none =>
          rw [ho] at k0 k1 k2
          have HN3 : Hid (NxS w m (some ⟨b, off, none⟩) (some ⟨bx, offx, none⟩) l xs g0 g1 o2 ((w5.setCell ⟨g0, t, none⟩ (.int .i64 (xv + d))).setCell ⟨g1, t, none⟩ (.bool true))) := Lib.hid (HS5.out.put (by
            rw [HNX2.out]
            funext i
            by_cases h : i = t
            · subst h; rw [if_pos rfl, if_pos rfl, ho]; rfl
            · rw [if_neg h, if_neg h]))
          simp only [Option.isSome_none, Option.getD_none] at k0 k1 k2
          clear HNX2 ho HS5
          go_wp2_with fail
          go_roundw
          case rel => exact ⟨q + 1, by omega, by go_num, by rw [HO2.out]; exact HN3.out⟩
          case measure => simp [intOf]; omega
        | some u =>
          rw [ho] at k0 k1 k2
          simp only [Option.isSome_some, Option.getD_some] at k0 k1 k2
          by_cases hgt : u < xv + d
          · have HN3 : Hid (NxS w m (some ⟨b, off, none⟩) (some ⟨bx, offx, none⟩) l xs g0 g1 o2 ((w5.setCell ⟨g0, t, none⟩ (.int .i64 (xv + d))).setCell ⟨g1, t, none⟩ (.bool true))) := Lib.hid (HS5.out.put (by
              rw [HNX2.out]
              funext i
              by_cases h : i = t
              · subst h; rw [if_pos rfl, if_pos rfl, ho]; exact congrArg some (if_pos hgt)
              · rw [if_neg h, if_neg h]))
            clear HNX2 ho HS5
            go_wp2_with fail
            go_roundw
            case rel => exact ⟨q + 1, by omega, by go_num, by rw [HO2.out]; exact HN3.out⟩
            case measure => simp [intOf]; omega
          · have HN3 : Hid (NxS w m (some ⟨b, off, none⟩) (some ⟨bx, offx, none⟩) l xs g0 g1 o2 w5) := Lib.hid (by
              have e : o2 = o := by
                rw [HNX2.out]
                funext i
                by_cases h : i = t
                · subst h; rw [if_pos rfl, ho]; exact congrArg some (if_neg hgt)
                · rw [if_neg h]
              rw [e]
              exact HS5.out)
            clear HNX2 ho HS5
            go_wp2_with fail
            go_roundw
            case rel => exact ⟨q + 1, by omega, by go_num, by rw [HO2.out]; exact HN3.out⟩
            case measure => simp [intOf]; omega
      · obtain rfl : q = n := by omega
        have hfull : nArcs (stOf xs) (l.take q) = nArcs (stOf xs) l := by rw [List.take_of_length_le (by have := HN.out; omega)]
        rw [hfull] at hS
        have HS := Lib.hid hS
        clear hS hfull
        go_wp2_with fail
        go_ret
        exact ⟨g0, rfl, HS.out.lt0, HS.out.out, HS.out.below⟩
end Go.Proofs.YtddejjilfmphbaaGreatDoor
