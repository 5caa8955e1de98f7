/- Bags: the reference's Made: which totals are made. -/
import Derived.Test.YthboolnacmpmlaaGreatDoorBagLower
namespace Go.Proofs.YthboolnacmpmlaaGreatDoor
open Go.RowKit Go.Sort Bag
attribute [local go_sem ↓] run_min_mn run_max_mx

/-- Bools as cells. -/
def boolsOf (n : Nat) (f : Nat → Bool) : Array Value := ((List.range n).map fun i => Value.bool (f i)).toArray
theorem boolsOf_size (n : Nat) (f : Nat → Bool) : (boolsOf n f).size = n := by simp [boolsOf]
theorem boolsOf_get {n : Nat} {f : Nat → Bool} {i : Nat} (h : i < n) : (boolsOf n f)[i]? = some (.bool (f i)) := by simp [boolsOf, h]
theorem boolsOf_set (n : Nat) (f : Nat → Bool) (t : Nat) (b : Bool) : (boolsOf n f).setIfInBounds t (.bool b) = boolsOf n (fun u => if u = t then b else f u) := by
  apply Array.ext
  · simp [boolsOf]
  · intro i h1 h2
    have hi : i < n := by simpa [boolsOf] using h2
    rw [Array.getElem_setIfInBounds]
    · simp only [boolsOf, List.getElem_toArray, List.getElem_map, List.getElem_range]
      by_cases e : t = i
      · subst e; simp
      · rw [if_neg e, if_neg (fun h => e h.symm)]
    · simpa [boolsOf] using hi
theorem boolsOf_congr {n : Nat} {f g : Nat → Bool} (h : ∀ i, i < n → f i = g i) : boolsOf n f = boolsOf n g := by
  simp only [boolsOf]
  congr 1
  apply List.map_congr_left
  intro i hi
  rw [h i (List.mem_range.1 hi)]

/-- Is the total made? -/
noncomputable def mkB (l : List Nat) (t : Nat) : Bool := @decide (Mk l t) (Classical.propDecidable _)
theorem mkB_true {l : List Nat} {t : Nat} : mkB l t = true ↔ Mk l t := by unfold mkB; simp
theorem mkB_false {l : List Nat} {t : Nat} : mkB l t = false ↔ ¬ Mk l t := by unfold mkB; simp

/-- Total t, when sizes of p were looked at. -/
noncomputable def upto (l p : List Nat) (t : Nat) : Bool := p.any fun s => decide (s ≤ t) && mkB l (t - s)
/-- The state of the row. -/
noncomputable def row (l p : List Nat) (t u : Nat) : Bool := if u < t then mkB l u else if u = t then upto l p t else false

theorem upto_all {l : List Nat} {t : Nat} (ht : 1 ≤ t) : upto l l t = mkB l t := by
  rw [Bool.eq_iff_iff, mkB_true]
  unfold upto
  rw [List.any_eq_true]
  constructor
  · rintro ⟨s, hs, h⟩
    rw [Bool.and_eq_true, decide_eq_true_eq, mkB_true] at h
    have := Mk.add h.2 hs
    rwa [Nat.sub_add_cancel h.1] at this
  · intro h
    rcases h.cases' with h0 | ⟨s, hs, h1, h2⟩
    · omega
    · exact ⟨s, hs, by rw [Bool.and_eq_true, decide_eq_true_eq, mkB_true]; exact ⟨h1, h2⟩⟩
theorem row_next {l : List Nat} {t : Nat} (ht : 1 ≤ t) (u : Nat) : row l l t u = row l [] (t + 1) u := by
  unfold row
  by_cases h1 : u < t
  · rw [if_pos h1, if_pos (by omega)]
  · by_cases h2 : u = t
    · subst h2
      rw [if_neg h1, if_pos rfl, if_pos (by omega), upto_all ht]
    · rw [if_neg h1, if_neg h2, if_neg (by omega)]
      split
      · rfl
      · rfl
theorem row_first (l : List Nat) (u : Nat) : row l [] 1 u = decide (u = 0) := by
  unfold row
  by_cases h : u = 0
  · subst h; simp [mkB_true, Mk.zero]
  · rw [if_neg (by omega)]
    rw [decide_eq_false h]
    split <;> simp [upto]
theorem row_done {l : List Nat} {n u : Nat} (h : u < n) : row l [] n u = mkB l u := by unfold row; rw [if_pos h]
theorem row_step {l p : List Nat} {s t : Nat} (u : Nat) : row l (p ++ [s]) t u = if u = t then (upto l p t || (decide (s ≤ t) && mkB l (t - s))) else row l p t u := by
  unfold row
  by_cases h2 : u = t
  · subst h2
    rw [if_neg (by omega), if_pos rfl, if_pos rfl]
    simp [upto]
  · simp [h2]

theorem info_bool : (Tryz.prog.info? 4).map (fun i => (i.zero, i.size, i.bytes)) = some (some (.bool false), 1, 1) := by kernel_rfl
theorem made_false (m : Nat) : madeCells #[Value.bool false] m = boolsOf m (fun _ => false) := by
  apply Array.ext
  · simp [madeCells, boolsOf]
  · intro i h1 h2
    simp [madeCells, boolsOf, Nat.mod_one]
theorem make_bools (m : Nat) (hm : m ≤ 1000000) (W : World) : (Instr.makeSlice 45 (.int .i64 ((m : Int) + 1)) (.int .i64 ((m : Int) + 1))).run Tryz.prog W =
    .ok (.slice (some ⟨W.heap.size, 0, none⟩) (m + 1) (m + 1)) (W.alloc (.cells (boolsOf (m + 1) (fun _ => false)) 4)) := by
  obtain ⟨i0, hi0, hz0, hz1, hz2⟩ := info_parts info_bool
  have h := run_makeSlice (P := Tryz.prog) W 45 4 i0 _ Tryz.underlying45 hi0 hz0 .i64 .i64 ((m : Int) + 1) ((m : Int) + 1) (by omega) (Int.le_refl _) (by rw [hz1]; omega) (by rw [hz2]; omega) (by omega)
  rw [h, hz1, Nat.mul_one, show ((m : Int) + 1).toNat = m + 1 by omega]
  rw [show (Value.bool false).cells = #[Value.bool false] from rfl, made_false]

/-- What Made leaves. -/
def MadeTo (w : World) (l : List Nat) (n : Nat) (e : Ending) (w' : World) : Prop :=
  ∃ g : Nat, e = .returned (.slice (some ⟨g, 0, none⟩) n n) ∧ w.heap.size ≤ g ∧ Blk w' g 4 (boolsOf n (mkB l)) ∧ Below w.heap.size w w'

set_option maxHeartbeats 1000000 in
theorem made_any (A : Option Addr) (n c : Nat) (l : List Nat) (most : Nat) (w : World) (hn : l.length = n) (hbig : n ≤ 1000) (hx : Ints w A (toI l)) (hs : ∀ x ∈ l, 1 ≤ x ∧ x ≤ 1000000) (hm : most ≤ 1000000) :
    Calls Tryz.prog 31 #[.slice A n c, .int .i64 most] w (MadeTo w l (most + 1)) := by
  have HN := Lib.hid hn
  have HX := Lib.hid hx
  have HS := Lib.hid hs
  have hmk := make_bools most hm
  clear hn hx hs
  have e0 : (boolsOf (most + 1) (fun _ => false)).setIfInBounds 0 (.bool true) = boolsOf (most + 1) (row l [] 1) := by
    rw [boolsOf_set]
    exact boolsOf_congr fun i _ => by rw [row_first]; by_cases e : i = 0 <;> simp [e]
  have hB0 : Blk (w.alloc (.cells ((boolsOf (most + 1) (fun _ => false)).setIfInBounds 0 (.bool true)) 4)) w.heap.size 4 (boolsOf (most + 1) (row l [] 1)) := by
    rw [e0]; exact Blk.new _ _ _
  have c0 : (w.alloc (.cells (boolsOf (most + 1) (fun _ => false)) 4)).cell? ⟨w.heap.size, 0, none⟩ = some (.bool false) := by
    rw [(Blk.new w 4 _).cell, boolsOf_get (by omega)]
  have HB0 := Lib.hid hB0
  clear hB0 e0
  go_enter Tryz.func31, Tryz.ntmps31
  go_wp2_with fail
  go_loopw [6] (fun i wr => ∃ t : Nat, 1 ≤ t ∧ t ≤ most + 1 ∧ i = .int .i64 t ∧ Blk wr w.heap.size 4 (boolsOf (most + 1) (row l [] t)) ∧ Below w.heap.size w wr) (fun i _ => most + 1 - (intOf i).toNat)
  case atStart => exact ⟨1, Nat.le_refl _, by omega, rfl, HB0.out, (Below.refl _ _).alloc (Nat.le_refl _) _⟩
  case round =>
    clear c0 hmk HB0
    obtain ⟨t, ht1, ht, rfl, hB, hbw⟩ := hrel
    have HB := Lib.hid hB
    clear hB
    by_cases hlt : t < most + 1
    · go_wp2_with fail
      obtain ⟨wo, rfl⟩ : ∃ wo : World, wo = wr := ⟨_, rfl⟩
      go_loopw [7] (fun i wr => ∃ k : Nat, k ≤ n ∧ i = .int .i64 k ∧ Blk wr w.heap.size 4 (boolsOf (most + 1) (row l (l.take k) t)) ∧ Below w.heap.size w wr) (fun i _ => n - (intOf i).toNat)
      case atStart => exact ⟨0, Nat.zero_le _, rfl, by rw [List.take_zero]; exact HB.out, hbw⟩
      case round =>
        clear HB hbw
        obtain ⟨k, hk, rfl, hB, hbw⟩ := hrel
        by_cases hkn : k < n
        · have hl : k < l.length := by have := HN.out; omega
          obtain ⟨b, off, rfl, cs⟩ := toI_at (HX.out.below hbw) hl
          obtain ⟨z1, z2⟩ := HS.out _ (List.getElem_mem hl)
          have hstep : Hid (∀ u, row l (l.take (k + 1)) t u = if u = t then (upto l (l.take k) t || (decide (l[k] ≤ t) && mkB l (t - l[k]))) else row l (l.take k) t u) := Lib.hid fun u => by
            rw [List.take_succ_eq_append_getElem hl]; exact row_step u
          generalize l[k] = z at *
          have c1 : wr.cell? ⟨w.heap.size, t, none⟩ = some (.bool (upto l (l.take k) t)) := by
            rw [hB.cell, boolsOf_get hlt]; simp [row]
          have c2 : z ≤ t → wr.cell? ⟨w.heap.size, t - z, none⟩ = some (.bool (mkB l (t - z))) := fun h => by
            rw [hB.cell, boolsOf_get (by omega)]
            unfold row; rw [if_pos (by omega)]
          have f1 : wr.frozen? ⟨w.heap.size, t, none⟩ = false := hB.frozen _
          have fin : ∀ r : Bool, r = (upto l (l.take k) t || (decide (z ≤ t) && mkB l (t - z))) →
              Hid (Blk (wr.setCell ⟨w.heap.size, t, none⟩ (.bool r)) w.heap.size 4 (boolsOf (most + 1) (row l (l.take (k + 1)) t))) := fun r hr => Lib.hid (by
            have h := hB.set_ t (.bool r)
            rw [boolsOf_set] at h
            rw [boolsOf_congr (g := fun u => if u = t then r else row l (l.take k) t u) (fun i _ => by rw [hstep.out, hr])]
            exact h)
          clear hB hstep
          have hbs : ∀ r : Bool, Below w.heap.size w (wr.setCell ⟨w.heap.size, t, none⟩ (.bool r)) := fun r => hbw.setCell (Nat.le_refl _) _
          have HBS := Lib.hid hbs
          clear hbs
          cases h1 : upto l (l.take k) t
          · rw [h1] at c1 fin
            by_cases h2 : z ≤ t
            · have c3 := c2 h2
              have hle : decide ((z : Int) ≤ t) = true := by simp; omega
              have hsub : ((t : Int) - z) = ((t - z : Nat) : Int) := by omega
              clear c2
              cases h3 : mkB l (t - z)
              · rw [h3] at c3 fin
                have F := fin false (by simp)
                clear fin h1 h3
                generalize hq : t - z = q at *
                clear hq
                go_wp2_with fail
                go_roundw
                case rel => exact ⟨k + 1, by omega, by go_num, F.out, HBS.out _⟩
                case measure => simp [intOf]; omega
              · rw [h3] at c3 fin
                have F := fin true (by simp [h2])
                clear fin h1 h3
                generalize hq : t - z = q at *
                clear hq
                go_wp2_with fail
                go_roundw
                case rel => exact ⟨k + 1, by omega, by go_num, F.out, HBS.out _⟩
                case measure => simp [intOf]; omega
            · have F := fin false (by simp [h2])
              have hle : decide ((z : Int) ≤ t) = false := by simp; omega
              clear fin h1 c2
              go_wp2_with fail
              go_roundw
              case rel => exact ⟨k + 1, by omega, by go_num, F.out, HBS.out _⟩
              case measure => simp [intOf]; omega
          · rw [h1] at c1 fin
            have F := fin true (by simp)
            clear fin h1 c2
            go_wp2_with fail
            go_roundw
            case rel => exact ⟨k + 1, by omega, by go_num, F.out, HBS.out _⟩
            case measure => simp [intOf]; omega
        · obtain rfl : k = n := by omega
          have hfull : l.take k = l := List.take_of_length_le (by have := HN.out; omega)
          rw [hfull, boolsOf_congr (fun i _ => row_next ht1 i)] at hB
          go_wp2_with fail
          go_roundw
          case rel => exact ⟨t + 1, by omega, by omega, by go_num, hB, hbw⟩
          case measure => simp [intOf]; omega
    · obtain rfl : t = most + 1 := by omega
      have hB := HB.out
      rw [boolsOf_congr (fun i hi => row_done hi)] at hB
      have HB2 := Lib.hid hB
      clear hB
      go_wp2_with fail
      go_ret
      exact ⟨_, rfl, Nat.le_refl _, HB2.out, hbw⟩

end Go.Proofs.YthboolnacmpmlaaGreatDoor
