/- Polygons: the reference's functions on slices of points. -/
import Derived.Test.YtnijcdphmibjaaaMeet
namespace Go.Proofs.Ytnijcdphmibjaaa
open Go.RowKit Go.Sort
attribute [local go_sem ↓] run_min_mn run_max_mx

/-- The points of a list lie one after the other in a block. -/
def PtsIn (w : World) (b off : Nat) (l : List Pt) : Prop :=
  ∀ i p, l[i]? = some p → w.cell? ⟨b, off + i * 2, none⟩ = some (.int .i64 p.1) ∧ w.cell? ⟨b, off + i * 2 + 1, none⟩ = some (.int .i64 p.2)
theorem PtsIn.below {w w' : World} {B b off : Nat} {l : List Pt} (h : PtsIn w b off l) (hb : Below B w w') (hB : b < B) : PtsIn w' b off l :=
  fun i p hp => ⟨(hb.cell (p := ⟨b, _, none⟩) hB).trans (h i p hp).1, (hb.cell (p := ⟨b, _, none⟩) hB).trans (h i p hp).2⟩

theorem next_any (b off n c : Nat) (l : List Pt) (i : Nat) (w : World) (hl : l.length = n) (hn : 0 < n) (hn' : n ≤ 1000000) (hi : i ≤ 1000000) (h : PtsIn w b off l) :
    Calls Try.prog 64 #[.slice (some ⟨b, off, none⟩) n c, .int .i64 i] w fun e w' =>
      e = .returned (.agg #[.int .i64 (nx l i).1, .int .i64 (nx l i).2]) ∧ Below w.heap.size w w' := by
  have hm : (i + 1) % n < n := Nat.mod_lt _ hn
  have hx : l[(i + 1) % n]? = some (nx l i) := by
    unfold nx; subst hl
    rw [List.getD_eq_getElem?_getD, List.getElem?_eq_getElem hm]; rfl
  obtain ⟨h1, h2⟩ := h _ _ hx
  generalize nx l i = p at *
  obtain ⟨x, y⟩ := p
  clear hl h hx
  have B1 : b < w.heap.size := block_lt_of_cell h1
  have g1 : (0 : Int) ≤ ((i : Int) + 1) % (n : Int) := Int.emod_nonneg _ (by omega)
  have g2 : ((i : Int) + 1) % (n : Int) < (n : Int) := Int.emod_lt_of_pos _ (by omega)
  go_enter Try.func64, Try.ntmps64
  go_wp2
  go_returns
  exact ⟨rfl, (Below.refl _ _).alloc (Nat.le_refl _) _⟩

theorem next_any1 (b off n c : Nat) (l : List Pt) (i : Nat) (w : World) (hl : l.length = n) (hn : 0 < n) (hn' : n ≤ 1000000) (hi : i ≤ 10000) (h : PtsIn w b off l) :
    Calls Try.prog 64 #[.slice (some ⟨b, off, none⟩) n c, .int .i64 ((i : Int) + 1)] w fun e w' =>
      e = .returned (.agg #[.int .i64 (nx l (i + 1)).1, .int .i64 (nx l (i + 1)).2]) ∧ Below w.heap.size w w' := by
  have := next_any b off n c l (i + 1) w hl hn hn' (by omega) h
  rwa [Int.natCast_add i 1] at this

theorem polygon_any (b off n c : Nat) (l : List Pt) (w : World) (hl : l.length = n) (hn : 0 < n) (hn' : n ≤ 1000000) (h : PtsIn w b off l) (hb : b < w.heap.size) :
    Calls Try.prog 23 #[.slice (some ⟨b, off, none⟩) n c] w fun e w' =>
      e = .returned (.bool (polyB l)) ∧ Below w.heap.size w w' := by
  go_enter Try.func23, Try.ntmps23
  go_wp2
  go_loopw [3] (fun i wr => ∃ k : Nat, k ≤ n ∧ i = .int .i64 k ∧ (l.take k).all okP = true ∧ Below w.heap.size w wr) (fun i _ => n - (intOf i).toNat)
  case atStart => exact ⟨0, Nat.zero_le _, rfl, by simp, Below.refl _ _⟩
  case round =>
    obtain ⟨k, hk, rfl, hall, hbw⟩ := hrel
    by_cases hlt : k < n
    · obtain ⟨p, hp⟩ : ∃ p, l[k]? = some p := ⟨l[k]'(by omega), List.getElem?_eq_getElem _⟩
      obtain ⟨h1, h2⟩ := (h.below hbw hb) k p hp
      have e1 : (l.take (k + 1)).all okP = validB p.1 p.2 10000 := by
        rw [List.take_succ_eq_append_getElem (by omega), List.all_append, hall]
        have : l[k]'(by omega) = p := by rw [List.getElem?_eq_getElem (by omega)] at hp; exact Option.some.inj hp
        rw [this]; simp [okP]
      have e2 : validB p.1 p.2 10000 = false → polyB l = false := by
        intro hv
        have hm : p ∈ l := List.mem_of_getElem? hp
        have : l.all okP = false := by rw [List.all_eq_false]; exact ⟨p, hm, by simp [okP, hv]⟩
        simp [polyB, this]
      have E1 := Lib.hid e1
      have E2 := Lib.hid e2
      obtain ⟨x, y⟩ := p
      clear hp hall hl h e1 e2
      have V := fun W => Lib.hid (valid_any x y 10000 (by omega) W)
      cases hv : validB x y 10000
      · have HV := Lib.hid hv
        clear hv
        go_wp2_with fail
        refine ((V _).out).mono ?_
        rintro e w1 ⟨rfl, hb1⟩
        rw [HV.out]
        go_wp2_with fail
        go_ret
        exact ⟨ret_bool (E2.out HV.out).symm, hbw.trans (hb1.mono hbw.size)⟩
      · have HV := Lib.hid hv
        clear hv
        go_wp2_with fail
        refine ((V _).out).mono ?_
        rintro e w1 ⟨rfl, hb1⟩
        rw [HV.out]
        go_wp2_with fail
        go_roundw
        case rel => exact ⟨k + 1, by omega, by go_num, by rw [E1.out]; exact HV.out, hbw.trans (hb1.mono hbw.size)⟩
        case measure => simp [intOf]; omega
    · have hk' : k = n := by omega
      have hp : polyB l = inB n 3 32 := by
        subst hl; subst hk'
        rw [List.take_length] at hall
        simp [polyB, hall]
      subst hk'
      have HP := Lib.hid hp
      clear hp hall hl
      have I := fun W => Lib.hid (in_any k 3 32 W)
      go_wp2_with fail
      refine ((I _).out).mono ?_
      rintro e w1 ⟨rfl, rfl⟩
      go_wp2_with fail
      go_ret
      exact ⟨ret_bool HP.out.symm, hbw⟩
end Go.Proofs.Ytnijcdphmibjaaa
