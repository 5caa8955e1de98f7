/- Bags: whole.lower: one more size. -/
import Derived.Test.YthboolnacmpmlaaGreatDoorBagCut
namespace Go.Proofs.YthboolnacmpmlaaGreatDoor
open Go.RowKit Go.Sort Bag
attribute [local go_sem ↓] run_min_mn run_max_mx

theorem toI_at_ {A : List Nat} {i : Nat} (h : i < A.length) : (cellsOf (toI A))[i]? = some (.int .i64 (at_ A i : Nat)) := by
  rw [cellsOf_get]
  simp [toI, at_, h]
theorem toI_set (A : List Nat) (i v : Nat) : (toI A).set i (v : Int) = toI (A.set i v) := by simp [toI, List.map_set]

/-- What lower leaves. -/
def Lowered (g m s : Nat) (A : List Nat) (w : World) (e : Ending) (w' : World) : Prop :=
  ∃ B, e = .returned (.tuple #[]) ∧ Low m A B s ∧ Blk w' g 3 (cellsOf (toI B)) ∧ Below g w w'

set_option maxHeartbeats 1000000 in
theorem lower_any (g m s : Nat) (A : List Nat) (w : World) (hB : Blk w g 3 (cellsOf (toI A))) (hA : A.length = m) (hm : 1 ≤ m ∧ m ≤ 2000) (hs : 1 ≤ s ∧ s ≤ 2000) (htop : ∀ r, at_ A r ≤ 1099511627776) :
    Calls Tryz.prog 29 #[.slice (some ⟨g, 0, none⟩) m m, .int .i64 s] w (Lowered g m s A w) := by
  obtain ⟨m1, m2⟩ := hm
  obtain ⟨s1, s2⟩ := hs
  have K := fun w => Lib.hid (divisor_any s m w (by omega) (by omega))
  have hd1 : 1 ≤ Nat.gcd s m := Nat.gcd_pos_of_pos_left _ s1
  have hd2 : Nat.gcd s m ≤ m := Nat.le_of_dvd m1 (Nat.gcd_dvd_right s m)
  have fin : Hid (∀ B, RWay m s A B → (∀ st, st < Nat.gcd s m → Done m s A B st (2 * m / Nat.gcd s m)) → Low m A B s) := Lib.hid fun B h1 h2 => low_of_done m1 s1 hA h1 h2
  have W0 := Lib.hid (RWay.start (m := m) (s := s) hA)
  have HT := Lib.hid htop
  have HB := Lib.hid hB
  have hglt : g < w.heap.size := hB.lt
  clear hB htop hA
  generalize hd : Nat.gcd s m = d at *
  have hq : ((2 : Int) * m) / d = ((2 * m / d : Nat) : Int) := by push_cast; rfl
  have hqle : 2 * m / d ≤ 4000 := Nat.le_trans (Nat.div_le_self _ _) (by omega)
  generalize hT : 2 * m / d = T at *
  clear hT hd
  go_enter Tryz.func29, Tryz.ntmps29
  go_wp2_with (go_at_call 27; refine ((K _).out).mono ?_; rintro e w1 ⟨rfl, hb1⟩; have HB1 := Lib.hid hb1; clear hb1)
  clear K
  go_loopw [13] (fun i wr => ∃ st B, st ≤ d ∧ i = .int .i64 (st : Nat) ∧ RWay m s A B ∧ (∀ q, q < st → Done m s A B q T) ∧ Blk wr g 3 (cellsOf (toI B)) ∧ Below g w wr) (fun i _ => d - (intOf i).toNat)
  case atStart => exact ⟨0, A, Nat.zero_le _, rfl, W0.out, by omega, HB.out.below HB1.out hglt, HB1.out.mono (by omega)⟩
  case round =>
    clear HB HB1
    obtain ⟨st, B, hst, rfl, hw, hdone, hBl, hbw⟩ := hrel
    have HW := Lib.hid hw
    have HD := Lib.hid hdone
    have HBl := Lib.hid hBl
    clear hw hdone hBl
    by_cases hlt : st < d
    · go_wp2_with fail
      obtain ⟨wo, rfl⟩ : ∃ wo : World, wo = wr := ⟨_, rfl⟩
      have hpos0 : Hid (pos m s st 0 = st) := Lib.hid (by unfold pos; rw [Nat.zero_mul, Nat.add_zero, Nat.mod_eq_of_lt (by omega)])
      go_loopw [6, 22] (fun p i wr => ∃ j B, j ≤ T ∧ i = .int .i64 (j : Nat) ∧ p = .int .i64 (pos m s st j : Nat) ∧ RWay m s A B ∧ (∀ q, q < st → Done m s A B q T) ∧ Done m s A B st j ∧ Blk wr g 3 (cellsOf (toI B)) ∧ Below g w wr) (fun _ i _ => T - (intOf i).toNat)
      case atStart => exact ⟨0, B, Nat.zero_le _, rfl, by rw [hpos0.out], HW.out, HD.out, Done.start HW.out st, HBl.out, hbw⟩
      case round =>
        clear HBl HW HD hbw
        obtain ⟨j, B, hj, rfl, rfl, hw, hdone, hcur, hBl, hbw⟩ := hrel
        have HW := Lib.hid hw
        have HD := Lib.hid hdone
        have HC := Lib.hid hcur
        have HBl := Lib.hid hBl
        by_cases hjt : j < T
        · have hp : pos m s st j < m := Nat.mod_lt _ m1
          have hn : (pos m s st j + s) % m < m := Nat.mod_lt _ m1
          have hx1 := Nat.le_trans (hw.le ((pos m s st j + s) % m)) (HT.out _)
          have hy1 := Nat.le_trans (hw.le (pos m s st j)) (HT.out _)
          have hlenB := hw.len
          have HS : Hid (pos m s st (j + 1) = (pos m s st j + s) % m) := Lib.hid (pos_succ m s st j)
          have HW2 := Lib.hid (hw.step m1 hp)
          have HD2 : Hid (∀ q, q < st → Done m s A (relax m s B (pos m s st j)) q T) := Lib.hid fun q hq => (hdone q hq).mono fun r => relax_le m1 hlenB r
          have HC2 := Lib.hid (Done.step hw m1 hcur)
          have HR : Hid (relax m s B (pos m s st j) = B.set ((pos m s st j + s) % m) (min (at_ B ((pos m s st j + s) % m)) (at_ B (pos m s st j) + s))) := Lib.hid rfl
          have c1 : wr.drew.cell? ⟨g, (pos m s st j + s) % m, none⟩ = some (.int .i64 (at_ B ((pos m s st j + s) % m) : Nat)) := by
            rw [hBl.drew.cell, toI_at_ (by omega)]
          have c2 : wr.drew.cell? ⟨g, pos m s st j, none⟩ = some (.int .i64 (at_ B (pos m s st j) : Nat)) := by
            rw [hBl.drew.cell, toI_at_ (by omega)]
          have f1 : wr.drew.frozen? ⟨g, (pos m s st j + s) % m, none⟩ = false := hBl.drew.frozen _
          have hmod : ((pos m s st j : Nat) + (s : Int)) % m = (((pos m s st j + s) % m : Nat) : Int) := by push_cast; rfl
          clear hw hdone hcur hBl
          generalize relax m s B (pos m s st j) = B2 at *
          generalize hp2 : pos m s st (j + 1) = p2 at *
          have HP2 := Lib.hid hp2
          clear hp2
          generalize pos m s st j = p at *
          generalize (p + s) % m = n at *
          generalize at_ B n = x at *
          generalize at_ B p = y at *
          have hmn := mn_nat x (y + s)
          push_cast at hmn
          go_wp2_with fail
          go_region
          all_goals
            go_wp2_with fail
            go_roundw
            case rel =>
              refine ⟨j + 1, B2, by omega, by go_num, by rw [HP2.out, HS.out, hmod], HW2.out, HD2.out, HC2.out, ?_, hbw.drew.setCell (Nat.le_refl _) _⟩
              rw [HR.out, ← toI_set, ← cellsOf_set]
              exact HBl.out.drew.set_ _ _
            case measure => simp [intOf]; omega
        · obtain rfl : j = T := by omega
          go_wp2_with fail
          go_roundw
          case rel =>
            refine ⟨st + 1, B, by omega, by go_num, HW.out, fun q hq => ?_, HBl.out, hbw⟩
            rcases Nat.lt_or_eq_of_le (Nat.le_of_lt_succ hq) with h | h
            · exact HD.out q h
            · rw [h]; exact HC.out
          case measure => simp [intOf]; omega
    · obtain rfl : st = d := by omega
      go_wp2_with fail
      go_end0
      exact ⟨B, rfl, fin.out B HW.out HD.out, HBl.out, hbw⟩

end Go.Proofs.YthboolnacmpmlaaGreatDoor
