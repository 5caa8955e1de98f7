/- Parts of the proof, one after the other: TileRefWays. -/
import Derived.Test.YtlekncamokiekaaGreatDoorTw5
import Derived.Test.YtlekncamokiekaaGreatDoorTw4
import Derived.Laws.OwnMore
/- The document's Ways of tiles. -/
namespace Go.Proofs.YtlekncamokiekaaGreatDoor
open Go.RowKit Go.Sort
attribute [local go_sem ↓] run_min_mn run_max_mx

theorem sideN_one (l : List Pt) : sideN l 1 = l.map flipP := rfl
/-- The first k points are flipped. -/
def flipTo (l : List Pt) (k : Nat) : List Pt := (l.take k).map flipP ++ l.drop k
theorem flipTo_zero (l : List Pt) : flipTo l 0 = l := by simp [flipTo]
theorem flipTo_all {l : List Pt} {k : Nat} (h : l.length ≤ k) : flipTo l k = l.map flipP := by simp [flipTo, List.take_of_length_le h, List.drop_eq_nil_of_le h]
theorem flipTo_length (l : List Pt) (k : Nat) : (flipTo l k).length = l.length := by simp [flipTo]; omega

theorem flipTo_get {l : List Pt} {k : Nat} (h : k < l.length) : (flipTo l k)[k]? = some (gt l k) := by
  unfold flipTo gt
  rw [List.getElem?_append_right (by simp; omega), List.getD_eq_getElem?_getD]
  simp only [List.length_map, List.length_take, List.getElem?_drop]
  rw [show k + (k - min k l.length) = k by omega, List.getElem?_eq_getElem h]; rfl
theorem flipTo_set {l : List Pt} {k : Nat} (h : k < l.length) : (flipTo l k).set k (flipP (gt l k)) = flipTo l (k + 1) := by
  have hg : gt l k = l[k] := by unfold gt; rw [List.getD_eq_getElem?_getD, List.getElem?_eq_getElem h]; rfl
  unfold flipTo
  rw [List.take_succ_eq_append_getElem h, List.set_append_right _ _ (by simp; omega), List.drop_eq_getElem_cons h]
  rw [show k - (List.map flipP (List.take k l)).length = 0 by simp; omega, List.set_cons_zero, hg, List.map_append]
  simp
theorem PtsOwn.put {w : World} {base g n c : Nat} {l : List Pt} (h : PtsOwn w base (.slice (some ⟨g, 0, none⟩) n c) l) (hn : l.length = n) (i : Nat) (x y : Int) :
    PtsOwn ((w.setCell ⟨g, i * 2, none⟩ (.int .i64 x)).setCell ⟨g, i * 2 + 1, none⟩ (.int .i64 y)) base (.slice (some ⟨g, 0, none⟩) n c) (l.set i (x, y)) := by
  subst hn
  unfold PtsOwn
  rw [List.length_set, ← ptsV_set]
  exact (World.ownsRow.stored (World.ownsRow.stored h _ _).1 _ _).1
theorem PtsOwn.froz {w : World} {base g n c : Nat} {l : List Pt} (h : PtsOwn w base (.slice (some ⟨g, 0, none⟩) n c) l) (hn : l.length = n) (j : Nat) : w.frozen? ⟨g, j, none⟩ = false := by
  subst hn
  exact World.ownsRow.frozenAt h j

set_option maxRecDepth 100000 in
set_option maxHeartbeats 4000000 in
theorem refWays_any (A : Option Addr) (n c : Nat) (l : List Pt) (t f : Bool) (w : World) (hl : l.length = n) (hn0 : 0 < n) (hn : n ≤ 100) (hc : n ≤ c) (hsm : Sm l) (hx : PtsAt w A l) :
    Calls Tryz.prog 8 #[.agg #[.slice A n c, .bool t, .bool f]] w (OrTo (waysL t f l) w) := by
  have HB0 : Hid (Below w.heap.size w (w.alloc (.cells #[.slice A n c, .bool t, .bool f] 24))) := Lib.hid ((Below.refl _ _).alloc (Nat.le_refl _) _)
  have HC0 : Hid (Blk (w.alloc (.cells #[.slice A n c, .bool t, .bool f] 24)) w.heap.size 24 #[.slice A n c, .bool t, .bool f]) := Lib.hid (Blk.new _ _ _)
  have HL := Lib.hid hl
  have HSM := Lib.hid hsm
  have HX := Lib.hid hx
  have HW := Lib.hid (ways_out t f l)
  have hT := turns_le t
  have hF := sides_le f
  clear hl hsm hx
  go_enter Tryz.func8, Tryz.ntmps8
  go_upto_region 1 with (fail)
  generalize (w.alloc (.cells #[.slice A n c, .bool t, .bool f] 24)) = w0 at *
  have HO0 : Hid (PolysOwn (w0.alloc (.cells #[] 22)) w0.heap.size (.slice (some ⟨w0.heap.size, 0, none⟩) 0 0) []) := Lib.hid (PolysOwn.empty w0)
  go_upto_region 2 with (fail)
  have HB1 : Hid (Below w0.heap.size w0 (w0.alloc (.cells #[] 22)) ∧ Blk (w0.alloc (.cells #[] 22)) w.heap.size 24 #[.slice A n c, .bool t, .bool f]) := Lib.hid ⟨(Below.refl _ _).alloc (Nat.le_refl _) _, HC0.out.alloc _⟩
  generalize (w0.alloc (.cells #[] 22)) = w1 at *
  have HX0 := Lib.hid (HX.out.below HB0.out)
  have k0 := (HB1.out.2.cell 0).trans (show _ = some (Value.slice A n c) from rfl)
  have k1 := (HB1.out.2.cell 1).trans (show _ = some (Value.bool t) from rfl)
  have k2 := (HB1.out.2.cell 2).trans (show _ = some (Value.bool f) from rfl)
  go_upto_if 17 with (fail)
  go_cut [4] (fun s wx => s = .int .i64 (sidesN f : Nat) ∧ wx = w1)
  case first =>
    clear hF
    cases f
    · go_wp2_with fail
      go_meet
      exact ⟨rfl, rfl⟩
    · go_wp2_with fail
      go_meet
      exact ⟨rfl, rfl⟩
  case rest =>
    obtain ⟨rfl, rfl⟩ := hcut
    go_upto_if 19 with (fail)
    go_cut [5] (fun s wx => s = .int .i64 (turnsN t : Nat) ∧ wx = wc)
    case first =>
      clear hT
      cases t
      · go_wp2_with fail
        go_meet
        exact ⟨rfl, rfl⟩
      · go_wp2_with fail
        go_meet
        exact ⟨rfl, rfl⟩
    case rest =>
      obtain ⟨rfl, rfl⟩ := hcut
      generalize turnsN t = T at *
      generalize sidesN f = S at *
      go_wp2_with fail
      go_loopw [3, 6, 7, 8, 9, 10, 11, 12, 13, 14] (fun v i _ _ _ _ _ _ _ _ wr => ∃ s : Nat, s ≤ S ∧ i = .int .i64 s ∧ PolysOwn wr w0.heap.size v (outS l T s) ∧ Below w0.heap.size w0 wr) (fun _ i _ _ _ _ _ _ _ _ _ => S - (intOf i).toNat)
      case atStart => exact ⟨0, Nat.zero_le _, rfl, HO0.out, HB1.out.1⟩
      case round =>
        clear k0 k1 k2 HO0
        obtain ⟨s, hs, rfl, hO, hbw⟩ := hrel
        have HO := Lib.hid hO
        have HBW := Lib.hid hbw
        have HC : Hid (Blk wr w.heap.size 24 #[.slice A n c, .bool t, .bool f]) := Lib.hid (HC0.out.same (hbw.block _ HC0.out.lt))
        have HSL : Hid ((sideN l s).length = n) := Lib.hid (by rw [sideN_length, HL.out])
        have HSS := Lib.hid (HSM.out.sideN s)
        have HOM : Hid (∀ b ∈ outS l T s, b.length = n) := Lib.hid (outS_mem HL.out s)
        have HOL : Hid ((outS l T s).length ≤ 8) := Lib.hid (by
          have := outS_length l T s
          have h2 : s * T ≤ 2 * 4 := Nat.mul_le_mul (by omega) hT
          omega)
        have HNX : Hid (outS l T (s + 1) = turnsTo (sideN l s) (outS l T s) T) := Lib.hid rfl
        have HS2 : Hid (s = 0 ∧ sideN l s = l ∨ s = 1 ∧ sideN l s = l.map flipP ∨ S ≤ s) := Lib.hid (by
          rcases (by omega : s = 0 ∨ s = 1 ∨ S ≤ s) with rfl | rfl | h
          · exact .inl ⟨rfl, rfl⟩
          · exact .inr (.inl ⟨rfl, rfl⟩)
          · exact .inr (.inr h))
        clear hO hbw
        by_cases hlt : s < S
        · generalize outS l T s = out at *
          go_upto_block 1 with (fail)
          go_cut [3, 7, 8, 9, 10, 11, 12, 13, 14] (fun v _ _ _ _ _ _ _ _ wx => PolysOwn wx w0.heap.size v (outS l T (s + 1)) ∧ Below w0.heap.size w0 wx)
          case first =>
            have k0 := (HC.out.cell 0).trans (show _ = some (Value.slice A n c) from rfl)
            have hlw : w.heap.size < wr.heap.size := HC.out.lt
            have hne0 : w.heap.size ≠ wr.heap.size := by omega
            have HE : Hid (PtsOwn (wr.alloc (.cells #[] 41)) wr.heap.size (.slice (some ⟨wr.heap.size, 0, none⟩) 0 0) [] ∧ PtsAt (wr.alloc (.cells #[] 41)) A l ∧ Below wr.heap.size wr (wr.alloc (.cells #[] 41))) := Lib.hid ⟨PtsOwn.empty wr, HX0.out.below (HBW.out.alloc HBW.out.size _), (Below.refl _ _).alloc (Nat.le_refl _) _⟩
            go_upto_region 11 with (at_builtin; refine wpList_papp rfl (.tmp 25) (.tmp 27) rfl wr.heap.size (.slice (some ⟨wr.heap.size, 0, none⟩) 0 0) [] l A n c rfl rfl HE.out.1 HL.out HE.out.2.1 (by rw [HL.out]; simp; omega) (by simp) ?_; intro v1 w1 ho hg hat; have HO1 : Hid (PtsOwn w1 wr.heap.size v1 l) := Lib.hid (by simpa using ho); have HB2 : Hid (Below wr.heap.size wr w1) := Lib.hid (HE.out.2.2.grown hg (by simp) (by simp [Value.ownBlock])); clear ho hg hat)
            obtain ⟨A1, c1, rfl, hc1, hat1⟩ := HO1.out.slice_n HL.out
            clear k0 HE
            go_upto_if 30 with (fail)
            go_cut [7, 8] (fun v _ wx => PtsOwn wx wr.heap.size v (sideN l s) ∧ Below wr.heap.size wr wx)
            case first =>
              rcases HS2.out with ⟨rfl, e⟩ | ⟨rfl, e⟩ | h
              · go_wp2_with fail
                go_meet
                exact ⟨by rw [e]; exact HO1.out, HB2.out⟩
              · have HEE := Lib.hid e
                clear e
                go_wp2_with fail
                go_loopw [8] (fun i wx => ∃ k : Nat, k ≤ n ∧ i = .int .i64 k ∧ PtsOwn wx wr.heap.size (.slice A1 n c1) (flipTo l k) ∧ Below wr.heap.size wr wx) (fun i _ => n - (intOf i).toNat)
                case atStart => exact ⟨0, Nat.zero_le _, rfl, by rw [flipTo_zero]; exact HO1.out, HB2.out⟩
                case round =>
                  obtain ⟨k, hk, rfl, hO, hbx⟩ := hrel
                  have HOX := Lib.hid hO
                  have HBX := Lib.hid hbx
                  clear hO hbx
                  by_cases hkn : k < n
                  · have hkl : k < l.length := by rw [HL.out]; exact hkn
                    have HFL : Hid ((flipTo l k).length = n) := Lib.hid (by rw [flipTo_length, HL.out])
                    obtain ⟨g, c', e, hc', hbg, hgl, hin⟩ := HOX.out.row HFL.out (by omega)
                    simp only [Value.slice.injEq] at e
                    obtain ⟨rfl, -, rfl⟩ := e
                    obtain ⟨h1, h2⟩ := hin k _ (flipTo_get hkl)
                    have hp := HSM.out _ (gt_mem hkl)
                    have HFS : Hid ((flipTo l k).set k (flipP (gt l k)) = flipTo l (k + 1)) := Lib.hid (flipTo_set hkl)
                    have HFP : Hid (flipP (gt l k) = (-(gt l k).1, (gt l k).2)) := Lib.hid rfl
                    clear hin
                    generalize gt l k = p at *
                    obtain ⟨x, y⟩ := p
                    simp only [Nat.zero_add] at h1 h2
                    simp only at hp
                    have w1' : IntKind.i64.wrap (-x) = -x := IntWalk.i64_in _ (by omega)
                    have hk0 : (0 : Int) ≤ (k : Int) := by omega
                    have hkn2 : (k : Int) < (n : Int) := by omega
                    have f1 := HOX.out.froz HFL.out (k * 2)
                    have f2 := HOX.out.froz HFL.out (k * 2 + 1)
                    go_upto_region 15 with (fail)
                    refine wp_region_peel2 (S := (fun w' => w'.cell? ⟨g, k * 2, none⟩ = some (.int .i64 x) ∧ w'.cell? ⟨g, k * 2 + 1, none⟩ = some (.int .i64 y))) 14 (by kernel_rfl) rfl (by kernel_rfl) (by kernel_rfl) ⟨h1, h2⟩ (fun hHeld => ?_)
                    simp only [List.take_succ_cons, List.take_zero]
                    refine wpAnyH_take (i := 0) (v := ?_) rfl (by kernel_rfl) (by kernel_rfl) (by kernel_rfl) (fun _ _ _ h => h) (Or.inl ⟨by rfl, ?_⟩) (by assumption) ?_; rotate_left 1; (· intro wz hSw; (try dsimp only at hSw); go_simp; try with_reducible rfl); (try simp only [Act.put, List.setIfInBounds_toArray, List.set_cons_zero, List.set_cons_succ])
                    refine wpAnyH_take (i := 1) (v := ?_) rfl (by kernel_rfl) (by kernel_rfl) (by kernel_rfl) (fun _ _ _ h => h) (Or.inl ⟨by rfl, ?_⟩) (by assumption) ?_; rotate_left 1; (· intro wz hSw; (try dsimp only at hSw); go_simp; try with_reducible rfl); (try simp only [Act.put, List.setIfInBounds_toArray, List.set_cons_zero, List.set_cons_succ])
                    refine wpAnyH_take (i := 2) (v := ?_) rfl (by kernel_rfl) (by kernel_rfl) (by kernel_rfl) (fun _ _ _ h => h) (Or.inl ⟨by rfl, ?_⟩) (by assumption) ?_; rotate_left 1; (· intro wz hSw; (try dsimp only at hSw); go_simp; try with_reducible rfl); (try simp only [Act.put, List.setIfInBounds_toArray, List.set_cons_zero, List.set_cons_succ])
                    refine wpAnyH_take (i := 3) (v := ?_) rfl (by kernel_rfl) (by kernel_rfl) (by kernel_rfl) (fun _ _ _ h => h) (Or.inl ⟨by rfl, ?_⟩) (by assumption) ?_; rotate_left 1; (· intro wz hSw; (try dsimp only at hSw); go_simp; try with_reducible rfl); (try simp only [Act.put, List.setIfInBounds_toArray, List.set_cons_zero, List.set_cons_succ])
                    refine wpAnyH_take (i := 4) (v := ?_) rfl (by kernel_rfl) (by kernel_rfl) (by kernel_rfl) (fun _ _ _ h => h) (Or.inl ⟨by rfl, ?_⟩) (by assumption) ?_; rotate_left 1; (· intro wz hSw; (try dsimp only at hSw); go_simp; try with_reducible rfl); (try simp only [Act.put, List.setIfInBounds_toArray, List.set_cons_zero, List.set_cons_succ])
                    refine wpAnyH_take (i := 5) (v := ?_) rfl (by kernel_rfl) (by kernel_rfl) (by kernel_rfl) (fun _ _ _ h => h) (Or.inl ⟨by rfl, ?_⟩) (by assumption) ?_; rotate_left 1; (· intro wz hSw; (try dsimp only at hSw); go_simp; try with_reducible rfl); (try simp only [Act.put, List.setIfInBounds_toArray, List.set_cons_zero, List.set_cons_succ])
                    refine wpAnyH_take (i := 6) (v := ?_) rfl (by kernel_rfl) (by kernel_rfl) (by kernel_rfl) (fun _ _ _ h => h) (Or.inl ⟨by rfl, ?_⟩) (by assumption) ?_; rotate_left 1; (· intro wz hSw; (try dsimp only at hSw); go_simp; try with_reducible rfl); (try simp only [Act.put, List.setIfInBounds_toArray, List.set_cons_zero, List.set_cons_succ])
                    refine wpAnyH_take (i := 7) (v := ?_) rfl (by kernel_rfl) (by kernel_rfl) (by kernel_rfl) (fun _ _ _ h => h) (Or.inl ⟨by rfl, ?_⟩) (by assumption) ?_; rotate_left 1; (· intro wz hSw; (try dsimp only at hSw); go_simp; try with_reducible rfl); (try simp only [Act.put, List.setIfInBounds_toArray, List.set_cons_zero, List.set_cons_succ])
                    refine wpAnyH_take (i := 8) (v := ?_) rfl (by kernel_rfl) (by kernel_rfl) (by kernel_rfl) (fun _ _ _ h => h) (Or.inl ⟨by rfl, ?_⟩) (by assumption) ?_; rotate_left 1; (· intro wz hSw; (try dsimp only at hSw); go_simp; try with_reducible rfl); (try simp only [Act.put, List.setIfInBounds_toArray, List.set_cons_zero, List.set_cons_succ])
                    refine wpAnyH_take (i := 9) (v := ?_) rfl (by kernel_rfl) (by kernel_rfl) (by kernel_rfl) (fun _ _ _ h => h) (Or.inl ⟨by rfl, ?_⟩) (by assumption) ?_; rotate_left 1; (· intro wz hSw; (try dsimp only at hSw); go_simp; try with_reducible rfl); (try simp only [Act.put, List.setIfInBounds_toArray, List.set_cons_zero, List.set_cons_succ])
                    refine wpAnyH_take (i := 10) (v := ?_) rfl (by kernel_rfl) (by kernel_rfl) (by kernel_rfl) (fun _ _ _ h => h) (Or.inl ⟨by rfl, ?_⟩) (by assumption) ?_; rotate_left 1; (· intro wz hSw; (try dsimp only at hSw); go_simp; try with_reducible rfl); (try simp only [Act.put, List.setIfInBounds_toArray, List.set_cons_zero, List.set_cons_succ])
                    refine wpAnyH_take (i := 11) (v := ?_) rfl (by kernel_rfl) (by kernel_rfl) (by kernel_rfl) (fun _ _ _ h => h) (Or.inl ⟨by rfl, ?_⟩) (by assumption) ?_; rotate_left 1; (· intro wz hSw; (try dsimp only at hSw); go_simp; try with_reducible rfl); (try simp only [Act.put, List.setIfInBounds_toArray, List.set_cons_zero, List.set_cons_succ])
                    refine wpAnyH_take (i := 12) (v := ?_) rfl (by kernel_rfl) (by kernel_rfl) (by kernel_rfl) (fun _ _ _ h => h) (Or.inl ⟨by rfl, ?_⟩) (by assumption) ?_; rotate_left 1; (· intro wz hSw; (try dsimp only at hSw); go_simp; try with_reducible rfl); (try simp only [Act.put, List.setIfInBounds_toArray, List.set_cons_zero, List.set_cons_succ])
                    refine wpAnyH_take (i := 13) (v := ?_) rfl (by kernel_rfl) (by kernel_rfl) (by kernel_rfl) (fun _ _ _ h => h) (Or.inl ⟨by rfl, ?_⟩) (by assumption) ?_; rotate_left 1; (· intro wz hSw; (try dsimp only at hSw); go_simp; try with_reducible rfl); (try simp only [Act.put, List.setIfInBounds_toArray, List.set_cons_zero, List.set_cons_succ])
                    refine wpAnyH_done (by kernel_rfl) ?_ _
                    refine ql2 (ops := #[]) rfl rfl ?_
                    have HPUT := Lib.hid (HOX.out.put HFL.out k (-x) y)
                    have HBP := Lib.hid ((HBX.out.setCell (p := ⟨g, k * 2, none⟩) hbg (.int .i64 (-x))).setCell (p := ⟨g, k * 2 + 1, none⟩) hbg (.int .i64 y))
                    go_wp2_with fail
                    refine NoPanic.normal ?_
                    go_wp2_with fail
                    exact ⟨⟨k + 1, by omega, by go_num, by rw [← HFS.out, HFP.out]; exact HPUT.out, HBP.out.drew⟩, by simp [intOf]; omega⟩
                  · have hkn2 : k = n := by omega
                    have HZ : Hid (flipTo l k = l.map flipP) := Lib.hid (flipTo_all (by rw [HL.out]; omega))
                    go_wp2_with fail
                    go_meet
                    exact ⟨by rw [HEE.out, ← HZ.out]; exact HOX.out, HBX.out⟩
              · omega
            case rest =>
              obtain ⟨hv7, hb7⟩ := hcut
              have HOs := Lib.hid (HO.out.belows hb7)
              have HBs := Lib.hid (HBW.out.trans (hb7.mono HBW.out.size))
              obtain ⟨A7, c7, rfl, hty, -⟩ := hv7.ty (by intro e; have := HSL.out; rw [e] at this; simp at this; omega)
              have HL7 : Hid (Lst w0.heap.size wc A7 (sideN l s)) := Lib.hid (.inr hty)
              rw [HSL.out]
              clear hv7 hb7 hty HO HBW HO1 HB2 hat1 hc1 HS2 HC hlw hne0
              generalize sideN l s = sd at *
              go_wp2_with fail
              go_loopw [3, 7, 9, 10, 11, 12, 13, 14] (fun v wy i _ _ _ _ _ wx => ∃ (k : Nat) (A7 : Option Addr) (c7 : Nat), k ≤ T ∧ i = .int .i64 k ∧ wy = .slice A7 n c7 ∧ PolysOwn wx w0.heap.size v (turnsTo sd out k) ∧ Lst w0.heap.size wx A7 (rotN sd k) ∧ Below w0.heap.size w0 wx) (fun _ _ i _ _ _ _ _ _ => T - (intOf i).toNat)
              case atStart => exact ⟨0, A7, c7, Nat.zero_le _, rfl, rfl, HOs.out, HL7.out, HBs.out⟩
              case round =>
                clear HOs HBs HL7
                obtain ⟨k, A7, c7, hk, rfl, rfl, hO, hL7, hbw⟩ := hrel
                have HO := Lib.hid hO
                have HL7 := Lib.hid hL7
                have HBW := Lib.hid hbw
                clear hO hL7 hbw
                by_cases hkt : k < T
                · have HRL : Hid ((rotN sd k).length = n) := Lib.hid (by rw [rotN_length, HSL.out])
                  have HRS := Lib.hid (HSS.out.rotN k)
                  have HTM : Hid (∀ b ∈ turnsTo sd out k, b.length = n) := Lib.hid (turnsTo_mem HSL.out HOM.out k)
                  have HTL : Hid ((turnsTo sd out k).length ≤ 12) := Lib.hid (by have := turnsTo_length sd out k; have := HOL.out; omega)
                  have HTN : Hid (turnsTo sd out (k + 1) = addW (turnsTo sd out k) (normP (rotN sd k))) := Lib.hid rfl
                  have HRN : Hid (rotN sd (k + 1) = (rotN sd k).map rotP) := Lib.hid rfl
                  have HNL : Hid ((normP (rotN sd k)).length = n) := Lib.hid (by rw [normP_length, HRL.out])
                  generalize turnsTo sd out k = cur at *
                  generalize hnx : turnsTo sd out (k + 1) = nxt at *
                  have HTE := Lib.hid hnx
                  clear hnx
                  generalize hnm : normP (rotN sd k) = nm at *
                  have HNM := Lib.hid hnm
                  clear hnm
                  generalize hro : rotN sd k = ro at *
                  have HRO := Lib.hid hro
                  clear hro
                  obtain ⟨b7, o7, rfl, hb7, hin7⟩ := HL7.out.at_
                  have K1 := Lib.hid (moved5_any (some ⟨b7, o7, none⟩) n c7 ro wr HRL.out (by omega) HRS.out (fun _ => ⟨b7, o7, rfl, hb7, hin7⟩))
                  clear hin7
                  go_wp2_with fail
                  refine K1.out.mono ?_
                  clear K1
                  rintro e w1 ⟨vn, rfl, hon, hb1⟩
                  rw [HNM.out] at hon
                  have HON := Lib.hid hon
                  have HO1 := Lib.hid (HO.out.belows hb1)
                  have HL71 := Lib.hid (HL7.out.below hb1)
                  have HB1 := Lib.hid (HBW.out.trans (hb1.mono HBW.out.size))
                  clear hon hb1 HO HL7 HBW hb7
                  obtain ⟨An, cn, rfl, hcn, hpn⟩ := HON.out.slice_n HNL.out
                  obtain ⟨Ao, co, rfl, hpo⟩ := HO1.out.slice (fun q hq => by rw [HTM.out q hq]; omega)
                  have HPN := Lib.hid hpn
                  have HPO := Lib.hid hpo
                  clear hpn hpo
                  go_upto_block 6 with (fail)
                  go_cut [11, 12] (fun r _ wx => r = .bool (hasW cur nm) ∧ Below w1.heap.size w1 wx)
                  case first =>
                    go_wp2_with fail
                    go_loopw [11, 12] (fun r i wx => ∃ j : Nat, j ≤ cur.length ∧ i = .int .i64 j ∧ r = .bool (hasW (cur.take j) nm) ∧ Below w1.heap.size w1 wx) (fun _ i _ => cur.length - (intOf i).toNat)
                    case atStart => exact ⟨0, Nat.zero_le _, rfl, rfl, Below.refl _ _⟩
                    case round =>
                      obtain ⟨j, hj, rfl, rfl, hbx⟩ := hrel
                      have HBX := Lib.hid hbx
                      clear hbx
                      have hj12 : j ≤ 12 := Nat.le_trans hj HTL.out
                      by_cases hjl : j < cur.length
                      · obtain ⟨b, off, rfl, hbl, hps⟩ := HPO.out (by intro e; subst e; simp at hjl)
                        obtain ⟨A1, n1, c1', h1, h2, h3, h4⟩ := (hps.below HBX.out hbl) j _ (List.getElem?_eq_getElem hjl)
                        have hs : hasW (cur.take (j + 1)) nm = (hasW (cur.take j) nm || decide (cur[j] = nm)) := by
                          rw [List.take_succ_eq_append_getElem hjl]
                          unfold hasW
                          rw [List.any_append]; simp [eq_comm]
                        have HS := Lib.hid hs
                        have F := Lib.hid (same5_any A1 An n1 n c1' cn cur[j] nm wr h2 (by have := HTM.out _ (List.getElem_mem hjl); omega) h4 HNL.out (by omega) (HPN.out.below HBX.out))
                        clear hs hps h2 h3 h4
                        generalize decide (cur[j] = nm) = r at *
                        cases hz : hasW (cur.take j) nm
                        · have HZ : Hid (hasW (cur.take (j + 1)) nm = r) := Lib.hid (by rw [HS.out, hz]; rfl)
                          clear hz HS
                          go_wp2_with fail
                          refine (F.out).mono ?_
                          rintro e w2 ⟨rfl, hb2⟩
                          have HBX2 := Lib.hid (HBX.out.trans (hb2.mono HBX.out.size))
                          clear hb2 h1 F
                          go_wp2_with fail
                          go_roundw
                          case rel => exact ⟨j + 1, by omega, by go_num, by rw [HZ.out], HBX2.out⟩
                          case measure => simp [intOf]; omega
                        · have HZ : Hid (hasW (cur.take (j + 1)) nm = true) := Lib.hid (by rw [HS.out, hz]; rfl)
                          clear hz HS F h1
                          go_wp2_with fail
                          go_roundw
                          case rel => exact ⟨j + 1, by omega, by go_num, by rw [HZ.out], HBX.out⟩
                          case measure => simp [intOf]; omega
                      · have HZ : Hid (hasW (cur.take j) nm = hasW cur nm) := Lib.hid (by rw [List.take_of_length_le (by omega)])
                        go_wp2_with fail
                        go_meet
                        exact ⟨by rw [HZ.out], HBX.out⟩
                  case rest =>
                    obtain ⟨rfl, hb2⟩ := hcut
                    have HO2 := Lib.hid (HO1.out.belows hb2)
                    have HON2 := Lib.hid (HON.out.belows hb2 (Nat.le_refl _))
                    have HL72 := Lib.hid (HL71.out.below hb2)
                    have HB2 := Lib.hid (HB1.out.trans (hb2.mono HB1.out.size))
                    clear hb2 HO1 HON HL71 HB1 HPN HPO
                    have HAD : Hid (addW cur nm = if hasW cur nm = true then cur else cur ++ [nm]) := Lib.hid rfl
                    generalize hasW cur nm = r at *
                    go_upto_if 75 with (fail)
                    go_cut [3] (fun v wx => PolysOwn wx w0.heap.size v nxt ∧ Lst w0.heap.size wx (some ⟨b7, o7, none⟩) ro ∧ Below w0.heap.size w0 wx)
                    case first =>
                      cases r
                      · have HBA : Hid (Below wc.heap.size wc (wc.alloc (.cells #[.slice An n cn] 22))) := Lib.hid ((Below.refl _ _).alloc (Nat.le_refl _) _)
                        have HOB := Lib.hid (HO2.out.belows HBA.out)
                        have HTY : Hid (PtsTy (wc.alloc (.cells #[.slice An n cn] 22)) An nm) := Lib.hid (by
                          obtain ⟨A', c', e, h, -⟩ := HON2.out.ty (by intro e; have := HNL.out; rw [e] at this; simp at this; omega)
                          simp only [Value.slice.injEq] at e
                          rw [← e.1] at h
                          exact h.below HBA.out)
                        have hcell : (wc.alloc (.cells #[.slice An n cn] 22)).cell? ⟨wc.heap.size, 0, none⟩ = some (.slice An n cn) := by simp
                        have hHC := Lib.hid hcell
                        have HL7A := Lib.hid (HL72.out.below HBA.out)
                        have HB3A := Lib.hid (HB2.out.trans (HBA.out.mono HB2.out.size))
                        have hbs : w0.heap.size ≤ (wc.alloc (.cells #[.slice An n cn] 22)).heap.size := HB3A.out.size
                        have hlc : cur.length + 1 ≤ 100000 := by have := HTL.out; omega
                        clear hcell
                        go_wp2_with (at_builtin; refine wpList_plapp rfl (.tmp 76) (.tmp 78) rfl w0.heap.size _ cur wc.heap.size An n cn nm rfl rfl HOB.out hHC.out HNL.out (fun _ => HTY.out) hlc hbs ?_; intro v4 w4 ho hg hat; have HO4 := Lib.hid ho; have HL74 := Lib.hid (HL7A.out.kept HOB.out hg); have HB4 : Hid (Below w0.heap.size w0 w4) := Lib.hid (HB3A.out.grown hg hbs (fun q hq => (HOB.out.base q hq).1)); clear ho hg hat)
                        go_meet
                        exact ⟨by rw [HTN.out, HAD.out]; exact HO4.out, HL74.out, HB4.out⟩
                      · go_wp2_with fail
                        go_meet
                        exact ⟨by rw [HTN.out, HAD.out]; exact HO2.out, HL72.out, HB2.out⟩
                    case rest =>
                      obtain ⟨hO5, hL75, hb5⟩ := hcut
                      have HO5 := Lib.hid hO5
                      have HL75 := Lib.hid hL75
                      have HB5 := Lib.hid hb5
                      clear hO5 hL75 hb5 HO2 HON2 HL72 HB2
                      go_upto_block 8 with (fail)
                      go_cut [13, 14] (fun v _ wx => PtsOwn wx wc.heap.size v (ro.map rotP) ∧ Below wc.heap.size wc wx)
                      case first =>
                        obtain ⟨b8, o8, e8, hb8, hin8⟩ := HL75.out.at_
                        simp only [Option.some.injEq, Addr.mk.injEq] at e8
                        obtain ⟨rfl, rfl, -⟩ := e8
                        have HIN := Lib.hid hin8
                        clear hin8
                        go_wp2_with fail
                        go_loopw [13, 14] (fun v i wx => ∃ j : Nat, j ≤ n ∧ i = .int .i64 j ∧ PtsOwn wx wc.heap.size v ((ro.take j).map rotP) ∧ Below wc.heap.size wc wx) (fun _ i _ => n - (intOf i).toNat)
                        case atStart => exact ⟨0, Nat.zero_le _, rfl, PtsOwn.empty wc, (Below.refl _ _).alloc (Nat.le_refl _) _⟩
                        case round =>
                          obtain ⟨j, hj, rfl, hO, hbx⟩ := hrel
                          have HOX := Lib.hid hO
                          have HBX := Lib.hid hbx
                          have hsz := HBX.out.size
                          clear hO hbx
                          by_cases hjn : j < n
                          · have hjl : j < ro.length := by rw [HRL.out]; exact hjn
                            have hg : ro[j]? = some (gt ro j) := by unfold gt; rw [List.getD_eq_getElem?_getD, List.getElem?_eq_getElem hjl]; rfl
                            obtain ⟨h1, h2⟩ := (HIN.out.below HBX.out hb8) j _ hg
                            have hp := HRS.out _ (gt_mem hjl)
                            have HTK : Hid ((ro.take (j + 1)).map rotP = (ro.take j).map rotP ++ [rotP (gt ro j)]) := Lib.hid (by
                              rw [List.take_succ_eq_append_getElem hjl, List.map_append]
                              have : gt ro j = ro[j] := by unfold gt; rw [List.getD_eq_getElem?_getD, List.getElem?_eq_getElem hjl]; rfl
                              rw [this]; rfl)
                            have HLK : Hid (((ro.take j).map rotP).length = j) := Lib.hid (by rw [List.length_map, List.length_take]; omega)
                            have HRP : Hid (rotP (gt ro j) = (-(gt ro j).2, (gt ro j).1)) := Lib.hid rfl
                            generalize gt ro j = p at *
                            obtain ⟨x, y⟩ := p
                            simp only at hp
                            have HM : Hid (MvS wc b7 (o7 + j * 2) (o7 + j * 2) x y x y wr) := Lib.hid ⟨HBX.out, hb8, h1, h2, h1, h2⟩
                            have w1' : IntKind.i64.wrap (-y) = -y := IntWalk.i64_in _ (by omega)
                            have hj0 : (0 : Int) ≤ (j : Int) := by omega
                            have hjn2 : (j : Int) < (n : Int) := by omega
                            clear hg h1 h2
                            go_upto_region 30 with (fail)
                            have H1 := (HM.out.to (Below.refl _ _).drew).all
                            go_region_held3 (fun w' => MvS wc b7 (o7 + j * 2) (o7 + j * 2) x y x y w' ∧ w'.cell? ⟨b7, o7 + j * 2, none⟩ = some (.int .i64 x) ∧ w'.cell? ⟨b7, o7 + j * 2 + 1, none⟩ = some (.int .i64 y) ∧ w'.cell? ⟨b7, o7 + j * 2, none⟩ = some (.int .i64 x) ∧ w'.cell? ⟨b7, o7 + j * 2 + 1, none⟩ = some (.int .i64 y))
                              (first | assumption | exact H1 | (with_reducible exact hS) | exact (MvS.al (And.left (by assumption)) _).all)
                              (first | (refine step_papp (by rfl) _ _ (by rfl) wc.heap.size _ ((ro.take j).map rotP) [(-y, x)] (some ⟨wr.heap.size, 0, none⟩) 1 1 (by rfl) (by rfl) (HOX.out.alloc _) rfl (PtsAt.one wr _ _) (by rw [HLK.out]; simp; omega) (by simp; omega) ?_; intro v5 w5 ho5 hg5 hat5; have hS := (MvS.to (w1 := wc) (And.left (by assumption)) ((Below.refl _ _).grown hg5 (by simp; omega) (fun q hq => (HOX.out.base q hq).1))).all; have HO6 := Lib.hid ho5; clear ho5 hg5 hat5))
                            have HEND : Hid (∀ W, PtsOwn W wc.heap.size v5 ((ro.take j).map rotP ++ [(-y, x)]) → PtsOwn W wc.heap.size v5 ((ro.take (j + 1)).map rotP)) := Lib.hid fun W h => by rw [HTK.out, HRP.out]; exact h
                            go_wp2_with fail
                            go_roundw
                            case rel => exact ⟨j + 1, by omega, by go_num, HEND.out _ HO6.out, hS.1.bel⟩
                            case measure => simp [intOf]; omega
                          · have HZ : Hid ((ro.take j).map rotP = ro.map rotP) := Lib.hid (by rw [List.take_of_length_le (by rw [HRL.out]; omega)])
                            go_wp2_with fail
                            go_meet
                            exact ⟨by rw [← HZ.out]; exact HOX.out, HBX.out⟩
                      case rest =>
                        obtain ⟨hv, hb6⟩ := hcut
                        have HO6 := Lib.hid (HO5.out.belows hb6)
                        have HB6 := Lib.hid (HB5.out.trans (hb6.mono HB5.out.size))
                        have hml : (ro.map rotP).length = n := by rw [List.length_map, HRL.out]
                        obtain ⟨A8, c8, rfl, hty, -⟩ := hv.ty (by intro e; rw [e] at hml; simp at hml; omega)
                        rw [hml]
                        have HL76 : Hid (Lst w0.heap.size wc (A8) (rotN sd (k + 1))) := Lib.hid (.inr (by rw [HRN.out]; exact hty))
                        clear hv hb6 hty hml
                        go_wp2_with fail
                        go_roundw
                        case rel => exact ⟨k + 1, _, _, by omega, by go_num, rfl, by rw [HTE.out]; exact HO6.out, HL76.out, HB6.out⟩
                        case measure => simp [intOf]; omega
                · have hkT : k = T := by omega
                  have HFT : Hid (turnsTo sd out k = turnsTo sd out T) := Lib.hid (by rw [hkT])
                  clear hkT
                  go_wp2_with fail
                  go_meet
                  exact ⟨by rw [HNX.out, ← HFT.out]; exact HO.out, HBW.out⟩
          case rest =>
            obtain ⟨hO, hbw⟩ := hcut
            have HO := Lib.hid hO
            have HBW := Lib.hid hbw
            clear hO hbw
            go_wp2_with fail
            go_roundw
            case rel => exact ⟨s + 1, by omega, by go_num, HO.out, HBW.out⟩
            case measure => simp [intOf]; omega
        · have hsS : s = S := by omega
          have HFT : Hid (outS l T s = waysL t f l) := Lib.hid (by rw [HW.out, hsS])
          go_wp2_with fail
          go_ret
          exact ⟨_, rfl, by rw [← HFT.out]; exact HO.out.low HB0.out.size, HB0.out.trans (HBW.out.mono HB0.out.size)⟩
end Go.Proofs.YtlekncamokiekaaGreatDoor
