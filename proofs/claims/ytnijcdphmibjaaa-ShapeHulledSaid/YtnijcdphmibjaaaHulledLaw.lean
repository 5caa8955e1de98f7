/- ShapeHulled: the law's walk. -/
import Derived.Test.YtnijcdphmibjaaaHullOne
import Derived.Test.YtnijcdphmibjaaaPtsFold
import Derived.Test.YtnijcdphmibjaaaLives4
namespace Go.Proofs.Ytnijcdphmibjaaa
open Go.RowKit Go.Sort

theorem hfold_any (v : Int) (n : Nat) (w : World) (_ : -9223372036854775808 ≤ v ∧ v ≤ 9223372036854775807) (hn : 1 ≤ n ∧ n ≤ 100000) :
    Calls Try.prog 54 #[.int .i64 v, .int .i64 n] w fun e w' => ∃ r : Nat, r < n ∧ e = .returned (.int .i64 r) ∧ w = w' := by
  have h1 : -(n : Int) < v.tmod n ∧ v.tmod n < n := by
    have a := Int.tmod_lt_of_pos v (b := (n : Int)) (by omega)
    have b := Int.lt_tmod_of_pos v (b := (n : Int)) (by omega)
    exact ⟨b, a⟩
  obtain ⟨h2, h3⟩ := h1
  have hr : ∃ r : Nat, r < n ∧ (v.tmod n + n) % n = r := by
    have a := Int.emod_nonneg (v.tmod n + n) (b := (n : Int)) (by omega)
    have b := Int.emod_lt_of_pos (v.tmod n + n) (b := (n : Int)) (by omega)
    exact ⟨((v.tmod n + n) % n).toNat, by omega, by omega⟩
  obtain ⟨r, hr1, hr2⟩ := hr
  have HR := Lib.hid hr2
  clear hr2
  go_enter Try.func54, Try.ntmps54
  go_wp2
  go_ret
  exact ⟨r, hr1, ret_int (HR.out), rfl⟩

theorem PtsIn.drop {w : World} {b off : Nat} {l : List Pt} (h : PtsIn w b off l) (k : Nat) : PtsIn w b (off + k * 2) (l.drop k) := fun i p hp => by
  have := h (k + i) p (by rw [List.getElem?_drop] at hp; exact hp)
  rw [show off + k * 2 + i * 2 = off + (k + i) * 2 by omega]
  exact this
theorem hull_again {P K Q : List Pt} {k0 : Pt} (h : Hull P K k0) (hlow : ∀ p ∈ P, leP k0 p) (h3 : 3 ≤ K.length) (hQ : ∀ p, p ∈ Q ↔ p ∈ P) (hok : P.all okP = true) (hlen : Q.length ≤ 32) {w w' : World} {e : Ending} (hc : HullXTo Q w e w') :
    ∃ v, e = .returned (.tuple #[v, .int .i64 0]) ∧ PtsOwn w' w.heap.size v K ∧ Below w.heap.size w w' := by
  obtain ⟨hb, hc⟩ := hc
  have hk0 : k0 ∈ P := by
    have := (h.edge 0 (by omega)).fst
    rwa [h.first] at this
  have h1 : 1 ≤ Q.length := List.length_pos_of_mem ((hQ k0).2 hk0)
  have hp : ptsB Q 1 = true := ptsB_1.2 ⟨h1, hlen, List.all_eq_true.2 fun p hp => List.all_eq_true.1 hok p ((hQ p).1 hp)⟩
  rcases hc with ⟨q, _⟩ | ⟨_, t, ht, hs, q⟩
  · rw [hp] at q; cases q
  · have e := hull_other h hlow h3 hQ ht hs
    rw [e] at q
    rcases q with ⟨q, _⟩ | ⟨_, v, ev, ho⟩
    · omega
    · exact ⟨v, ev, ho, hb⟩
theorem rot_mem (l : List Pt) (r : Nat) (p : Pt) : p ∈ [] ++ l.drop r ++ l.take r ↔ p ∈ l := by
  rw [List.nil_append, List.mem_append]
  constructor
  · rintro (h | h)
    · exact List.mem_of_mem_drop h
    · exact List.mem_of_mem_take h
  · intro h
    rw [← List.take_append_drop r l, List.mem_append] at h
    exact h.symm
def memB (l : List Pt) (t : Nat) (p : Pt) : Bool := (l.take t).any fun z => eqP z p
theorem memB_succ {l : List Pt} {t : Nat} (h : t < l.length) (p : Pt) : memB l (t + 1) p = (memB l t p || eqP l[t] p) := by
  unfold memB
  rw [List.take_succ_eq_append_getElem h, List.any_append]
  simp
theorem memB_all {l : List Pt} {p : Pt} (h : p ∈ l) {t : Nat} (ht : l.length ≤ t) : memB l t p = true := by
  unfold memB
  rw [List.take_of_length_le ht, List.any_eq_true]
  exact ⟨p, h, by simp [eqP, eqI]⟩
def triL : List Pt := [(0, 0), (1, 0), (0, 1)]
theorem tri_at (w : World) : PtsAt (w.alloc (.cells #[.int .i64 0, .int .i64 0, .int .i64 1, .int .i64 0, .int .i64 0, .int .i64 1] 33)) (some ⟨w.heap.size, 0, none⟩) triL := fun _ =>
  ⟨w.heap.size, 0, rfl, by simp, PtBlk.pts (l := triL) (show PtBlk _ _ triL from heap_alloc_new _ _)⟩
theorem fold_ok (xs : List Pt) : (foldL xs).all okP = true := List.all_eq_true.2 fun p hp => by
  unfold foldL at hp
  obtain ⟨q, _, rfl⟩ := List.mem_map.1 hp
  have a := tmod_bd q.1
  have b := tmod_bd q.2
  unfold okP validB tmP
  simp only [inB]
  simp
  omega

set_option maxHeartbeats 8000000 in
set_option maxRecDepth 100000 in
theorem hulled_law (hS : SortsPts) (hR : ReversesPts) (A : Option Addr) (n c : Nat) (xs : List Pt) (a : Int) (w : World) (hn : xs.length = n) (hbig : n ≤ 9223372036854775807) (hx : PtsAt w A xs)
    (hw : ∀ x ∈ xs, (-9223372036854775808 ≤ x.1 ∧ x.1 ≤ 9223372036854775807) ∧ (-9223372036854775808 ≤ x.2 ∧ x.2 ≤ 9223372036854775807)) (ha : -9223372036854775808 ≤ a ∧ a ≤ 9223372036854775807) :
    Calls Try.prog 12 #[.slice A n c, .int .i64 a] w fun e w' => e = .returned (.bool true) ∧ Below w.heap.size w w' := by
  have K := Lib.hid (points_any A n c xs w hn hbig hx hw)
  have hl0 : (foldL (xs.take 20)).length ≤ 20 := by rw [foldL_length, List.length_take]; omega
  have hk0 := fold_ok (xs.take 20)
  have L := fun W => Lib.hid (lives4_any W)
  clear hn hbig hx hw
  generalize foldL (xs.take 20) = l0 at *
  have HK0 := Lib.hid hk0
  clear hk0
  go_enter Try.func12, Try.ntmps12
  go_wp2_with fail
  refine (K.out).mono ?_
  rintro e w1 ⟨v, rfl, hown, hb1⟩
  have HO := Lib.hid hown
  have HB1 := Lib.hid hb1
  have hs1 := hb1.size
  clear hown hb1 K
  go_wp2_with (at_builtin; refine wpList_papp rfl _ _ rfl w.heap.size v l0 triL (some ⟨w1.heap.size, 0, none⟩) 3 3 rfl rfl (HO.out.alloc _) rfl (tri_at w1) (by simp [triL]; omega) (by simp; omega) ?_; intro v2 w2 ho hg hat; have HG := Lib.hid hg; have HO2 := Lib.hid ho; clear ho hg hat)
  have hm3 : (l0 ++ triL).length = l0.length + 3 := by simp [triL]
  have t0 : (0, 0) ∈ l0 ++ triL := by simp [triL]
  have t1 : (1, 0) ∈ l0 ++ triL := by simp [triL]
  have t2 : (0, 1) ∈ l0 ++ triL := by simp [triL]
  have hok : (l0 ++ triL).all okP = true := by rw [List.all_append, HK0.out]; decide
  have HB2 : Hid (Below w.heap.size w w2) := Lib.hid ((HB1.out.alloc hs1 _).grown HG.out (by simp; omega) (fun k hk => (HO.out.base k hk).1))
  clear HO HG HB1 HK0 hs1
  generalize l0 ++ triL = l at *
  have hml : l.length ≤ 23 := by omega
  have hml3 : 3 ≤ l.length := by omega
  clear hm3 hl0
  generalize hm : l.length = m at *
  obtain ⟨g, cc, rfl, hcc, hg, hgl, hin⟩ := HO2.out.row hm (by omega)
  have HM := Lib.hid hm
  have HOK := Lib.hid hok
  have HAT : Hid (PtsAt w2 (some ⟨g, 0, none⟩) l) := Lib.hid fun _ => ⟨g, 0, rfl, hgl, hin⟩
  have KH := Lib.hid (hullX_any hS hR (some ⟨g, 0, none⟩) m cc l w2 hm (by omega) HAT.out)
  have hpts : ptsB l 1 = true := ptsB_1.2 ⟨by omega, by omega, hok⟩
  have HT : Hid (∀ s, s.Perm l → s.Pairwise leP → 3 ≤ (hullL s).length ∧ ∃ s0, Hull l (hullL s) s0 ∧ ∀ p ∈ l, leP s0 p) := Lib.hid fun s h1 h2 => hull_facts h1 h2 t0 t1 t2
  have HPT := Lib.hid hpts
  clear hm hok hin t0 t1 t2 hpts HO2
  go_wp2_with fail
  refine (KH.out).mono ?_
  rintro e w3 ⟨hb3, hcase⟩
  obtain ⟨s, hperm, hsort, h⟩ : ∃ s, s.Perm l ∧ s.Pairwise leP ∧ (((hullL s).length < 3 ∧ e = .returned (.tuple #[.slice none 0 0, .int .i64 6])) ∨ (3 ≤ (hullL s).length ∧ ∃ v, e = .returned (.tuple #[v, .int .i64 0]) ∧ PtsOwn w3 w2.heap.size v (hullL s))) := by
    rcases hcase with ⟨q, _⟩ | ⟨_, q⟩
    · rw [HPT.out] at q; cases q
    · exact q
  obtain ⟨h3, s0, hH, hlow⟩ := HT.out s hperm hsort
  obtain ⟨v3, rfl, ho3⟩ : ∃ v, e = .returned (.tuple #[v, .int .i64 0]) ∧ PtsOwn w3 w2.heap.size v (hullL s) := by
    rcases h with ⟨q, _⟩ | ⟨_, q⟩
    · omega
    · exact q
  clear h hcase hperm hsort HPT HT KH
  generalize hullL s = H at *
  have hHl := hull_length hH
  rw [HM.out] at hHl
  generalize hq : H.length = q at *
  obtain ⟨g3, c3, rfl, hc3, hg3, hg3l, hin3⟩ := ho3.row hq (by omega)
  have HQ := Lib.hid hq
  have HH := Lib.hid hH
  have HLOW := Lib.hid hlow
  have HATH : Hid (PtsAt w3 (some ⟨g3, 0, none⟩) H) := Lib.hid fun _ => ⟨g3, 0, rfl, hg3l, hin3⟩
  have HAT3 : Hid (PtsAt w3 (some ⟨g, 0, none⟩) l) := Lib.hid (HAT.out.below hb3)
  have HB3 := Lib.hid (HB2.out.trans (hb3.mono HB2.out.size))
  have hs3 := HB3.out.size
  have hg' : g < w3.heap.size := by have := hb3.size; omega
  clear hq hH hlow ho3 hin3 hb3 HAT HB2 hgl
  have KF := Lib.hid (hfold_any a m w3 ha ⟨by omega, by omega⟩)
  go_wp2_with fail
  refine (KF.out).mono ?_
  rintro e w4 ⟨r, hr, rfl, rfl⟩
  clear KF
  have i0 : (0 : Int) ≤ (r : Int) := Int.natCast_nonneg _
  have i1 : (r : Int) ≤ (m : Int) := by omega
  have i2 : (m : Int) ≤ (cc : Int) := by omega
  have i3 : (r : Int) ≤ (cc : Int) := by omega
  have j1 : r ≤ m := by omega
  have j2 : m ≤ cc := hcc
  have j3 : r ≤ cc := by omega
  have j4 : ¬ cc = r := by omega
  have j5 : ¬ cc - r = 0 := by omega
  have hld : (l.drop r).length = m - r := by rw [List.length_drop, HM.out]
  have hlt' : (l.take r).length = r := by rw [List.length_take, HM.out]; omega
  have hpin : PtsIn w3 g 0 l := by
    obtain ⟨b, off, e, _, k⟩ := HAT3.out (by intro e; have := HM.out; rw [e] at this; simp at this; omega)
    simp only [Option.some.injEq, Addr.mk.injEq, and_true] at e
    obtain ⟨rfl, rfl⟩ := e
    exact k
  have HD : Hid (∀ W, Below w3.heap.size w3 W → PtsAt W (some ⟨g, 0 + r * 2, none⟩) (l.drop r)) := Lib.hid fun W hW _ => ⟨g, _, rfl, Nat.lt_of_lt_of_le hg' hW.size, (hpin.below hW hg').drop r⟩
  have HD0 : Hid (∀ W, Below w3.heap.size w3 W → PtsAt W (some ⟨g, r * 2, none⟩) (l.drop r)) := Lib.hid fun W hW => by
    have := HD.out W hW
    rwa [Nat.zero_add] at this
  have HTk : Hid (∀ W, Below w3.heap.size w3 W → PtsAt W (some ⟨g, 0, none⟩) (l.take r)) := Lib.hid fun W hW _ => ⟨g, 0, rfl, Nat.lt_of_lt_of_le hg' hW.size, (hpin.below hW hg').take r⟩
  have B0 : ∀ o, Below w3.heap.size w3 (w3.alloc o) := fun o => (Below.refl _ _).alloc (Nat.le_refl _) _
  clear hpin
  go_wp2_with fail
  go_region_held3 (fun _ => True) (exact trivial)
    (first | (refine step_papp (by rfl) _ _ (by rfl) w3.heap.size (.slice (some ⟨w3.heap.size, 0, none⟩) 0 0) [] (l.drop r) _ (m - r) _ (by rfl) (by rfl) (PtsOwn.empty w3).drew hld (by first | exact HD.out _ (B0 _).drew | exact HD0.out _ (B0 _).drew) (by rw [hld]; simp; omega) (by simp) ?_; intro v5 w5 ho5 hg5 hat5; have HO5 := Lib.hid ho5; have HB5 := Lib.hid ((B0 (.cells #[] 33)).drew.grown hg5 (by simp) (by simp [Value.ownBlock])); clear ho5 hg5 hat5) | (refine step_papp (by rfl) _ _ (by rfl) w3.heap.size v5 ([] ++ l.drop r) (l.take r) _ r _ (by rfl) (by rfl) HO5.out hlt' (HTk.out _ HB5.out) (by rw [hlt', List.nil_append, hld]; omega) HB5.out.size ?_; intro v6 w6 ho6 hg6 hat6; have HB6 := Lib.hid (HB5.out.grown hg6 HB5.out.size (fun k hk => (HO5.out.base k hk).1)); have HO6 := Lib.hid ho6; obtain ⟨g6, c6, rfl, hc6, hg6', hgl6, hin6⟩ := HO6.out.row (n := m) (by rw [List.length_append, List.nil_append, hld, hlt']; omega) (by omega); have KH6 := Lib.hid (hullX_any hS hR (some ⟨g6, 0, none⟩) m c6 ([] ++ l.drop r ++ l.take r) w6 (by rw [List.length_append, List.nil_append, hld, hlt']; omega) (by omega) (fun _ => ⟨g6, 0, rfl, hgl6, hin6⟩)); have hl6 : ([] ++ l.drop r ++ l.take r).length ≤ 32 := (by rw [List.length_append, List.nil_append, hld, hlt']; omega); have HR6 := Lib.hid (fun e w7 => hull_again (e := e) (w := w6) (w' := w7) HH.out HLOW.out (by rw [HQ.out]; exact h3) (rot_mem l r) HOK.out hl6); clear ho6 hg6 hat6 hl6 hin6) | ((with_reducible refine (KH6.out).mono ?_); rintro e w7 hc7; obtain ⟨v7, rfl, ho7, hb7⟩ := HR6.out _ _ hc7; obtain ⟨g7, c7, rfl, hc7', hg7, hgl7, hin7⟩ := ho7.row HQ.out (by omega); have HAT7 : Hid (PtsAt w7 (some ⟨g7, 0, none⟩) H) := Lib.hid (fun _ => ⟨g7, 0, rfl, hgl7, hin7⟩); have HB7 := Lib.hid (HB6.out.trans (hb7.mono HB6.out.size)); clear ho7 hb7 hc7 hin7))
  have HBW7 := Lib.hid (HB3.out.trans (HB7.out.mono hs3))
  have HATH7 : Hid (PtsAt w7 (some ⟨g3, 0, none⟩) H) := Lib.hid (HATH.out.below HB7.out)
  have HAT7l : Hid (PtsAt w7 (some ⟨g, 0, none⟩) l) := Lib.hid (HAT3.out.below HB7.out)
  have hs7 := HBW7.out.size
  have KS := Lib.hid (same_any (some ⟨g3, 0, none⟩) (some ⟨g7, 0, none⟩) q q c3 c7 H H w7 HQ.out (by omega) HATH7.out HQ.out (by omega) HAT7.out)
  rw [decide_eq_true rfl] at KS
  have HPOLY : Hid (polyB H = true) := Lib.hid (hull_poly HH.out (by rw [HQ.out]; exact h3) HOK.out (by rw [HM.out]; omega))
  have HCONV : Hid (convexB H = true) := Lib.hid (hull_convex HH.out (by rw [HQ.out]; exact h3) HLOW.out)
  have HCX : Hid (convexX H = true) := Lib.hid (by unfold convexX; rw [HPOLY.out, HCONV.out]; rfl)
  have HEX : Hid (errX H = 0) := Lib.hid (by unfold errX; rw [HPOLY.out]; rfl)
  have HSELF : Hid (Hull H H s0) := Lib.hid (hull_self HH.out)
  have HLOWH : Hid (∀ p ∈ H, leP s0 p) := Lib.hid fun p hp => HLOW.out p (hull_sub HH.out hp)
  have HOKH : Hid (H.all okP = true) := Lib.hid (List.all_eq_true.2 fun p hp => List.all_eq_true.1 HOK.out p (hull_sub HH.out hp))
  have HSUB : Hid (∀ p ∈ H, p ∈ l) := Lib.hid fun p hp => hull_sub HH.out hp
  have HWH : Hid (∀ p ∈ l, (whereX H p = 0 ∨ whereX H p = 1) ∧ whereE H p = 0) := Lib.hid fun p hp => hull_whereX HH.out HLOW.out (by rw [HQ.out]; exact h3) HOK.out (by rw [HM.out]; omega) hp
  clear HR6 KH6 HB6 HB5 HO5 HO6 HB7 HATH HAT3 HD HD0 HTk HAT7 HB3 i0 i1 i2 i3 j1 j2 j3 j4 j5 hld hlt' hg3l hgl7 hgl6 hg' hs3
  go_wp2_with fail
  refine (KS.out).mono ?_
  rintro e w8 ⟨rfl, hb8⟩
  have HBW8 := Lib.hid (HBW7.out.trans (hb8.mono HBW7.out.size))
  have HR8 := Lib.hid hb8
  clear hb8 KS
  have hq3 : ¬ q < 3 := by omega
  have hqm : ¬ m < q := by omega
  go_wp2_with fail
  refine ((L _).out).mono ?_
  rintro e w9 ⟨rfl, hb9⟩
  have HBW9 := Lib.hid (HBW8.out.trans (hb9.mono HBW8.out.size))
  have HR9 := Lib.hid (HR8.out.trans (hb9.mono HR8.out.size))
  have KC := Lib.hid (convexX_any (some ⟨g3, 0, none⟩) q c3 H w9 HQ.out (by omega) (HATH7.out.below HR9.out))
  rw [HCX.out, HEX.out] at KC
  clear hb9 HR8 HBW8
  go_wp2_with fail
  refine (KC.out).mono ?_
  rintro e w10 ⟨rfl, hb10⟩
  have HBW10 := Lib.hid (HBW9.out.trans (hb10.mono HBW9.out.size))
  have HR10 := Lib.hid (HR9.out.trans (hb10.mono HR9.out.size))
  have KA := Lib.hid (hullX_any hS hR (some ⟨g3, 0, none⟩) q c3 H w10 HQ.out (by omega) (HATH7.out.below HR10.out))
  clear hb10 HR9 HBW9 KC
  go_wp2_with fail
  refine (KA.out).mono ?_
  rintro e w11 hc11
  obtain ⟨v11, rfl, ho11, hb11⟩ := hull_again HSELF.out HLOWH.out (by rw [HQ.out]; exact h3) (fun _ => Iff.rfl) HOKH.out (by rw [HQ.out]; omega) hc11
  obtain ⟨g11, c11, rfl, hc11', hg11, hgl11, hin11⟩ := ho11.row HQ.out (by omega)
  have HBW11 := Lib.hid (HBW10.out.trans (hb11.mono HBW10.out.size))
  have HR11 := Lib.hid (HR10.out.trans (hb11.mono HR10.out.size))
  have KS := Lib.hid (same_any (some ⟨g11, 0, none⟩) (some ⟨g3, 0, none⟩) q q c11 c3 H H w11 HQ.out (by omega) (fun _ => ⟨g11, 0, rfl, hgl11, hin11⟩) HQ.out (by omega) (HATH7.out.below HR11.out))
  rw [decide_eq_true rfl] at KS
  clear hb11 HR10 HBW10 KA hc11 ho11 hin11 HSELF HLOWH HOKH
  go_wp2_with fail
  refine (KS.out).mono ?_
  rintro e w12 ⟨rfl, hb12⟩
  have HBW12 := Lib.hid (HBW11.out.trans (hb12.mono HBW11.out.size))
  have HR12 := Lib.hid (HR11.out.trans (hb12.mono HR11.out.size))
  have HATH12 : Hid (PtsAt w12 (some ⟨g3, 0, none⟩) H) := Lib.hid (HATH7.out.below HR12.out)
  have HAT12 : Hid (PtsAt w12 (some ⟨g, 0, none⟩) l) := Lib.hid (HAT7l.out.below HR12.out)
  clear hb12 HR11 HBW11 KS HATH7 HAT7l HR12
  go_wp2_with fail
  go_loopw [15, 16, 17] (fun i u t wr => ∃ k : Nat, k ≤ m ∧ i = .int .i64 k ∧ Below w12.heap.size w12 wr) (fun i _ _ _ => m - (intOf i).toNat)
  case atStart => exact ⟨0, Nat.zero_le _, rfl, Below.refl _ _⟩
  case round =>
    obtain ⟨k, hk, rfl, hbr⟩ := hrel
    have HBR := Lib.hid hbr
    by_cases hlt : k < m
    · have hkl : k < l.length := by rw [HM.out]; exact hlt
      obtain ⟨b, off, e, hb, hin⟩ := HAT12.out (by intro e; subst e; simp at hkl)
      simp only [Option.some.injEq, Addr.mk.injEq, and_true] at e
      obtain ⟨rfl, rfl⟩ := e
      obtain ⟨h1, h2⟩ := (hin.below hbr hb) k _ (List.getElem?_eq_getElem hkl)
      simp only [Nat.zero_add] at h1 h2
      have hwh := HWH.out _ (List.getElem_mem hkl)
      have KW := Lib.hid (whereX_any (some ⟨g3, 0, none⟩) q c3 H l[k] wr HQ.out (by omega) (HATH12.out.below hbr))
      clear hin hbr
      generalize l[k] = p at *
      obtain ⟨x, y⟩ := p
      obtain ⟨hwx, hwe⟩ := hwh
      rw [hwe] at KW
      generalize whereX H (x, y) = z at *
      clear hwe
      have hz : 0 ≤ z ∧ z ≤ 1 := by omega
      clear hwx
      go_wp2_with fail
      refine (KW.out).mono ?_
      rintro e w13 ⟨rfl, hb13⟩
      have HBR13 := Lib.hid (HBR.out.trans (hb13.mono HBR.out.size))
      clear hb13 KW
      go_wp2_with fail
      go_roundw
      case rel => exact ⟨k + 1, by omega, by go_num, HBR13.out⟩
      case measure => simp [intOf]; omega
    · obtain rfl : k = m := by omega
      have HBW13 := Lib.hid (HBW12.out.trans (hbr.mono HBW12.out.size))
      have HATH13 : Hid (PtsAt wr (some ⟨g3, 0, none⟩) H) := Lib.hid (HATH12.out.below hbr)
      have HAT13 : Hid (PtsAt wr (some ⟨g, 0, none⟩) l) := Lib.hid (HAT12.out.below hbr)
      clear hbr HBR HBW12 HATH12 HAT12 HWH
      obtain ⟨w13, rfl⟩ : ∃ wo : World, wo = wr := ⟨_, rfl⟩
      go_wp2_with fail
      go_loopw [18, 19, 20] (fun i f j wr => ∃ z : Nat, z ≤ q ∧ i = .int .i64 z ∧ Below w13.heap.size w13 wr) (fun i _ _ _ => q - (intOf i).toNat)
      case atStart => exact ⟨0, Nat.zero_le _, rfl, Below.refl _ _⟩
      case round =>
        obtain ⟨z, hz, rfl, hbr⟩ := hrel
        by_cases hlt : z < q
        · have hkl : z < H.length := by rw [HQ.out]; exact hlt
          obtain ⟨b, off, e, hb, hin⟩ := HATH13.out (by intro e; subst e; simp at hkl)
          simp only [Option.some.injEq, Addr.mk.injEq, and_true] at e
          obtain ⟨rfl, rfl⟩ := e
          obtain ⟨h1, h2⟩ := hin z _ (List.getElem?_eq_getElem hkl)
          simp only [Nat.zero_add] at h1 h2
          have hsub := HSUB.out _ (List.getElem_mem hkl)
          generalize H[z] = p at *
          have HMEM : Hid (memB l k p = true) := Lib.hid (memB_all hsub (by rw [HM.out]; omega))
          clear hin hsub hkl
          obtain ⟨x, y⟩ := p
          have HBZ := Lib.hid hbr
          clear hbr
          obtain ⟨wz, rfl⟩ : ∃ wo : World, wo = wr := ⟨_, rfl⟩
          go_wp2_with fail
          go_loopw [19, 20] (fun f j wr => ∃ t : Nat, t ≤ k ∧ j = .int .i64 t ∧ f = .bool (memB l t (x, y)) ∧ Below w13.heap.size w13 wr) (fun _ j _ => k - (intOf j).toNat)
          case atStart => exact ⟨0, Nat.zero_le _, rfl, by simp [memB], HBZ.out⟩
          case round =>
            obtain ⟨t, ht, rfl, rfl, hbt⟩ := hrel
            by_cases htl : t < k
            · have hkt : t < l.length := by rw [HM.out]; exact htl
              obtain ⟨b2, off2, e, hb2, hin2⟩ := HAT13.out (by intro e; subst e; simp at hkt)
              simp only [Option.some.injEq, Addr.mk.injEq, and_true] at e
              obtain ⟨rfl, rfl⟩ := e
              obtain ⟨h3, h4⟩ := (hin2.below hbt hb2) t _ (List.getElem?_eq_getElem hkt)
              simp only [Nat.zero_add] at h3 h4
              have HS := Lib.hid (memB_succ hkt (x, y))
              have h1' : wr.cell? ⟨g3, z * 2, none⟩ = some (.int .i64 x) := (hbt.cell (p := ⟨g3, _, none⟩) hb).trans h1
              have h2' : wr.cell? ⟨g3, z * 2 + 1, none⟩ = some (.int .i64 y) := (hbt.cell (p := ⟨g3, _, none⟩) hb).trans h2
              clear hin2
              generalize l[t] = p at *
              obtain ⟨u, v⟩ := p
              have gp := guard_pt
              have ep := eq_pt u v x y
              have t1 := cell_regrown h1'
              have t2 := cell_regrown h2'
              have t3 := cell_regrown h3
              have t4 := cell_regrown h4
              clear h3 h4 h1' h2'
              replace HS : Hid (memB l (t + 1) (x, y) = (memB l t (x, y) || eqI u v x y)) := HS
              cases hf : memB l t (x, y)
              · cases he : eqI u v x y
                all_goals
                  rw [hf, he] at HS
                  simp only [Bool.or_false, Bool.or_true, Bool.false_or, Bool.true_or] at HS
                  go_wp2_with fail
                  refine wp_region_quiet_below (by kernel_rfl) (by kernel_rfl) ?_
                  repeat (go_big_quiet_step (fail))
                  refine wpQuiet_nil ?_
                  intro _ hw'
                  obtain ⟨⟨dq, osq⟩, hw''⟩ := hw'
                  subst hw''
                  have HBE := Lib.hid (hbt.trans ((below_regrown wr dq osq).mono hbt.size))
                  go_wp2_with fail
                  go_roundw
                  case rel => exact ⟨t + 1, by omega, by go_num, by rw [HS.out], HBE.out⟩
                  case measure => simp [intOf]; omega
              · rw [hf] at HS
                simp only [Bool.true_or] at HS
                go_wp2_with fail
                refine wp_region_quiet_below (by kernel_rfl) (by kernel_rfl) ?_
                repeat (go_big_quiet_step (fail))
                refine wpQuiet_nil ?_
                intro _ hw'
                obtain ⟨⟨dq, osq⟩, hw''⟩ := hw'
                subst hw''
                have HBE := Lib.hid (hbt.trans ((below_regrown wr dq osq).mono hbt.size))
                go_wp2_with fail
                go_roundw
                case rel => exact ⟨t + 1, by omega, by go_num, by rw [HS.out], HBE.out⟩
                case measure => simp [intOf]; omega
            · obtain rfl : t = k := by omega
              have HBT := Lib.hid hbt
              clear hbt
              rw [HMEM.out]
              go_wp2_with fail
              go_roundw
              case rel => exact ⟨z + 1, by omega, by go_num, HBT.out⟩
              case measure => simp [intOf]; omega
        · obtain rfl : z = q := by omega
          have HBF := Lib.hid (HBW13.out.trans (hbr.mono HBW13.out.size))
          clear hbr
          go_wp2_with fail
          go_ret
          exact ⟨rfl, HBF.out⟩

end Go.Proofs.Ytnijcdphmibjaaa
