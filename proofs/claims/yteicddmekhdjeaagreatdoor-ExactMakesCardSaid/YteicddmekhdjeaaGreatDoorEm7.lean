/- Parts of the proof, one after the other: RefNum, RefIs, MakeDev, MakesMath, MakesLaw. -/
import Derived.Test.YteicddmekhdjeaaGreatDoorEm6
import Derived.Test.YteicddmekhdjeaaGreatDoorEm1
import Derived.Test.YteicddmekhdjeaaGreatDoorShelf
import Derived.Lib.SmallJoins
/- cracknelref01.Num and Result: texts of fractions. -/
namespace Go.Proofs.YteicddmekhdjeaaGreatDoor
open Go.RowKit Go.Sort Go.Lib

def numT (X Y : Int) : List UInt8 := (if X < 0 then [45] else []) ++ decDigits X.natAbs ++ (if Y.natAbs = 1 then [] else 47 :: decDigits Y.natAbs)
def numOk (X Y : Int) : Bool := decide ((decDigits X.natAbs).length ≤ 4000 ∧ (decDigits Y.natAbs).length ≤ 4000)
theorem ba_size (bs : ByteArray) : bs.data.toList.length = bs.size := Array.length_toList
theorem ba_loop (bs : ByteArray) : ∀ (n i : Nat) (r : List UInt8), bs.size - i = n → ByteArray.toList.loop bs i r = r.reverse ++ bs.data.toList.drop i
  | 0, i, r, h => by
    unfold ByteArray.toList.loop
    rw [if_neg (by omega), List.drop_of_length_le (by rw [ba_size]; omega), List.append_nil]
  | n + 1, i, r, h => by
    unfold ByteArray.toList.loop
    have hi : i < bs.size := by omega
    have hi2 : i < bs.data.toList.length := by rw [ba_size]; exact hi
    rw [if_pos hi, ba_loop bs n (i + 1) _ (by omega), List.reverse_cons, List.append_assoc, List.drop_eq_getElem_cons hi2]
    congr 2
    have : bs.get! i = bs.data[i]! := rfl
    rw [this, getElem!_pos bs.data i hi]
    rfl
theorem ofL_toList (D : List UInt8) : (ofL D).toList = D := by
  unfold ByteArray.toList
  rw [ba_loop _ _ 0 [] rfl]
  rfl
theorem dec_one {k : Nat} : decDigits k = [49] ↔ k = 1 := by
  constructor
  · intro h
    by_cases h1 : k < 10
    · rw [decDigits_one h1] at h
      match k, h1 with
      | 0, _ => exact absurd h (by decide)
      | 1, _ => rfl
      | 2, _ => exact absurd h (by decide)
      | 3, _ => exact absurd h (by decide)
      | 4, _ => exact absurd h (by decide)
      | 5, _ => exact absurd h (by decide)
      | 6, _ => exact absurd h (by decide)
      | 7, _ => exact absurd h (by decide)
      | 8, _ => exact absurd h (by decide)
      | 9, _ => exact absurd h (by decide)
    · rw [dec_step h1] at h
      have e := congrArg List.length h
      rw [List.length_append] at e
      have : 0 < (decDigits (k / 10)).length := by
        by_cases h2 : k / 10 = 0
        · omega
        · obtain ⟨a, l, e2, -⟩ := dec_head (k / 10) (Nat.le_refl _) (by omega)
          rw [e2]; simp
      simp at e
      rw [e] at this
      exact absurd this (by simp)
  · rintro rfl
    exact decDigits_one (by omega)
/-- What lies in the box behind Lowest. -/
def NumS (w : World) (g : Nat) (X Y : Int) (b1 : Bool) (A1 : Option Addr) (n1 c1 : Nat) (b2 : Bool) (A2 : Option Addr) (n2 c2 : Nat) (wx : World) : Prop := QBox wx g b1 (.slice A1 n1 c1) b2 (.slice A2 n2 c2) ∧ DigAt wx A1 (digs X.natAbs) ∧ DigAt wx A2 (digs Y.natAbs) ∧ Below g w wx
section
variable {w w1 w2 : World} {g n1 c1 n2 c2 : Nat} {X Y : Int} {b1 b2 : Bool} {A1 A2 : Option Addr}
theorem NumS.below (h : NumS w g X Y b1 A1 n1 c1 b2 A2 n2 c2 w1) (hb : Below w1.heap.size w1 w2) : NumS w g X Y b1 A1 n1 c1 b2 A2 n2 c2 w2 := ⟨h.1.below hb h.1.lt, h.2.1.below hb, h.2.2.1.below hb, h.2.2.2.trans (hb.mono (by have := h.1.lt; omega))⟩
theorem NumS.drew (h : NumS w g X Y b1 A1 n1 c1 b2 A2 n2 c2 w1) : NumS w g X Y b1 A1 n1 c1 b2 A2 n2 c2 w1.drew := ⟨h.1, h.2.1, h.2.2.1, h.2.2.2.drew⟩
end

set_option maxRecDepth 100000 in
set_option maxHeartbeats 4000000 in
theorem numQ_any (x y : Int) (v : Value) (w : World) (hq : QAt w v x y) (hpos : 0 < y) (hlx : (digs x.natAbs).length ≤ 4000) (hly : (digs y.natAbs).length ≤ 4000) (X Y : Int) (hX : X = x / (Nat.gcd x.natAbs y.natAbs : Nat)) (hY : Y = y / (Nat.gcd x.natAbs y.natAbs : Nat)) (hXl : (digs X.natAbs).length ≤ 4000) (hYl : (digs Y.natAbs).length ≤ 4000) :
    Calls Tryz.prog 32 #[v] w fun e w' => e = .returned (.tuple #[.string (ofL (if numOk X Y then numT X Y else [])), .bool (numOk X Y)]) ∧ Below w.heap.size w w' := by
  have hq2 := hq
  obtain ⟨b1, A1, n1, c1, b2, A2, n2, c2, rfl, -⟩ := hq
  generalize hg : w.heap.size = g
  have LW := fun V (h : Below g w V) => (lowest_any x y (.agg #[.bool b1, .slice A1 n1 c1, .bool b2, .slice A2 n2 c2]) V (hq2.below (by rw [hg]; exact h)) hpos (by omega) (by omega)).mono fun _ _ h => retQV_of h
  rw [← hX, ← hY] at LW
  have LW := fun V h => Lib.hid (LW V h)
  clear hX hY hpos hlx hly hq2
  have FX := fun V A n c (hn : (digs X.natAbs).length = n) h => Lib.hid (figures_any X.natAbs false A n c V hn (by omega) h)
  have FY := fun V b A n c (hn : (digs Y.natAbs).length = n) h => Lib.hid (figures_any Y.natAbs b A n c V hn (by omega) h)
  have AB := fun V b A n c (hn : (digs X.natAbs).length = n) hc h => Lib.hid (abs_any b A n c (digs X.natAbs) V hn hc h)
  have q0 := QBox.new w b1 b2 (.slice A1 n1 c1) (.slice A2 n2 c2)
  have hb0 := (Below.refl w.heap.size w).alloc (Nat.le_refl _) (.cells #[.bool b1, .slice A1 n1 c1, .bool b2, .slice A2 n2 c2] 32)
  rw [hg] at q0 hb0
  go_enter Tryz.func32, Tryz.ntmps32
  go_upto_region 1 with (fail)
  generalize w.alloc (.cells #[.bool b1, .slice A1 n1 c1, .bool b2, .slice A2 n2 c2] 32) = w0 at *
  obtain ⟨c0, c1', c2', c3⟩ := q0.cells
  have HQ0 := Lib.hid q0
  have HB0 := Lib.hid hb0
  have hs0 := q0.lt
  clear q0 hb0
  go_upto_region 2 with (go_at_call 17; refine ((LW _ HB0.out).out).mono ?_; rintro e w1 ⟨s1, B1, m1, k1, s2, B2, m2, k2, rfl, ⟨hs1, hm1, hk1, hd1⟩, ⟨hs2, hm2, hk2, hd2⟩, hbl⟩; have HM1 := Lib.hid (And.intro hs1 hm1); have HD1 := Lib.hid hd1; have HM2 := Lib.hid (And.intro hs2 hm2); have HD2 := Lib.hid hd2; have HBL := Lib.hid hbl; have q1 := HQ0.out.below hbl hs0; have HQ1 := Lib.hid q1; clear c0 c1' c2' c3; obtain ⟨c0, c1', c2', c3⟩ := q1.cells; have f0 := q1.frozen 0; have f1 := q1.frozen 1; have f2 := q1.frozen 2; have f3 := q1.frozen 3; clear hs1 hm1 hd1 hs2 hm2 hd2 hbl q1)
  obtain ⟨pq, pd, pb⟩ := HQ1.out.put s1 s2 (.slice B1 m1 k1) (.slice B2 m2 k2)
  have HN : Hid (NumS w g X Y s1 B1 m1 k1 s2 B2 m2 k2 ((((w1.setCell ⟨g, 0, none⟩ (.bool s1)).setCell ⟨g, 1, none⟩ (.slice B1 m1 k1)).setCell ⟨g, 2, none⟩ (.bool s2)).setCell ⟨g, 3, none⟩ (.slice B2 m2 k2))) := Lib.hid ⟨pq, pd HD1.out, pd HD2.out, pb (HB0.out.trans (HBL.out.mono (by omega))) (Nat.le_refl _)⟩
  clear pq pd pb c0 c1' c2' c3 f0 f1 f2 f3 HQ1 HD1 HD2 HBL HQ0 HB0
  generalize ((((w1.setCell ⟨g, 0, none⟩ (.bool s1)).setCell ⟨g, 1, none⟩ (.slice B1 m1 k1)).setCell ⟨g, 2, none⟩ (.bool s2)).setCell ⟨g, 3, none⟩ (.slice B2 m2 k2)) = w2 at *
  go_cut [4, 5] from 8 to 14 (fun sv dv wx => sv = .string (ofL (decDigits X.natAbs)) ∧ dv = .string (ofL (decDigits Y.natAbs)) ∧ NumS w g X Y s1 B1 m1 k1 s2 B2 m2 k2 wx)
  case first =>
    obtain ⟨c0, c1', c2', c3⟩ := HN.out.1.cells
    go_region_with (first | (go_at_call 66; (with_reducible refine ((AB _ _ _ _ _ HM1.out.2 hk1 ?_).out).mono ?_); (first | exact HN.out.2.1 | exact HN.out.drew.2.1); rintro e w3 ⟨B3, k3, rfl, hk3, hd3, hbl⟩; have N1 : NumS w g X Y s1 B1 m1 k1 s2 B2 m2 k2 w3 := (by first | exact HN.out.below hbl | exact HN.out.drew.below hbl); have HN1 := Lib.hid N1; have HD3 := Lib.hid hd3; clear c0 c1' c2' c3 hbl hd3; obtain ⟨c0, c1', c2', c3⟩ := N1.1.cells; clear N1) | (go_at_call 65; (with_reducible refine ((FX _ _ _ _ rfl ?_).out).mono ?_); (first | exact HD3.out | exact HD3.out.drew); rintro e w4 ⟨rfl, hbl⟩; have N2 : NumS w g X Y s1 B1 m1 k1 s2 B2 m2 k2 w4 := (by first | exact HN1.out.below hbl | exact HN1.out.drew.below hbl); have HN2 := Lib.hid N2; clear c0 c1' c2' c3 hbl; obtain ⟨c0, c1', c2', c3⟩ := N2.1.cells; clear N2) | (go_at_call 65; (with_reducible refine ((FY _ _ _ _ _ HM2.out.2 ?_).out).mono ?_); (first | exact HN2.out.2.2.1 | exact HN2.out.drew.2.2.1); rintro e w5 ⟨rfl, hbl⟩; have N3 : NumS w g X Y s1 B1 m1 k1 s2 B2 m2 k2 w5 := (by first | exact HN2.out.below hbl | exact HN2.out.drew.below hbl); have HN3 := Lib.hid N3; clear hbl N3))
    all_goals go_wp2_with fail
    all_goals go_meet
    all_goals first | exact ⟨rfl, rfl, HN3.out⟩ | exact ⟨rfl, rfl, HN3.out.drew⟩
  case rest =>
    obtain ⟨rfl, rfl, hN⟩ := hcut
    obtain ⟨c0, c1', c2', c3⟩ := hN.1.cells
    have HB := Lib.hid hN.2.2.2
    have HSG := Lib.hid HM1.out.1
    clear HN hN LW FX FY AB HM1 HM2
    have HOK : Hid (numOk X Y = decide ((ofL (decDigits X.natAbs)).size ≤ 4000 ∧ (ofL (decDigits Y.natAbs)).size ≤ 4000)) := Lib.hid (by rw [ofL_size, ofL_size]; rfl)
    have HT : Hid (numT X Y = (if X < 0 then [45] else []) ++ decDigits X.natAbs ++ (if Y.natAbs = 1 then [] else 47 :: decDigits Y.natAbs)) := Lib.hid rfl
    have HONE := Lib.hid (dec_one (k := Y.natAbs))
    obtain ⟨n3, hn3⟩ : ∃ n, (ofL (decDigits X.natAbs)).size = n := ⟨_, rfl⟩
    obtain ⟨n4, hn4⟩ : ∃ n, (ofL (decDigits Y.natAbs)).size = n := ⟨_, rfl⟩
    rw [hn3, hn4] at HOK
    generalize decDigits X.natAbs = S at *
    generalize decDigits Y.natAbs = D at *
    by_cases h3 : n3 ≤ 4000
    · have k3 : ¬ (4000 : Int) < (n3 : Int) := by omega
      by_cases h4 : n4 ≤ 4000
      · have k4 : ¬ (4000 : Int) < (n4 : Int) := by omega
        have hok : numOk X Y = true := by rw [HOK.out]; exact decide_eq_true ⟨h3, h4⟩
        have hov1 : ¬ 9223372036854775807 < ({ data := #[45] } : ByteArray).size + (ofL S).size := by rw [hn3]; show ¬ _ < 1 + n3; omega
        go_upto_if 25 with (fail)
        go_cut [4] from 26 to 27 (fun sv wx => sv = .string (ofL ((if X < 0 then [45] else []) ++ S)) ∧ Below g w wx)
        case first =>
          cases s1 with
          | false =>
            have hx0 : ¬ X < 0 := of_decide_eq_false HSG.out
            have HX : Hid ((if X < 0 then [45] else []) ++ S = S) := Lib.hid (by rw [if_neg hx0]; rfl)
            go_wp2_with fail
            go_meet
            exact ⟨by rw [HX.out], HB.out⟩
          | true =>
            have hx0 : X < 0 := of_decide_eq_true HSG.out
            have HX : Hid ((if X < 0 then [45] else []) ++ S = 45 :: S) := Lib.hid (by rw [if_pos hx0]; rfl)
            go_wp2_with fail
            go_meet
            exact ⟨by rw [HX.out]; exact congrArg Value.string (ofL_append [45] S), HB.out⟩
        case rest =>
        clear HB c0 c1' c2' c3
        obtain ⟨rfl, hb⟩ := hcut
        have HB := Lib.hid hb
        have HL : Hid ((ofL ((if X < 0 then [45] else []) ++ S)).size ≤ 4001) := Lib.hid (by rw [ofL_size] at hn3 ⊢; split <;> simp <;> omega)
        generalize (if X < 0 then [45] else []) ++ S = P at *
        clear hb HSG
        have hPl := HL.out
        have hov2 : ¬ 9223372036854775807 < ({ data := #[47] } : ByteArray).size + (ofL D).size := by rw [hn4]; show ¬ _ < 1 + n4; omega
        have hov3 : ¬ 9223372036854775807 < (ofL P).size + (({ data := #[47] } : ByteArray) ++ ofL D).size := by
          rw [ByteArray.size_append, hn4]; show ¬ _ < _ + (1 + n4); omega
        have HE : Hid (ofL P ++ (({ data := #[47] } : ByteArray) ++ ofL D) = ofL (P ++ 47 :: D)) := Lib.hid (by
          rw [show (({ data := #[47] } : ByteArray)) = ofL [47] from rfl, ofL_append, ofL_append]; rfl)
        clear hPl
        by_cases hd : Y.natAbs = 1
        · have hD : D = [49] := HONE.out.2 hd
          have HF : Hid (ofL P = ofL (numT X Y)) := Lib.hid (by rw [HT.out, if_pos hd, List.append_nil])
          subst hD
          have hq3 : ((ofL [49]).toList == [49]) = true := by rw [ofL_toList]; rfl
          go_wp2_with fail
          go_ret2
          exact ⟨by rw [← HF.out]; rfl, HB.out⟩
        · have hD : D ≠ [49] := fun e => hd (HONE.out.1 e)
          have HF : Hid (ofL (P ++ 47 :: D) = ofL (numT X Y)) := Lib.hid (by rw [HT.out, if_neg hd])
          have hq3 : ((ofL D).toList == [49]) = false := by rw [ofL_toList]; exact beq_eq_false_iff_ne.2 hD
          go_wp2_with fail
          go_ret2
          exact ⟨by rw [← HF.out, ← HE.out]; rfl, HB.out⟩
      · have k4 : (4000 : Int) < (n4 : Int) := by omega
        have hok : numOk X Y = false := by rw [HOK.out]; exact decide_eq_false (fun h => h4 h.2)
        go_wp2_with fail
        go_ret2
        exact ⟨rfl, HB.out⟩
    · have k3 : (4000 : Int) < (n3 : Int) := by omega
      have hok : numOk X Y = false := by rw [HOK.out]; exact decide_eq_false (fun h => h3 h.1)
      go_wp2_with fail
      all_goals go_ret2
      all_goals exact ⟨rfl, HB.out⟩
end Go.Proofs.YteicddmekhdjeaaGreatDoor

/- cracknelref01.Result, and the laws' is. -/
namespace Go.Proofs.YteicddmekhdjeaaGreatDoor
open Go.RowKit Go.Sort Go.Lib

set_option maxRecDepth 100000 in
set_option maxHeartbeats 4000000 in
theorem result_any (x y : Int) (v : Value) (w : World) (hq : QAt w v x y) (hpos : 0 < y) (hlx : (digs x.natAbs).length ≤ 4000) (hly : (digs y.natAbs).length ≤ 4000) (X Y : Int) (hX : X = x / (Nat.gcd x.natAbs y.natAbs : Nat)) (hY : Y = y / (Nat.gcd x.natAbs y.natAbs : Nat)) (hXl : (digs X.natAbs).length ≤ 4000) (hYl : (digs Y.natAbs).length ≤ 4000) (hok : numOk X Y = true) :
    Calls Tryz.prog 16 #[v] w fun e w' => e = .returned (.tuple #[.string (ofL (numT X Y)), .int .i64 0]) ∧ Below w.heap.size w w' := by
  have hq2 := hq
  obtain ⟨b1, A1, n1, c1, b2, A2, n2, c2, rfl, -⟩ := hq
  have NM := fun V (h : Below w.heap.size w V) => numQ_any x y (.agg #[.bool b1, .slice A1 n1 c1, .bool b2, .slice A2 n2 c2]) V (hq2.below h) hpos hlx hly X Y hX hY hXl hYl
  rw [hok] at NM
  have NM := fun V h => Lib.hid (NM V h)
  have hb0 := Lib.hid ((Below.refl w.heap.size w).alloc (Nat.le_refl _) (.cells #[.bool b1, .slice A1 n1 c1, .bool b2, .slice A2 n2 c2] 32))
  clear hq2 hpos hlx hly hX hY hXl hYl hok
  generalize numT X Y = T at *
  go_enter Tryz.func16, Tryz.ntmps16
  go_wp2_with (go_at_call 32; refine ((NM _ hb0.out).out).mono ?_; rintro e w2 ⟨rfl, hb2⟩; have HB2 := Lib.hid (hb0.out.trans (hb2.mono hb0.out.size)); clear hb2)
  go_ret2
  exact ⟨rfl, HB2.out⟩

set_option maxRecDepth 100000 in
set_option maxHeartbeats 4000000 in
theorem is_any (x y : Int) (v : Value) (w : World) (hq : QAt w v x y) (hpos : 0 < y) (hlx : (digs x.natAbs).length ≤ 4000) (hly : (digs y.natAbs).length ≤ 4000) (X Y : Int) (hX : X = x / (Nat.gcd x.natAbs y.natAbs : Nat)) (hY : Y = y / (Nat.gcd x.natAbs y.natAbs : Nat)) (hXl : (digs X.natAbs).length ≤ 4000) (hYl : (digs Y.natAbs).length ≤ 4000) (hok : numOk X Y = true) (s : ByteArray) (hs : s = ofL (numT X Y)) :
    Calls Tryz.prog 6 #[.string s, .int .i64 0, v] w fun e w' => e = .returned (.bool true) ∧ Below w.heap.size w w' := by
  have hq2 := hq
  obtain ⟨b1, A1, n1, c1, b2, A2, n2, c2, rfl, -⟩ := hq
  have NM := fun V (h : Below w.heap.size w V) => result_any x y (.agg #[.bool b1, .slice A1 n1 c1, .bool b2, .slice A2 n2 c2]) V (hq2.below h) hpos hlx hly X Y hX hY hXl hYl hok
  have hb0 := Lib.hid ((Below.refl w.heap.size w).alloc (Nat.le_refl _) (.cells #[.bool b1, .slice A1 n1 c1, .bool b2, .slice A2 n2 c2] 32))
  rw [← hs] at NM
  have NM := fun V h => Lib.hid (NM V h)
  have heq : (s.toList == s.toList) = true := beq_self_eq_true _
  clear hq2 hpos hlx hly hX hY hXl hYl hok hs
  go_enter Tryz.func6, Tryz.ntmps6
  go_wp2_with (go_at_call 16; refine ((NM _ hb0.out).out).mono ?_; rintro e w2 ⟨rfl, hb2⟩; have HB2 := Lib.hid (hb0.out.trans (hb2.mono hb0.out.size)); clear hb2)
  go_ret
  exact ⟨rfl, HB2.out⟩
end Go.Proofs.YteicddmekhdjeaaGreatDoor

/- Texts of ratios of small integers, and exact.Make at small integers. -/
namespace Go.Proofs.YteicddmekhdjeaaGreatDoor
open Go.RowKit Go.Sort Go.Lib

/-- The table of powers of ten lies in memory. -/
def Pow10In (w : World) : Prop := Lib.TabIs Tryz.prog w "internal/strconv.uint64pow10" .u64 Lib.pow10Tab
theorem pow10_named : Tryz.prog.globalNamed "internal/strconv.uint64pow10" = some 0 := by kernel_rfl
theorem Pow10In.below {w w' : World} (h : Pow10In w) (hb : Below w.heap.size w w') : Pow10In w' := Go.Joins.tab_stays pow10_named h hb (Nat.le_refl _)
theorem fmt_any (z : Int) (w : World) (h0 : -9223372036854775808 ≤ z ∧ z ≤ 9223372036854775807) (hT : Pow10In w) : Calls Tryz.prog 72 #[.int .i64 z, .int .i64 10] w fun e w' => e = .returned (.string (ofL (itoa z))) ∧ Below w.heap.size w w' :=
  (Tryz.strconv_FormatInt_10 z h0.1 h0.2 w hT).mono fun e w' ⟨he, k, os, hw⟩ => by
    subst hw
    exact ⟨he, rfl, rfl, rfl, by simp [grow, World.drewN], fun j hj => by simp [grow, World.drewN, Array.getElem?_append, hj]⟩
theorem itoa_len {z : Int} (h : -9223372036854775808 ≤ z ∧ z ≤ 9223372036854775807) : (itoa z).length ≤ 20 := by
  have hd : ∀ u : Nat, u ≤ 9223372036854775808 → (decDigits u).length ≤ 19 := fun u hu => by
    rcases Nat.eq_zero_or_pos u with e | e
    · subst e; rw [decDigits_one (by omega)]; simp
    · exact dec_len_le e (by omega)
  unfold itoa
  split
  · have := hd z.natAbs (by omega)
    rw [List.length_cons]; omega
  · have := hd z.toNat (by omega)
    omega

set_option maxRecDepth 100000 in
set_option maxHeartbeats 4000000 in
theorem text_small (z : Int) (hz : Small z) (w : World) (hT : Pow10In w) : Calls Tryz.prog 36 #[SI z] w fun e w' => e = .returned (.tuple #[.string (ofL (itoa z)), .bool true]) ∧ Below w.heap.size w w' := by
  unfold SI
  have z0 := BoxI.new w z
  have HB0 := Lib.hid ((Below.refl w.heap.size w).alloc (Nat.le_refl _) (.cells #[.int .i64 z, .slice none 0 0] 39))
  have IS := fun V => Lib.hid (isSmall_any z V)
  unfold SI at IS
  have FM := fun V (h : Below w.heap.size w V) => Lib.hid (fmt_any z V (by unfold Small at hz; omega) (hT.below h))
  have hs0 := z0.lt
  clear hz hT
  go_enter Tryz.func36, Tryz.ntmps36
  go_upto_region 1 with (fail)
  generalize w.alloc (.cells #[.int .i64 z, .slice none 0 0] 39) = w0 at *
  obtain ⟨c0, c1⟩ := z0.cells
  have HZ := Lib.hid z0
  clear z0
  go_wp2_with (first | (go_at_call 44; refine (IS _).out.mono ?_; rintro e w1 ⟨rfl, hb1⟩; have HB1 := Lib.hid (HB0.out.trans (hb1.mono HB0.out.size)); clear c0 c1; obtain ⟨c0, c1⟩ := (HZ.out.below hb1 hs0).cells; clear hb1) | (go_at_call 72; refine ((FM _ HB1.out).out).mono ?_; rintro e w2 ⟨rfl, hb2⟩; have HB2 := Lib.hid (HB1.out.trans (hb2.mono HB1.out.size)); clear hb2))
  go_ret2
  exact ⟨rfl, HB2.out⟩

theorem isInteger_any (a d : Int) (w : World) : Calls Tryz.prog 37 #[RV a d] w fun e w' => e = .returned (.bool (denI d == 1)) ∧ Below w.heap.size w w' := by
  unfold RV
  have z0 := BoxR.new w a d
  have HB0 := Lib.hid ((Below.refl w.heap.size w).alloc (Nat.le_refl _) (.cells #[.int .i64 a, .slice none 0 0, .int .i64 d, .slice none 0 0] 41))
  have DN := fun V => Lib.hid (den_any a d V)
  have ON := fun V => Lib.hid (isOne_any (denI d) V)
  unfold RV SI at DN
  unfold SI at ON
  go_enter Tryz.func37, Tryz.ntmps37
  go_upto_region 1 with (fail)
  generalize w.alloc (.cells #[.int .i64 a, .slice none 0 0, .int .i64 d, .slice none 0 0] 41) = w0 at *
  obtain ⟨c0, c1, c2, c3⟩ := z0.cells
  go_wp2_with (first | (go_at_call 23; refine (DN _).out.mono ?_; rintro e w1 ⟨rfl, hb1⟩; have HB1 := Lib.hid (HB0.out.trans (hb1.mono HB0.out.size)); clear hb1) | (go_at_call 41; refine (ON _).out.mono ?_; rintro e w2 ⟨rfl, hb2⟩; have HB2 := Lib.hid (HB1.out.trans (hb2.mono HB1.out.size)); clear hb2))
  go_ret
  exact ⟨rfl, HB2.out⟩

def textQ (a d : Int) : List UInt8 := if d = 1 then itoa a else itoa a ++ 47 :: itoa d
set_option maxRecDepth 100000 in
set_option maxHeartbeats 4000000 in
theorem textR_small (a d : Int) (ha : Small a) (hd : Small d) (h0 : 0 < d) (w : World) (hT : Pow10In w) : Calls Tryz.prog 20 #[RV a d] w fun e w' => e = .returned (.tuple #[.string (ofL (textQ a d)), .bool true]) ∧ Below w.heap.size w w' := by
  unfold RV
  have z0 := BoxR.new w a d
  have HB0 := Lib.hid ((Below.refl w.heap.size w).alloc (Nat.le_refl _) (.cells #[.int .i64 a, .slice none 0 0, .int .i64 d, .slice none 0 0] 41))
  have TA := fun V (h : Below w.heap.size w V) => Lib.hid (text_small a ha V (hT.below h))
  have TD := fun V (h : Below w.heap.size w V) => Lib.hid (text_small d hd V (hT.below h))
  have II := fun V => isInteger_any a d V
  rw [show denI d = d by unfold denI; rw [if_neg (by omega)]] at II
  have II := fun V => Lib.hid (II V)
  unfold RV at II
  unfold SI at TA TD
  have hs0 := z0.lt
  have hla := itoa_len (z := a) (by unfold Small at ha; omega)
  have hld := itoa_len (z := d) (by unfold Small at hd; omega)
  have hov1 : ¬ 9223372036854775807 < (ofL (itoa a)).size + ({ data := #[47] } : ByteArray).size := by rw [ofL_size]; show ¬ _ < _ + 1; omega
  have hov2 : ¬ 9223372036854775807 < (ofL (itoa a) ++ ({ data := #[47] } : ByteArray)).size + (ofL (itoa d)).size := by rw [ByteArray.size_append, ofL_size, ofL_size]; show ¬ _ < _ + 1 + _; omega
  have HE : Hid (ofL (itoa a) ++ ({ data := #[47] } : ByteArray) ++ ofL (itoa d) = ofL (itoa a ++ 47 :: itoa d)) := Lib.hid (by
    rw [show (({ data := #[47] } : ByteArray)) = ofL [47] from rfl, ofL_append, ofL_append, List.append_assoc]; rfl)
  clear ha hd hT hla hld
  by_cases h1 : d = 1
  · have hb1 : (d == 1) = true := beq_iff_eq.2 h1
    have HQ : Hid (textQ a d = itoa a) := Lib.hid (by unfold textQ; rw [if_pos h1])
    clear h0 h1
    go_enter Tryz.func20, Tryz.ntmps20
    go_upto_region 1 with (fail)
    generalize w.alloc (.cells #[.int .i64 a, .slice none 0 0, .int .i64 d, .slice none 0 0] 41) = w0 at *
    obtain ⟨c0, c1, c2, c3⟩ := z0.cells
    have HZ := Lib.hid z0
    clear z0
    go_wp2_with (first | (go_at_call 36; (with_reducible refine ((TA _ HB0.out).out).mono ?_); rintro e w1 ⟨rfl, hb1⟩; have HB1 := Lib.hid (HB0.out.trans (hb1.mono HB0.out.size)); clear c0 c1 c2 c3; obtain ⟨c0, c1, c2, c3⟩ := (HZ.out.below hb1 hs0).cells; clear hb1) | (go_at_call 37; refine (II _).out.mono ?_; rintro e w2 ⟨rfl, hb2⟩; have HB2 := Lib.hid (HB1.out.trans (hb2.mono HB1.out.size)); clear hb2))
    go_ret2
    exact ⟨by rw [HQ.out]; rfl, HB2.out⟩
  · have hb1 : (d == 1) = false := beq_eq_false_iff_ne.2 h1
    have HQ : Hid (textQ a d = itoa a ++ 47 :: itoa d) := Lib.hid (by unfold textQ; rw [if_neg h1])
    clear h0 h1
    go_enter Tryz.func20, Tryz.ntmps20
    go_upto_region 1 with (fail)
    generalize w.alloc (.cells #[.int .i64 a, .slice none 0 0, .int .i64 d, .slice none 0 0] 41) = w0 at *
    obtain ⟨c0, c1, c2, c3⟩ := z0.cells
    have HZ := Lib.hid z0
    clear z0
    go_wp2_with (first | (go_at_call 36; (with_reducible refine ((TD _ HB2.out).out).mono ?_); rintro e w3 ⟨rfl, hb3⟩; have HB3 := Lib.hid (HB2.out.trans (hb3.mono HB2.out.size)); clear hb3) | (go_at_call 36; (with_reducible refine ((TA _ HB0.out).out).mono ?_); rintro e w1 ⟨rfl, hb1⟩; have HB1 := Lib.hid (HB0.out.trans (hb1.mono HB0.out.size)); clear c0 c1 c2 c3; have z1 := HZ.out.below hb1 hs0; obtain ⟨c0, c1, c2, c3⟩ := z1.cells; have HZ1 := Lib.hid z1; clear hb1 z1) | (go_at_call 37; refine (II _).out.mono ?_; rintro e w2 ⟨rfl, hb2⟩; have HB2 := Lib.hid (HB1.out.trans (hb2.mono HB1.out.size)); clear c0 c1 c2 c3; obtain ⟨c0, c1, c2, c3⟩ := (HZ1.out.below hb2 HZ1.out.lt).cells; clear hb2))
    go_ret2
    exact ⟨by rw [HQ.out, ← HE.out]; rfl, HB3.out⟩

set_option maxRecDepth 100000 in
theorem write_small (a d : Int) (ha : Small a) (hd : Small d) (h0 : 0 < d) (w : World) (hT : Pow10In w) : Calls Tryz.prog 8 #[RV a d] w fun e w' => e = .returned (.tuple #[.string (ofL (textQ a d)), .int .i64 0]) ∧ Below w.heap.size w w' := by
  unfold RV
  have z0 := BoxR.new w a d
  have HB0 := Lib.hid ((Below.refl w.heap.size w).alloc (Nat.le_refl _) (.cells #[.int .i64 a, .slice none 0 0, .int .i64 d, .slice none 0 0] 41))
  have TX := fun V (h : Below w.heap.size w V) => Lib.hid (textR_small a d ha hd h0 V (hT.below h))
  unfold RV at TX
  clear ha hd h0 hT
  generalize textQ a d = T at *
  go_enter Tryz.func8, Tryz.ntmps8
  go_upto_region 1 with (fail)
  generalize w.alloc (.cells #[.int .i64 a, .slice none 0 0, .int .i64 d, .slice none 0 0] 41) = w0 at *
  obtain ⟨c0, c1, c2, c3⟩ := z0.cells
  go_wp2_with (go_at_call 20; refine ((TX _ HB0.out).out).mono ?_; rintro e w1 ⟨rfl, hb1⟩; have HB1 := Lib.hid (HB0.out.trans (hb1.mono HB0.out.size)); clear hb1)
  go_ret2
  exact ⟨rfl, HB1.out⟩

theorem small_sgnd {d g : Int} (hg : 0 < g) (h0 : d ≠ 0) (hdv : g ∣ d) : 0 < (sgnN d d).tdiv g := by
  obtain ⟨q, rfl⟩ := hdv
  have hq : q ≠ 0 := fun e => h0 (by rw [e, Int.mul_zero])
  unfold sgnN
  by_cases h : g * q < 0
  · rw [if_pos h, ← Int.mul_neg, Int.mul_tdiv_cancel_left _ (by omega)]
    have : ¬ 0 ≤ q := fun e => by have := Int.mul_nonneg (Int.le_of_lt hg) e; omega
    omega
  · rw [if_neg h, Int.mul_tdiv_cancel_left _ (by omega)]
    have : ¬ q < 0 := fun e => by have := Int.mul_neg_of_pos_of_neg hg e; omega
    omega
set_option maxRecDepth 100000 in
set_option maxHeartbeats 1000000 in
theorem make_small (n d : Int) (hn : Small n) (hd : Small d) (h0 : d ≠ 0) (w : World) (hT : Pow10In w) :
    Calls Tryz.prog 4 #[.int .i64 n, .int .i64 d] w fun e w' => e = .returned (.tuple #[.string (ofL (textQ ((sgnN n d).tdiv (Int.gcd n d)) ((sgnN d d).tdiv (Int.gcd n d)))), .int .i64 0]) ∧ Below w.heap.size w w' := by
  have hg0 : (0 : Int) < Int.gcd n d := by
    have := Int.gcd_pos_of_ne_zero_right n (b := d) h0
    omega
  have O1 := fun V => Lib.hid (of_small n hn V)
  have O2 := fun V => Lib.hid (of_small d hd V)
  have W1 := fun V => Lib.hid (whole_int n V hn)
  have W2 := fun V => Lib.hid (whole_int d V hd)
  have OV := fun V => Lib.hid (overR_int n d hn hd h0 V)
  have WR := fun V (h : Below w.heap.size w V) => Lib.hid (write_small ((sgnN n d).tdiv (Int.gcd n d)) ((sgnN d d).tdiv (Int.gcd n d)) (small_tdiv (small_sgn hn)) (small_tdiv (small_sgn hd)) (small_sgnd hg0 h0 (Int.gcd_dvd_right n d)) V (hT.below h))
  have hd0 : (d == 0) = false := beq_eq_false_iff_ne.2 h0
  generalize (sgnN n d).tdiv (Int.gcd n d) = N at *
  generalize (sgnN d d).tdiv (Int.gcd n d) = D at *
  generalize textQ N D = T at *
  clear hn hd h0 hT hg0
  go_enter Tryz.func4, Tryz.ntmps4
  go_wp2_with (first | (go_at_call 10; (with_reducible refine (O2 _).out.mono ?_); rintro e w3 ⟨rfl, hb3⟩; have HB3 := Lib.hid (HB2.out.trans (hb3.mono HB2.out.size)); clear hb3) | (go_at_call 10; (with_reducible refine (O1 _).out.mono ?_); rintro e w1 ⟨rfl, hb1⟩; have HB1 := Lib.hid hb1; clear hb1) | (go_at_call 9; (with_reducible refine (W1 _).out.mono ?_); rintro e w2 ⟨rfl, hb2⟩; have HB2 := Lib.hid (HB1.out.trans (hb2.mono HB1.out.size)); clear hb2) | (go_at_call 9; (with_reducible refine (W2 _).out.mono ?_); rintro e w4 ⟨rfl, hb4⟩; have HB4 := Lib.hid (HB3.out.trans (hb4.mono HB3.out.size)); clear hb4) | (go_at_call 11; refine (OV _).out.mono ?_; rintro e w5 ⟨rfl, hb5⟩; have HB5 := Lib.hid (HB4.out.trans (hb5.mono HB4.out.size)); clear hb5) | (go_at_call 8; refine ((WR _ HB5.out).out).mono ?_; rintro e w6 ⟨rfl, hb6⟩; have HB6 := Lib.hid (HB5.out.trans (hb6.mono HB5.out.size)); clear hb6))
  go_ret2
  exact ⟨rfl, HB6.out⟩
end Go.Proofs.YteicddmekhdjeaaGreatDoor

/- ExactMakes: the program's text is the document's; plain mathematics. -/
namespace Go.Proofs.YteicddmekhdjeaaGreatDoor
open Go.RowKit Go.Sort Go.Lib

theorem sgn_over (x y : Int) : sgnN x y = overN x y := rfl
theorem text_num {a d : Int} (hd : 0 < d) : textQ a d = numT a d := by
  have hi : itoa d = decDigits d.natAbs := by
    unfold itoa
    rw [if_neg (by omega), show d.toNat = d.natAbs by omega]
  have ha : itoa a = (if a < 0 then [45] else []) ++ decDigits a.natAbs := by
    unfold itoa
    by_cases h : a < 0
    · rw [if_pos h, if_pos h]; rfl
    · rw [if_neg h, if_neg h, show a.toNat = a.natAbs by omega]; rfl
  unfold textQ numT
  by_cases h1 : d = 1
  · rw [if_pos h1, if_pos (show d.natAbs = 1 by omega), List.append_nil, ha]
  · rw [if_neg h1, if_neg (show ¬ d.natAbs = 1 by omega), ha, hi]
theorem gcd_dvd_over (x y : Int) : ((Nat.gcd x.natAbs y.natAbs : Nat) : Int) ∣ overN x y ∧ ((Nat.gcd x.natAbs y.natAbs : Nat) : Int) ∣ overN y y := by
  have h1 : ((Nat.gcd x.natAbs y.natAbs : Nat) : Int) ∣ x := Int.gcd_dvd_left x y
  have h2 : ((Nat.gcd x.natAbs y.natAbs : Nat) : Int) ∣ y := Int.gcd_dvd_right x y
  unfold overN
  constructor
  · split
    · exact Int.dvd_neg.2 h1
    · exact h1
  · split
    · exact Int.dvd_neg.2 h2
    · exact h2
/-- The document's quotient in lowest terms. -/
def lowN (x y : Int) : Int := overN x y / (Nat.gcd x.natAbs y.natAbs : Nat)
def lowD (x y : Int) : Int := overN y y / (Nat.gcd x.natAbs y.natAbs : Nat)
theorem low_tdiv (x y : Int) : (sgnN x y).tdiv (Int.gcd x y) = lowN x y ∧ (sgnN y y).tdiv (Int.gcd x y) = lowD x y := by
  obtain ⟨h1, h2⟩ := gcd_dvd_over x y
  exact ⟨Int.tdiv_eq_ediv_of_dvd h1, Int.tdiv_eq_ediv_of_dvd h2⟩
theorem low_abs (x y : Int) (h0 : y ≠ 0) : (lowN x y).natAbs = x.natAbs / Nat.gcd x.natAbs y.natAbs ∧ (lowD x y).natAbs = y.natAbs / Nat.gcd x.natAbs y.natAbs := by
  obtain ⟨h1, h2⟩ := gcd_dvd_over x y
  unfold lowN lowD
  constructor
  · rw [Int.natAbs_ediv_of_dvd h1, Int.natAbs_natCast, overN_abs]
  · rw [Int.natAbs_ediv_of_dvd h2, Int.natAbs_natCast, overN_abs]
theorem low_one (x y : Int) (h0 : y ≠ 0) : Nat.gcd (lowN x y).natAbs (lowD x y).natAbs = 1 := by
  obtain ⟨h1, h2⟩ := low_abs x y h0
  rw [h1, h2]
  exact Nat.gcd_div_gcd_div_gcd_of_pos_right (by omega)
theorem low_pos (x y : Int) (h0 : y ≠ 0) : 0 < lowD x y := by
  obtain ⟨-, h2⟩ := gcd_dvd_over x y
  have hg : (0 : Int) < (Nat.gcd x.natAbs y.natAbs : Nat) := by
    have := Nat.gcd_pos_of_pos_right x.natAbs (show 0 < y.natAbs by omega)
    omega
  exact Int.ediv_pos_of_pos_of_dvd (overN_pos h0) (Int.le_of_lt hg) h2
theorem low_le (x y : Int) (h0 : y ≠ 0) : (lowN x y).natAbs ≤ x.natAbs ∧ (lowD x y).natAbs ≤ y.natAbs := by
  obtain ⟨h1, h2⟩ := low_abs x y h0
  rw [h1, h2]
  exact ⟨Nat.div_le_self _ _, Nat.div_le_self _ _⟩
theorem dec19 {u : Nat} (hu : u ≤ 9223372036854775808) : (decDigits u).length ≤ 19 := by
  rcases Nat.eq_zero_or_pos u with e | e
  · subst e; rw [decDigits_one (by omega)]; simp
  · exact dec_len_le e (by omega)
theorem num_ok {a d : Int} (ha : a.natAbs ≤ 9223372036854775808) (hd : d.natAbs ≤ 9223372036854775808) : numOk a d = true :=
  decide_eq_true ⟨Nat.le_trans (dec19 ha) (by omega), Nat.le_trans (dec19 hd) (by omega)⟩
end Go.Proofs.YteicddmekhdjeaaGreatDoor

/- ExactMakes: the law's walk, on what exact.Make answers (MakesOk) and on lives. -/
namespace Go.Proofs.YteicddmekhdjeaaGreatDoor
open Go.RowKit Go.Sort Go.Lib

/-- What exact.Make has to answer. -/
def MakesOk (w : World) : Prop := ∀ (n d : Int), (-9223372036854775808 ≤ n ∧ n ≤ 9223372036854775807) → (-9223372036854775808 ≤ d ∧ d ≤ 9223372036854775807) → d ≠ 0 →
  ∀ V, Below w.heap.size w V → Calls Tryz.prog 4 #[.int .i64 n, .int .i64 d] V fun e w' => e = .returned (.tuple #[.string (ofL (numT (lowN n d) (lowD n d))), .int .i64 0]) ∧ Below V.heap.size V w'
def Lives1Ok (w : World) : Prop := ∀ V, Below w.heap.size w V → Calls Tryz.prog 5 #[] V fun e w' => e = .returned (.bool true) ∧ Below V.heap.size V w'
/-- exact.Make at small integers answers so. -/
theorem makes_small (n d : Int) (hn : Small n) (hd : Small d) (h0 : d ≠ 0) (w : World) (hT : Pow10In w) :
    Calls Tryz.prog 4 #[.int .i64 n, .int .i64 d] w fun e w' => e = .returned (.tuple #[.string (ofL (numT (lowN n d) (lowD n d))), .int .i64 0]) ∧ Below w.heap.size w w' := by
  have h := make_small n d hn hd h0 w hT
  rw [(low_tdiv n d).1, (low_tdiv n d).2, text_num (low_pos n d h0)] at h
  exact h
theorem make_zero (n : Int) (w : World) : Calls Tryz.prog 4 #[.int .i64 n, .int .i64 0] w fun e w' => e = .returned (.tuple #[.string { data := #[] }, .int .i64 4]) ∧ Below w.heap.size w w' := by
  go_enter Tryz.func4, Tryz.ntmps4
  go_wp2_with fail
  go_ret2
  exact ⟨rfl, Below.refl _ _⟩
theorem digs5 {u : Nat} (hu : u ≤ 9223372036854775808) : (digs u).length ≤ 4000 := Nat.le_trans (digs_len (k := 5) (by omega)) (by omega)

set_option maxRecDepth 100000 in
set_option maxHeartbeats 4000000 in
theorem makes_law (n d : Int) (w : World) (hn : -9223372036854775808 ≤ n ∧ n ≤ 9223372036854775807) (hd : -9223372036854775808 ≤ d ∧ d ≤ 9223372036854775807) (hM : MakesOk w) (hL : Lives1Ok w) :
    Calls Tryz.prog 3 #[.int .i64 n, .int .i64 d] w fun e w' => e = .returned (.bool true) ∧ Below w.heap.size w w' := by
  have LV := fun V h => Lib.hid (hL V h)
  by_cases h0 : d = 0
  · subst h0
    have MZ := Lib.hid (make_zero n w)
    clear hM hn hd hL
    go_enter Tryz.func3, Tryz.ntmps3
    go_wp2_with (first | (go_at_call 4; refine (MZ.out).mono ?_; rintro e w1 ⟨rfl, hb1⟩; have HB1 := Lib.hid hb1; clear hb1) | (go_at_call 5; refine ((LV _ HB1.out).out).mono ?_; rintro e w2 ⟨rfl, hb2⟩; have HB2 := Lib.hid (HB1.out.trans (hb2.mono HB1.out.size)); clear hb2))
    go_ret
    exact ⟨rfl, HB2.out⟩
  · have hd0 : (d == 0) = false := beq_eq_false_iff_ne.2 h0
    have MK := Lib.hid (hM n d hn hd h0 w (Below.refl _ _))
    have RM := fun V => (makeQ_any n d V hn hd h0).mono fun _ _ h => retQV_of h
    have hp := low_pos n d h0
    have h1 := low_one n d h0
    obtain ⟨hl1, hl2⟩ := low_le n d h0
    have IS := fun V v (hq : QAt V v (lowN n d) (lowD n d)) => Lib.hid (is_any (lowN n d) (lowD n d) v V hq hp (digs5 (by omega)) (digs5 (by omega)) (lowN n d) (lowD n d) (by rw [h1]; exact (Int.ediv_one _).symm) (by rw [h1]; exact (Int.ediv_one _).symm) (digs5 (by omega)) (digs5 (by omega)) (num_ok (by omega) (by omega)) (ofL (numT (lowN n d) (lowD n d))) rfl)
    have RM := fun V => Lib.hid (RM V)
    change ∀ V, Hid (Calls _ _ _ V (RetQV (lowN n d) (lowD n d) V)) at RM
    clear hM hn hd hL hp h1 hl1 hl2 h0
    generalize numT (lowN n d) (lowD n d) = T at *
    generalize lowN n d = X at *
    generalize lowD n d = Y at *
    go_enter Tryz.func3, Tryz.ntmps3
    go_wp2_with (first | (go_at_call 4; refine (MK.out).mono ?_; rintro e w1 ⟨rfl, hb1⟩; have HB1 := Lib.hid hb1; clear hb1) | (go_at_call 7; refine ((RM _).out).mono ?_; rintro e w2 ⟨b1, A1, n1, c1, b2, A2, n2, c2, rfl, hq1, hq2, hb2⟩; have HQ : Hid (QAt w2 (.agg #[.bool b1, .slice A1 n1 c1, .bool b2, .slice A2 n2 c2]) X Y) := Lib.hid ⟨b1, A1, n1, c1, b2, A2, n2, c2, rfl, hq1, hq2⟩; have HB2 := Lib.hid (HB1.out.trans (hb2.mono HB1.out.size)); clear hb2 hq1 hq2) | (go_at_call 6; refine ((IS _ _ HQ.out).out).mono ?_; rintro e w3 ⟨rfl, hb3⟩; have HB3 := Lib.hid (HB2.out.trans (hb3.mono HB2.out.size)); clear hb3) | (go_at_call 5; refine ((LV _ HB3.out).out).mono ?_; rintro e w4 ⟨rfl, hb4⟩; have HB4 := Lib.hid (HB3.out.trans (hb4.mono HB3.out.size)); clear hb4))
    go_ret
    exact ⟨rfl, HB4.out⟩
end Go.Proofs.YteicddmekhdjeaaGreatDoor
