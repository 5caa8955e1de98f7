/- The document's Run. -/
import Derived.Test.YtddejjilfmphbaaGreatDoorRefNext
namespace Go.Proofs.YtddejjilfmphbaaGreatDoor
open Go.RowKit Go.Sort

/-- Times for the first m nodes, for no others. -/
def Full (m : Nat) (x : Nat → Option Int) : Prop := (∀ i, i < m → (x i).isSome = true) ∧ ∀ i, m ≤ i → x i = none
def listOf (m : Nat) (x : Nat → Option Int) : List Int := (List.range m).map fun i => (x i).getD 0
theorem listOf_length (m : Nat) (x : Nat → Option Int) : (listOf m x).length = m := by simp [listOf]
theorem Full.back {m : Nat} {x : Nat → Option Int} (h : Full m x) : stOf (listOf m x) = x := by
  funext i
  unfold stOf listOf
  rcases Nat.lt_or_ge i m with g | g
  · have := h.1 i g
    rw [List.getElem?_map, List.getElem?_range g]
    cases hx : x i with
    | none => rw [hx] at this; cases this
    | some v => simp [hx]
  · rw [h.2 i g, List.getElem?_eq_none (by simpa using g)]
theorem full_stOf {m : Nat} {xs : List Int} (h : xs.length = m) : Full m (stOf xs) := by
  subst h
  refine ⟨fun i hi => ?_, fun i hi => List.getElem?_eq_none hi⟩
  show (xs[i]?).isSome = true
  rw [List.getElem?_eq_getElem hi]; rfl
theorem listOf_stOf {m : Nat} {xs : List Int} (h : xs.length = m) : listOf m (stOf xs) = xs := by
  subst h
  apply List.ext_getElem
  · simp [listOf]
  · intro i h1 h2
    simp [listOf, stOf, h2]
theorem nArc_some {x o : Nat → Option Int} {a : Arc} {i : Nat} (h : (o i).isSome = true) : (nArc x o a i).isSome = true := by
  unfold nArc
  split
  · cases ho : o i with
    | none => rw [ho] at h; cases h
    | some u => cases MP.add (x a.f.toNat) (some a.d) <;> rfl
  · exact h
theorem foldl_some (x : Nat → Option Int) : ∀ (l : List Arc) (o : Nat → Option Int) (i : Nat), (o i).isSome = true → (l.foldl (nArc x) o i).isSome = true
  | [], _, _, h => h
  | a :: l, o, i, h => foldl_some x l _ i (nArc_some h)
theorem foldl_to (x : Nat → Option Int) {m : Nat} (hx : ∀ i, i < m → (x i).isSome = true) : ∀ (l : List Arc) (o : Nat → Option Int) (i : Nat), (∀ a ∈ l, a.f.toNat < m) → toB l i = true → (l.foldl (nArc x) o i).isSome = true
  | [], _, _, _, h => by cases h
  | a :: l, o, i, hf, h => by
    by_cases ht : a.t = (i : Int)
    · refine foldl_some x l _ i ?_
      unfold nArc
      rw [if_pos (by omega)]
      have := hx _ (hf a List.mem_cons_self)
      cases hv : x a.f.toNat with
      | none => rw [hv] at this; cases this
      | some v => cases o i <;> rfl
    · refine foldl_to x hx l _ i (fun b hb => hf b (List.mem_cons_of_mem _ hb)) ?_
      unfold toB at h ⊢
      rw [List.any_cons] at h
      simpa [ht] using h
theorem foldl_none (x : Nat → Option Int) {m : Nat} : ∀ (l : List Arc) (o : Nat → Option Int) (i : Nat), (∀ a ∈ l, a.t.toNat < m) → m ≤ i → o i = none → l.foldl (nArc x) o i = none
  | [], _, _, _, _, h => h
  | a :: l, o, i, ht, hi, h => by
    refine foldl_none x l _ i (fun b hb => ht b (List.mem_cons_of_mem _ hb)) hi ?_
    unfold nArc
    rw [if_neg (by have := ht a List.mem_cons_self; omega)]
    exact h
theorem full_step {m : Nat} {x : Nat → Option Int} {l : List Arc} (h : Full m x) (hl : liveB m l = true) (hf : ∀ a ∈ l, a.f.toNat < m ∧ a.t.toNat < m) : Full m (nArcs x l) := by
  refine ⟨fun i hi => foldl_to x h.1 l _ i (fun a ha => (hf a ha).1) ?_, fun i hi => foldl_none x l _ i (fun a ha => (hf a ha).2) hi rfl⟩
  unfold liveB at hl
  rw [List.all_eq_true] at hl
  exact hl i (List.mem_range.2 hi)
/-- The arcs of a valid graph of m nodes. -/
def NodesOk (m : Nat) (l : List Arc) : Prop := ∀ a ∈ l, (0 ≤ a.f ∧ a.f < m) ∧ (0 ≤ a.t ∧ a.t < m) ∧ -1000000 ≤ a.d ∧ a.d ≤ 1000000
theorem NodesOk.ok {m : Nat} {l : List Arc} (h : NodesOk m l) (hm : m ≤ 16) : ∀ a ∈ l, a.ok := fun a ha => by
  obtain ⟨h1, h2, h3⟩ := h a ha
  exact ⟨⟨h1.1, by omega⟩, ⟨h2.1, by omega⟩, h3⟩
theorem NodesOk.nat {m : Nat} {l : List Arc} (h : NodesOk m l) : ∀ a ∈ l, a.f.toNat < m ∧ a.t.toNat < m := fun a ha => by
  obtain ⟨h1, h2, h3⟩ := h a ha
  omega
theorem it_full {m : Nat} {x : Nat → Option Int} {l : List Arc} (h : Full m x) (hl : liveB m l = true) (hf : NodesOk m l) (hm : m ≤ 16) : ∀ k, Full m (MP.it x (dArcs l) k)
  | 0 => h
  | k + 1 => by
    show Full m (MP.ap (MP.it x (dArcs l) k) (dArcs l))
    rw [← nArcs_ap _ _ (hf.ok hm)]
    exact full_step (it_full h hl hf hm k) hl hf.nat
theorem listOf_small {m : Nat} {x : Nat → Option Int} {b : Int} (hb : 0 ≤ b) (h : ∀ i, MP.Small b (x i)) : ∀ v ∈ listOf m x, -b ≤ v ∧ v ≤ b := fun v hv => by
  unfold listOf at hv
  obtain ⟨i, -, rfl⟩ := List.mem_map.1 hv
  cases hx : x i with
  | none => simp; omega
  | some u => exact h i u hx

theorem out_ints (m : Nat) (x : Nat → Option Int) : outC m x = cellsOf (listOf m x) := rfl

set_option maxHeartbeats 4000000 in
theorem refRun_any (m : Nat) (A : Option Addr) (n c : Nat) (l : List Arc) (X : Option Addr) (cx : Nat) (xs : List Int) (k : Nat) (w : World) (hm : m ≤ 16) (hn : l.length = n) (hbig : n ≤ 1000000) (hA : ArcsAt w A l)
    (hok : NodesOk m l) (hl : liveB m l = true) (hxn : xs.length = m) (hx : Ints w X xs) (hxs : ∀ i, MP.Small 1000000000000 (stOf xs i)) (hk : k ≤ 1000000) :
    Calls Tryz.prog 13 #[.int .i64 (m : Int), .slice A n c, .slice X m cx, .int .i64 (k : Int)] w fun e w' => ∃ X' cx', e = .returned (.slice X' m cx') ∧ Ints w' X' (listOf m (MP.it (stOf xs) (dArcs l) k)) ∧ Below w.heap.size w w' := by
  have HN := Lib.hid hn
  have HA := Lib.hid hA
  have HOK := Lib.hid hok
  have HF : Hid (∀ q, Full m (MP.it (stOf xs) (dArcs l) q)) := Lib.hid fun q => it_full (full_stOf hxn) hl hok hm q
  have HSM : Hid (∀ q : Nat, q ≤ k → ∀ v ∈ listOf m (MP.it (stOf xs) (dArcs l) q), -4000000000000 ≤ v ∧ v ≤ 4000000000000) := Lib.hid fun q hq v hv => by
    have h1 := listOf_small (m := m) (x := MP.it (stOf xs) (dArcs l) q) (b := 1000000000000 + (q : Int) * 1000000) (by omega) (MP.small_it (by omega) hxs (fun i j => dArcs_small (hok.ok hm) i j) q) v hv
    omega
  have HST : Hid (∀ q, nArcs (MP.it (stOf xs) (dArcs l) q) l = MP.it (stOf xs) (dArcs l) (q + 1)) := Lib.hid fun q => nArcs_ap _ _ (hok.ok hm)
  have H0 : Hid (Ints w X (listOf m (MP.it (stOf xs) (dArcs l) 0))) := Lib.hid (by
    show Ints w X (listOf m (stOf xs))
    rw [listOf_stOf hxn]; exact hx)
  clear hn hA hok hxn hx hxs hl
  go_enter Tryz.func13, Tryz.ntmps13
  go_wp2_with fail
  go_loopw [2, 9] (fun x i wr => ∃ (q : Nat) (X' : Option Addr) (cx' : Nat), q ≤ k ∧ i = .int .i64 q ∧ x = .slice X' m cx' ∧ Ints wr X' (listOf m (MP.it (stOf xs) (dArcs l) q)) ∧ Below w.heap.size w wr) (fun _ i _ => k - (intOf i).toNat)
  case atStart => exact ⟨0, X, cx, Nat.zero_le _, rfl, rfl, H0.out, Below.refl _ _⟩
  case round =>
    obtain ⟨q, X', cx', hq, rfl, rfl, hi, hb⟩ := hrel
    have HI := Lib.hid hi
    have HB := Lib.hid hb
    clear hi hb
    by_cases hlt : q < k
    · have K := next_any m A n c l X' cx' (listOf m (MP.it (stOf xs) (dArcs l) q)) wr hm HN.out hbig (fun hne => by
          obtain ⟨b, off, e, h1, h2⟩ := HA.out hne
          exact ⟨b, off, e, Nat.lt_of_lt_of_le h1 HB.out.size, fun j a ha => by
            obtain ⟨q0, q1, q2⟩ := h2 j a ha
            exact ⟨(HB.out.cell (p := ⟨b, _, none⟩) h1).trans q0, (HB.out.cell (p := ⟨b, _, none⟩) h1).trans q1, (HB.out.cell (p := ⟨b, _, none⟩) h1).trans q2⟩⟩) HOK.out (listOf_length _ _) HI.out (HSM.out q hq)
      rw [(HF.out q).back, ] at K
      have HK := Lib.hid K
      clear K
      go_wp2_with (go_at_call 17; refine HK.out.mono ?_; rintro e w' ⟨g, rfl, hg, hbk, hb'⟩; have HBK := Lib.hid hbk; have HB2 := Lib.hid (HB.out.trans (hb'.mono HB.out.size)); clear hbk hb' hg HK)
      go_roundw
      case rel => exact ⟨q + 1, _, _, by omega, by go_num, rfl, by
        have := HBK.out
        rw [HST.out q, out_ints] at this
        exact this.ints, HB2.out⟩
      case measure => simp [intOf]; omega
    · obtain rfl : q = k := by omega
      go_wp2_with fail
      go_ret
      exact ⟨_, _, rfl, HI.out, HB.out⟩
end Go.Proofs.YtddejjilfmphbaaGreatDoor
