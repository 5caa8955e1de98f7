/- The exported Run. -/
import Derived.Test.YtddejjilfmphbaaGreatDoorLive
import Derived.Test.YtddejjilfmphbaaGreatDoorRun
import Derived.Test.YtddejjilfmphbaaGreatDoorState
import Derived.Test.YtddejjilfmphbaaGreatDoorNewState
namespace Go.Proofs.YtddejjilfmphbaaGreatDoor
open Go.RowKit Go.Sort

theorem arc_ok {gn : Int} (h16 : gn ≤ 16) {a : Arc} (h : wrongA gn a = false) : a.ok := by
  unfold wrongA nodeB at h
  simp only [Bool.or_eq_false_iff, Bool.not_eq_false', decide_eq_true_eq, decide_eq_false_iff_not] at h
  obtain ⟨⟨⟨h1, h2⟩, h3⟩, h4⟩ := h
  exact ⟨⟨h1.1, by omega⟩, ⟨h2.1, by omega⟩, by omega, by omega⟩
theorem graphB_ok {gn : Int} {l : List Arc} (h : graphB gn l = true) : (1 ≤ gn ∧ gn ≤ 16 ∧ l.length ≤ 256) ∧ ∀ a ∈ l, a.ok := by
  unfold graphB at h
  simp only [Bool.and_eq_true, decide_eq_true_eq, Bool.not_eq_true'] at h
  refine ⟨h.1, fun a ha => arc_ok h.1.2.1 ?_⟩
  have h2 := h.2
  unfold anyWrong at h2
  rw [List.any_eq_false] at h2
  simpa using h2 a ha
theorem stateB_ok {gn : Int} {xs : List Int} (h : stateB gn xs = true) : (xs.length : Int) = gn ∧ ∀ i, MP.Small 1000000000000 (stOf xs i) := by
  unfold stateB at h
  simp only [Bool.and_eq_true, decide_eq_true_eq, Bool.not_eq_true'] at h
  refine ⟨h.1, fun i v hv => ?_⟩
  have h2 := h.2
  unfold anyFar at h2
  rw [List.any_eq_false] at h2
  have h3 := h2 v (List.mem_of_getElem? hv)
  unfold farB at h3
  simp only [decide_eq_true_eq] at h3
  omega

/-- What Run says. -/
def lrunE (gn : Int) (l : List Arc) (xs : List Int) (k : Int) : Int := if graphB gn l = true ∧ stateB gn xs = true ∧ 0 ≤ k ∧ k ≤ 1000000000 then (if liveB gn.toNat l = true then 0 else 2) else 1
def LRunTo (gn : Int) (l : List Arc) (xs : List Int) (k : Int) (w : World) (e : Ending) (w' : World) : Prop :=
  Below w.heap.size w w' ∧ ((lrunE gn l xs k ≠ 0 ∧ e = .returned (.tuple #[.slice none 0 0, .int .i64 (lrunE gn l xs k)])) ∨
    (lrunE gn l xs k = 0 ∧ ∃ v, e = .returned (.tuple #[v, .int .i64 0]) ∧ Own w' w.heap.size v ((List.range gn.toNat).map fun i => MP.enc (MP.it (stOf xs) (dArcs l) k.toNat i))))

/-- What the last statement's memory holds. -/
structure LrS (w : World) (g : Nat) (gn : Int) (A : Option Addr) (n c : Nat) (l : List Arc) (X : Option Addr) (xs : List Int) (w' : World) : Prop where
  blk : Blk w' g 45 #[.int .i64 gn, .slice A n c]
  lt : w.heap.size ≤ g
  below : Below w.heap.size w w'
  arcs : ArcsAt w' A l
  ints : Ints w' X xs
theorem LrS.call {w w' w'' : World} {g : Nat} {gn : Int} {A : Option Addr} {n c : Nat} {l : List Arc} {X : Option Addr} {xs : List Int} (h : LrS w g gn A n c l X xs w') (hb : Below w'.heap.size w' w'') : LrS w g gn A n c l X xs w'' :=
  ⟨h.blk.below hb h.blk.lt, h.lt, h.below.trans (hb.mono (by have := h.blk.lt; have := h.lt; omega)), h.arcs.below hb, h.ints.below hb⟩
def LrA (w : World) (g : Nat) (gn : Int) (A : Option Addr) (n c : Nat) (l : List Arc) (X : Option Addr) (xs : List Int) (w' : World) : Prop :=
  LrS w g gn A n c l X xs w' ∧ w'.cell? ⟨g, 0, none⟩ = some (.int .i64 gn) ∧ w'.cell? ⟨g, 1, none⟩ = some (.slice A n c)
theorem LrS.all {w w' : World} {g : Nat} {gn : Int} {A : Option Addr} {n c : Nat} {l : List Arc} {X : Option Addr} {xs : List Int} (h : LrS w g gn A n c l X xs w') : LrS w g gn A n c l X xs w' ∧ w'.cell? ⟨g, 0, none⟩ = some (.int .i64 gn) ∧ w'.cell? ⟨g, 1, none⟩ = some (.slice A n c) :=
  ⟨h, by rw [h.blk.cell]; rfl, by rw [h.blk.cell]; rfl⟩
theorem lr_drew {w w' : World} {g : Nat} {gn : Int} {A : Option Addr} {n c : Nat} {l : List Arc} {X : Option Addr} {xs : List Int} (p : LrS w g gn A n c l X xs w' ∧ w'.cell? ⟨g, 0, none⟩ = some (.int .i64 gn) ∧ w'.cell? ⟨g, 1, none⟩ = some (.slice A n c)) : LrS w g gn A n c l X xs w'.drew ∧ w'.drew.cell? ⟨g, 0, none⟩ = some (.int .i64 gn) ∧ w'.drew.cell? ⟨g, 1, none⟩ = some (.slice A n c) :=
  (p.1.call (Below.refl _ _).drew).all

set_option maxRecDepth 100000 in
set_option maxHeartbeats 8000000 in
theorem lineRun_any (gn k : Int) (A : Option Addr) (n c : Nat) (l : List Arc) (X : Option Addr) (nx cx : Nat) (xs : List Int) (w : World) (hn : l.length = n) (hbig : n ≤ 1000000) (hA : ArcsAt w A l) (hxn : xs.length = nx) (hxb : nx ≤ 1000000000000) (hx : Ints w X xs) :
    Calls Tryz.prog 7 #[.int .i64 gn, .slice A n c, .slice X nx cx, .int .i64 k] w (LRunTo gn l xs k w) := by
  have KG : Hid (Calls Tryz.prog 18 #[.int .i64 gn, .slice A n c] w (GraphTo gn A n c l w)) := Lib.hid (newGraph_any gn A n c l w hn hbig hA)
  have HN := Lib.hid hn
  have HA := Lib.hid hA
  have HXN := Lib.hid hxn
  have HX := Lib.hid hx
  have BAD : Hid (¬ (graphB gn l = true ∧ stateB gn xs = true ∧ 0 ≤ k ∧ k ≤ 1000000000) → lrunE gn l xs k = 1) := Lib.hid fun h => by unfold lrunE; rw [if_neg h]
  clear hn hA hxn hx
  go_enter Tryz.func7, Tryz.ntmps7
  go_wp2_with fail
  refine KG.out.mono ?_
  rintro e w2 ⟨rfl, hb2⟩
  have HB2 := Lib.hid hb2
  clear hb2 KG
  by_cases hg : graphB gn l = true
  case neg =>
    have E := Lib.hid (BAD.out fun h => hg h.1)
    rw [if_neg hg]
    clear hg BAD
    go_upto_region 2 with (fail)
    have HB3 : Hid (Below w.heap.size w (w2.alloc (.cells #[.int .i64 0, .slice none 0 0] 45))) := Lib.hid (HB2.out.alloc HB2.out.size _)
    generalize (w2.alloc (.cells #[.int .i64 0, .slice none 0 0] 45)) = w3 at *
    go_wp2_with fail
    go_ret2
    exact ⟨HB3.out, .inl ⟨by rw [E.out]; decide, by rw [E.out]; rfl⟩⟩
  rw [if_pos hg]
  have HG := Lib.hid hg
  clear hg
  go_upto_region 2 with (fail)
  have HL : Hid (LrS w w2.heap.size gn A n c l X xs (w2.alloc (.cells #[.int .i64 gn, .slice A n c] 45))) := Lib.hid (by
    have hb := HB2.out.alloc HB2.out.size (.cells #[.int .i64 gn, .slice A n c] 45)
    exact ⟨Blk.new w2 _ _, HB2.out.size, hb, HA.out.below hb, HX.out.below hb⟩)
  generalize (w2.alloc (.cells #[.int .i64 gn, .slice A n c] 45)) = w3 at *
  generalize w2.heap.size = g at *
  obtain ⟨-, k0, k1⟩ := HL.out.all
  go_wp2_with fail
  refine (isState_any gn A n c X nx cx xs w3 HXN.out hxb HL.out.ints).mono ?_
  rintro e w4 ⟨rfl, hb4⟩
  have HL4 := Lib.hid (HL.out.call hb4)
  clear hb4 HL k0 k1
  by_cases hs : stateB gn xs = true
  case neg =>
    have E := Lib.hid (BAD.out fun h => hs h.2.1)
    have hs2 : stateB gn xs = false := by simpa using hs
    rw [hs2]
    clear hs hs2 BAD
    go_wp2_with fail
    go_ret2
    exact ⟨HL4.out.below, .inl ⟨by rw [E.out]; decide, by rw [E.out]; rfl⟩⟩
  rw [hs]
  have HS := Lib.hid hs
  clear hs
  by_cases h1 : k < 0
  · have E := Lib.hid (BAD.out fun h => by omega)
    clear BAD
    go_wp2_with fail
    go_ret2
    exact ⟨HL4.out.below, .inl ⟨by rw [E.out]; decide, by rw [E.out]; rfl⟩⟩
  by_cases h2 : 1000000000 < k
  · have E := Lib.hid (BAD.out fun h => by omega)
    clear BAD
    go_wp2_with fail
    go_ret2
    exact ⟨HL4.out.below, .inl ⟨by rw [E.out]; decide, by rw [E.out]; rfl⟩⟩
  have GOOD : Hid (lrunE gn l xs k = if liveB gn.toNat l = true then 0 else 2) := Lib.hid (by unfold lrunE; rw [if_pos ⟨HG.out, HS.out, by omega, by omega⟩])
  obtain ⟨⟨hg1, hg2, hg3⟩, hok⟩ := graphB_ok HG.out
  obtain ⟨hlen, hsm⟩ := stateB_ok HS.out
  have HOK := Lib.hid hok
  have HSM := Lib.hid hsm
  have HLEN := Lib.hid hlen
  have HN256 : Hid (n ≤ 256) := Lib.hid (by rw [← HN.out]; exact hg3)
  clear hok hsm hlen hg3 BAD
  obtain ⟨m, rfl⟩ : ∃ m : Nat, gn = (m : Int) := ⟨gn.toNat, by omega⟩
  obtain ⟨kk, rfl⟩ : ∃ kk : Nat, k = (kk : Int) := ⟨k.toNat, by omega⟩
  obtain ⟨-, k0, k1⟩ := HL4.out.all
  go_wp2_with fail
  refine (isLive_any m A n c l w4 (by omega) HN.out HN256.out HL4.out.arcs).mono ?_
  rintro e w5 ⟨rfl, hb5⟩
  have HL5 := Lib.hid (HL4.out.call hb5)
  clear hb5 HL4 k0 k1
  by_cases hl : liveB m l = true
  case neg =>
    have E : Hid (lrunE m l xs kk = 2) := Lib.hid (by rw [GOOD.out, Int.toNat_natCast, if_neg hl])
    have hl2 : liveB m l = false := by simpa using hl
    rw [hl2]
    clear hl hl2 GOOD
    go_wp2_with fail
    go_ret2
    exact ⟨HL5.out.below, .inl ⟨by rw [E.out]; decide, by rw [E.out]; rfl⟩⟩
  have E : Hid (lrunE m l xs kk = 0) := Lib.hid (by rw [GOOD.out, Int.toNat_natCast, if_pos hl])
  rw [hl]
  clear hl GOOD
  have H1 := HL5.out.all
  have HNX : Hid (nx ≤ 16) := Lib.hid (by have := HLEN.out; have := HXN.out; omega)
  go_upto_region 6 with (fail)
  go_region_held3 (fun w' => LrS w g m A n c l X xs w' ∧ w'.cell? ⟨g, 0, none⟩ = some (.int .i64 m) ∧ w'.cell? ⟨g, 1, none⟩ = some (.slice A n c))
    (first | assumption | (with_reducible exact H1) | (with_reducible exact hS) | exact lr_drew H1 | exact lr_drew (by assumption))
    (first | ((go_at_call 22; (with_reducible refine (newState_any X nx cx xs _ HXN.out HNX.out (LrS.ints (w := w) (And.left (by assumption)))).mono ?_); rintro e w' ⟨rfl, hb'⟩; have hS := (LrS.call (w := w) (And.left (by assumption)) hb').all)) | ((go_at_call 21; (with_reducible refine (run_any m A n c l (stOf xs) kk _ HN.out HN256.out (LrS.arcs (w := w) (And.left (by assumption))) HOK.out (fun i => (HSM.out i).mono (by omega)) (by omega)).mono ?_); rintro e w' ⟨rfl, hb'⟩; have hS := (LrS.call (w := w) (And.left (by assumption)) hb').all)) | ((go_at_call 23; (with_reducible refine (list_any _ m _ (by omega)).mono ?_); rintro e w' ⟨v, rfl, hv, hb'⟩; have hO := Own.lower hv (LrS.below (w := w) (And.left (by assumption))).size; have hS := (LrS.call (w := w) (And.left (by assumption)) hb').all)))
  go_wp2_with fail
  go_ret2
  exact ⟨hS.1.below, .inr ⟨E.out, v, rfl, hO⟩⟩
end Go.Proofs.YtddejjilfmphbaaGreatDoor
