/- Valid graphs. -/
import Derived.Test.YtddejjilfmphbaaGreatDoorState
namespace Go.Proofs.YtddejjilfmphbaaGreatDoor
open Go.RowKit Go.Sort

def nodeB (gn x : Int) : Bool := decide (0 ≤ x ∧ x < gn)
def wrongA (gn : Int) (a : Arc) : Bool := !nodeB gn a.f || !nodeB gn a.t || decide (a.d < -1000000) || decide (1000000 < a.d)
def anyWrong (gn : Int) (l : List Arc) : Bool := l.any (wrongA gn)

theorem node_any (gn x : Int) (g : Nat) (w : World) (hc : w.cell? ⟨g, 0, none⟩ = some (.int .i64 gn)) :
    Calls Tryz.prog 28 #[.int .i64 x, .pointer (some ⟨g, 0, none⟩)] w fun e w' => e = .returned (.bool (nodeB gn x)) ∧ w = w' := by
  by_cases h : 0 ≤ x
  · by_cases h2 : x < gn
    · go_enter Tryz.func28, Tryz.ntmps28
      go_wp2
      go_ret
      exact ⟨ret_bool (by simp [nodeB]; omega), rfl⟩
    · go_enter Tryz.func28, Tryz.ntmps28
      go_wp2
      go_ret
      exact ⟨ret_bool (by simp [nodeB]; omega), rfl⟩
  · go_enter Tryz.func28, Tryz.ntmps28
    go_wp2
    go_ret
    exact ⟨ret_bool (by simp [nodeB]; omega), rfl⟩

/-- The closures' own cells. -/
def Caps (w : World) (gn : Int) (g0 g1 : Nat) : Prop := w.cell? ⟨g0, 0, none⟩ = some (.int .i64 gn) ∧ w.cell? ⟨g1, 0, none⟩ = some (.func (.func 28) #[] #[.pointer (some ⟨g0, 0, none⟩)]) ∧ g0 < w.heap.size ∧ g1 < w.heap.size
theorem Caps.below {w w' : World} {gn : Int} {g0 g1 : Nat} (h : Caps w gn g0 g1) (hb : Below w.heap.size w w') : Caps w' gn g0 g1 :=
  ⟨(hb.cell (p := ⟨g0, 0, none⟩) h.2.2.1).trans h.1, (hb.cell (p := ⟨g1, 0, none⟩) h.2.2.2).trans h.2.1, Nat.lt_of_lt_of_le h.2.2.1 hb.size, Nat.lt_of_lt_of_le h.2.2.2 hb.size⟩

set_option maxHeartbeats 4000000 in
theorem wrongArc_any (gn : Int) (a : Arc) (g0 g1 : Nat) (w : World) (hc : Caps w gn g0 g1) :
    Calls Tryz.prog 29 #[.agg #[.int .i64 a.f, .int .i64 a.t, .int .i64 a.d], .pointer (some ⟨g1, 0, none⟩)] w fun e w' => e = .returned (.bool (wrongA gn a)) ∧ Below w.heap.size w w' := by
  obtain ⟨f, t, d⟩ := a
  have hba : Below w.heap.size w (w.alloc (.cells #[.int .i64 f, .int .i64 t, .int .i64 d] 56)) := (Below.refl _ _).alloc (Nat.le_refl _) _
  have HC := Lib.hid (hc.below hba)
  have HB := Lib.hid hba
  have hl0 := hc.2.2.2
  have c1 := hc.2.1
  have hz : ¬ w.heap.size = g1 := by omega
  have K := fun x => Lib.hid (node_any gn x g0 (w.alloc (.cells #[.int .i64 f, .int .i64 t, .int .i64 d] 56)) HC.out.1)
  clear hc hba
  have HW : Hid (wrongA gn ⟨f, t, d⟩ = (!nodeB gn f || !nodeB gn t || decide (d < -1000000) || decide (1000000 < d))) := Lib.hid rfl
  cases h1 : nodeB gn f with
  | false =>
    have H1 := Lib.hid h1
    clear h1
    go_enter Tryz.func29, Tryz.ntmps29
    go_wp2_with (go_at_call 28; refine ((K _).out).mono ?_; rintro e w' ⟨rfl, rfl⟩; rw [H1.out])
    go_ret
    exact ⟨ret_bool (by rw [HW.out, H1.out]; rfl), HB.out⟩
  | true =>
    have H1 := Lib.hid h1
    clear h1
    cases h2 : nodeB gn t with
    | false =>
      have H2 := Lib.hid h2
      clear h2
      go_enter Tryz.func29, Tryz.ntmps29
      go_wp2_with (go_at_call 28; refine ((K _).out).mono ?_; rintro e w' ⟨rfl, rfl⟩; first | rw [H1.out] | rw [H2.out])
      go_ret
      exact ⟨ret_bool (by rw [HW.out, H1.out, H2.out]; rfl), HB.out⟩
    | true =>
      have H2 := Lib.hid h2
      clear h2
      by_cases h3 : d < -1000000
      · go_enter Tryz.func29, Tryz.ntmps29
        go_wp2_with (go_at_call 28; refine ((K _).out).mono ?_; rintro e w' ⟨rfl, rfl⟩; first | rw [H1.out] | rw [H2.out])
        go_ret
        exact ⟨ret_bool (by rw [HW.out, H1.out, H2.out]; simp <;> omega), HB.out⟩
      · by_cases h4 : 1000000 < d
        · go_enter Tryz.func29, Tryz.ntmps29
          go_wp2_with (go_at_call 28; refine ((K _).out).mono ?_; rintro e w' ⟨rfl, rfl⟩; first | rw [H1.out] | rw [H2.out])
          go_ret
          exact ⟨ret_bool (by rw [HW.out, H1.out, H2.out]; simp <;> omega), HB.out⟩
        · go_enter Tryz.func29, Tryz.ntmps29
          go_wp2_with (go_at_call 28; refine ((K _).out).mono ?_; rintro e w' ⟨rfl, rfl⟩; first | rw [H1.out] | rw [H2.out])
          go_ret
          exact ⟨ret_bool (by rw [HW.out, H1.out, H2.out]; simp <;> omega), HB.out⟩

def FoundW (gn : Int) (l : List Arc) (w : World) (e : Ending) (w' : World) : Prop := ∃ i : Int, e = .returned (.int .i64 i) ∧ decide (0 ≤ i) = anyWrong gn l ∧ Below w.heap.size w w'

set_option maxHeartbeats 4000000 in
theorem indexWrong_any (gn : Int) (g0 g1 : Nat) (A : Option Addr) (n c : Nat) (l : List Arc) (w : World) (hn : l.length = n) (hbig : n ≤ 1000000) (hA : ArcsAt w A l) (hc : Caps w gn g0 g1) :
    Calls Tryz.prog 43 #[.slice A n c, .func (.func 29) #[] #[.pointer (some ⟨g1, 0, none⟩)]] w (FoundW gn l w) := by
  have HN := Lib.hid hn
  have HX := Lib.hid hA
  have HC := Lib.hid hc
  clear hn hA hc
  go_enter Tryz.func43, Tryz.ntmps43
  go_wp2
  go_loopw [8] (fun i wr => ∃ k : Nat, k ≤ n ∧ i = .int .i64 k ∧ anyWrong gn (l.take k) = false ∧ Below w.heap.size w wr) (fun i _ => n - (intOf i).toNat)
  case atStart => exact ⟨0, Nat.zero_le _, rfl, rfl, Below.refl _ _⟩
  case round =>
    obtain ⟨k, hk, rfl, hz, hbw⟩ := hrel
    have HZ := Lib.hid hz
    clear hz
    by_cases hlt : k < n
    · have hl : k < l.length := by have := HN.out; omega
      obtain ⟨b, off, rfl, hbl, hps⟩ := HX.out (by intro e; subst e; simp at hl)
      obtain ⟨q0, q1, q2⟩ := hps k _ (List.getElem?_eq_getElem hl)
      replace q0 := (hbw.cell (p := ⟨b, _, none⟩) hbl).trans q0
      replace q1 := (hbw.cell (p := ⟨b, _, none⟩) hbl).trans q1
      replace q2 := (hbw.cell (p := ⟨b, _, none⟩) hbl).trans q2
      have hs : anyWrong gn (l.take (k + 1)) = wrongA gn l[k] := by
        rw [List.take_succ_eq_append_getElem hl]
        unfold anyWrong at *
        rw [List.any_append, HZ.out]; simp
      have hall : wrongA gn l[k] = true → anyWrong gn l = true := fun h => by
        unfold anyWrong
        exact List.any_eq_true.2 ⟨_, List.getElem_mem hl, h⟩
      have HS := Lib.hid hs
      have HA := Lib.hid hall
      have HBW := Lib.hid hbw
      have F : ∀ w1, Below wr.heap.size wr w1 → Hid _ := fun w1 h1 => Lib.hid (wrongArc_any gn l[k] g0 g1 w1 ((HC.out.below hbw).below h1))
      have FF := Lib.hid F
      clear hs hall hps F hbw
      generalize l[k] = a at *
      go_wp2_with fail
      refine (FF.out _ (by first | exact Below.refl _ _ | exact (Below.refl _ _).alloc (Nat.le_refl _) _)).out.mono ?_
      rintro e w1 ⟨rfl, hb1⟩
      have HB1 := Lib.hid (HBW.out.trans (hb1.mono (by first | exact HBW.out.size | (have := HBW.out.size; simp; omega))))
      clear hb1 q0 q1 q2 FF HBW
      generalize wrongA gn a = r at *
      cases r
      · go_wp2_with fail
        go_roundw
        case rel => exact ⟨k + 1, by omega, by go_num, HS.out, HB1.out⟩
        case measure => simp [intOf]; omega
      · go_wp2_with fail
        go_ret
        exact ⟨_, rfl, by rw [HA.out trivial]; simp, HB1.out⟩
    · have hfull : anyWrong gn l = false := by
        have := HZ.out
        rw [List.take_of_length_le (by have := HN.out; omega)] at this
        exact this
      have HF := Lib.hid hfull
      clear hfull
      go_wp2
      go_ret
      exact ⟨_, rfl, by rw [HF.out]; rfl, hbw⟩

theorem containsWrong_any (gn : Int) (g0 g1 : Nat) (A : Option Addr) (n c : Nat) (l : List Arc) (w : World) (hn : l.length = n) (hbig : n ≤ 1000000) (hA : ArcsAt w A l) (hc : Caps w gn g0 g1) :
    Calls Tryz.prog 30 #[.slice A n c, .func (.func 29) #[] #[.pointer (some ⟨g1, 0, none⟩)]] w fun e w' => e = .returned (.bool (anyWrong gn l)) ∧ Below w.heap.size w w' := by
  have K := Lib.hid (indexWrong_any gn g0 g1 A n c l w hn hbig hA hc)
  clear hn hA hc
  go_enter Tryz.func30, Tryz.ntmps30
  go_wp2_with fail
  refine (K.out).mono ?_
  rintro e w' ⟨i, rfl, hi, hb⟩
  have HI := Lib.hid hi
  clear hi
  go_wp2
  go_ret
  exact ⟨ret_bool HI.out, hb⟩

end Go.Proofs.YtddejjilfmphbaaGreatDoor
