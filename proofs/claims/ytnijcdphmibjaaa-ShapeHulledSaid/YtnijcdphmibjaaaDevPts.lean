/- Package shape: which slices are polygons. -/
import Derived.Test.YtnijcdphmibjaaaDevPoly
namespace Go.Proofs.Ytnijcdphmibjaaa
open Go.RowKit Go.Sort
attribute [local go_sem ↓] run_min_mn run_max_mx

/-- A slice reads as a list of points. -/
def PtsAt (w : World) (A : Option Addr) (l : List Pt) : Prop := l ≠ [] → ∃ b off, A = some ⟨b, off, none⟩ ∧ b < w.heap.size ∧ PtsIn w b off l
theorem PtsAt.below {w w' : World} {A : Option Addr} {l : List Pt} (h : PtsAt w A l) (hb : Below w.heap.size w w') : PtsAt w' A l := fun hne => by
  obtain ⟨b, off, e, hlt, hp⟩ := h hne
  exact ⟨b, off, e, Nat.lt_of_lt_of_le hlt hb.size, hp.below hb hlt⟩
theorem PtsAt.belows {w w' : World} {A : Option Addr} {l : List Pt} {B : Nat} (h : PtsAt w A l) (hb : Below B w w') (hB : w.heap.size ≤ B) : PtsAt w' A l := fun hne => by
  obtain ⟨b, off, e, hlt, hp⟩ := h hne
  exact ⟨b, off, e, Nat.lt_of_lt_of_le hlt hb.size, hp.below hb (by omega)⟩
theorem PtsAt.nil (w : World) (A : Option Addr) : PtsAt w A [] := fun h => absurd rfl h

def farP (p : Pt) : Bool := !okP p
def anyFar (l : List Pt) : Bool := l.any farP

theorem isFar_any (x y : Int) (w : World) :
    Calls Try.prog 97 #[.agg #[.int .i64 x, .int .i64 y]] w fun e w' => e = .returned (.bool (farP (x, y))) ∧ Below w.heap.size w w' := by
  have N := fun W => Lib.hid (isNear_any x y 10000 (by omega) W)
  have e : farP (x, y) = !validB x y 10000 := rfl
  have H := Lib.hid e
  clear e
  generalize farP (x, y) = r at *
  generalize validB x y 10000 = v at *
  go_enter Try.func97, Try.ntmps97
  go_wp2_with fail
  refine ((N _).out).mono ?_
  rintro e w1 ⟨rfl, hb⟩
  go_wp2
  go_ret
  exact ⟨ret_bool H.out.symm, (Below.refl _ _).alloc (Nat.le_refl _) _ |>.trans (hb.mono (by simp))⟩

/-- Is one found that is far? -/
def FoundFar (l : List Pt) (w : World) (e : Ending) (w' : World) : Prop := ∃ i : Int, e = .returned (.int .i64 i) ∧ decide (0 ≤ i) = anyFar l ∧ Below w.heap.size w w'

set_option maxHeartbeats 800000 in
theorem indexFar_any (A : Option Addr) (n c : Nat) (l : List Pt) (w : World) (hn : l.length = n) (hbig : n ≤ 1000000) (hx : PtsAt w A l) :
    Calls Try.prog 122 #[.slice A n c, .func (.func 97) #[] #[]] w (FoundFar l w) := by
  have HN := Lib.hid hn
  have HX := Lib.hid hx
  clear hn hx
  go_enter Try.func122, Try.ntmps122
  go_wp2
  go_loopw [8] (fun i wr => ∃ k : Nat, k ≤ n ∧ i = .int .i64 k ∧ anyFar (l.take k) = false ∧ Below w.heap.size w wr) (fun i _ => n - (intOf i).toNat)
  case atStart => exact ⟨0, Nat.zero_le _, rfl, rfl, Below.refl _ _⟩
  case round =>
    obtain ⟨k, hk, rfl, hz, hbw⟩ := hrel
    have HZ := Lib.hid hz
    clear hz
    by_cases hlt : k < n
    · have hl : k < l.length := by have := HN.out; omega
      obtain ⟨b, off, rfl, hbl, hp⟩ := HX.out (by intro e; subst e; simp at hl)
      obtain ⟨h1, h2⟩ := (hp.below hbw hbl) k _ (List.getElem?_eq_getElem hl)
      have hs : anyFar (l.take (k + 1)) = farP l[k] := by
        rw [List.take_succ_eq_append_getElem hl]
        unfold anyFar at *
        rw [List.any_append, HZ.out]; simp
      have hall : farP l[k] = true → anyFar l = true := fun h => by
        unfold anyFar
        exact List.any_eq_true.2 ⟨_, List.getElem_mem hl, h⟩
      have HS := Lib.hid hs
      have HA := Lib.hid hall
      clear hs hall hp
      generalize l[k] = p at *
      obtain ⟨x, y⟩ := p
      have F := fun W => Lib.hid (isFar_any x y W)
      generalize farP (x, y) = r at *
      go_wp2_with fail
      refine ((F _).out).mono ?_
      rintro e w1 ⟨rfl, hb1⟩
      have hbw1 := hbw.trans (hb1.mono hbw.size)
      clear hb1 h1 h2
      cases r
      · go_wp2_with fail
        go_roundw
        case rel => exact ⟨k + 1, by omega, by go_num, HS.out, hbw1⟩
        case measure => simp [intOf]; omega
      · go_wp2_with fail
        go_ret
        exact ⟨_, rfl, by rw [HA.out trivial]; simp, hbw1⟩
    · have hfull : anyFar l = false := by
        have := HZ.out
        rw [List.take_of_length_le (by have := HN.out; omega)] at this
        exact this
      have HF := Lib.hid hfull
      clear hfull
      go_wp2
      go_ret
      exact ⟨_, rfl, by rw [HF.out]; rfl, hbw⟩

theorem containsFar_any (A : Option Addr) (n c : Nat) (l : List Pt) (w : World) (hn : l.length = n) (hbig : n ≤ 1000000) (hx : PtsAt w A l) :
    Calls Try.prog 98 #[.slice A n c, .func (.func 97) #[] #[]] w fun e w' => e = .returned (.bool (anyFar l)) ∧ Below w.heap.size w w' := by
  have K := Lib.hid (indexFar_any A n c l w hn hbig hx)
  clear hn hx
  go_enter Try.func98, Try.ntmps98
  go_wp2_with fail
  refine (K.out).mono ?_
  rintro e w' ⟨i, rfl, hi, hb⟩
  have HI := Lib.hid hi
  clear hi
  go_wp2
  go_ret
  exact ⟨ret_bool HI.out, hb⟩

/-- As many points as a polygon may have, all of them valid. -/
def ptsB (l : List Pt) (least : Nat) : Bool := decide (least ≤ l.length) && decide (l.length ≤ 32) && l.all okP
theorem anyFar_not (l : List Pt) : (!anyFar l) = l.all okP := by
  unfold anyFar
  induction l with
  | nil => rfl
  | cons p l ih => simp only [List.any_cons, List.all_cons, Bool.not_or, ih]; simp [farP]

theorem arePoints_any (A : Option Addr) (n c least : Nat) (l : List Pt) (w : World) (hn : l.length = n) (hbig : n ≤ 1000000) (h1 : least ≤ 100) (hx : PtsAt w A l) :
    Calls Try.prog 71 #[.slice A n c, .int .i64 least] w fun e w' => e = .returned (.bool (ptsB l least)) ∧ Below w.heap.size w w' := by
  have K := Lib.hid (containsFar_any A n c l w hn hbig hx)
  have HS : Hid (ptsB l least = (decide (least ≤ n) && decide (n ≤ 32) && !anyFar l)) := by rw [anyFar_not]; subst hn; exact Lib.hid rfl
  clear hn hx
  generalize ptsB l least = r at *
  generalize anyFar l = f at *
  by_cases g1 : least ≤ n
  · by_cases g2 : n ≤ 32
    · go_enter Try.func71, Try.ntmps71
      go_wp2_with fail
      refine (K.out).mono ?_
      rintro e w' ⟨rfl, hb⟩
      go_wp2
      go_ret
      exact ⟨ret_bool (by rw [HS.out]; simp [g1, g2]), hb⟩
    · go_enter Try.func71, Try.ntmps71
      go_wp2
      go_ret
      exact ⟨ret_bool (by rw [HS.out]; simp; omega), Below.refl _ _⟩
  · go_enter Try.func71, Try.ntmps71
    go_wp2
    go_ret
    exact ⟨ret_bool (by rw [HS.out]; simp; omega), Below.refl _ _⟩

theorem polyB_pts (l : List Pt) : ptsB l 3 = polyB l := by
  rw [Bool.eq_iff_iff]
  simp only [ptsB, polyB, inB, Bool.and_eq_true, decide_eq_true_eq]
  constructor
  · rintro ⟨⟨a, b⟩, c⟩; exact ⟨c, by omega, by omega⟩
  · rintro ⟨c, a, b⟩; exact ⟨⟨by omega, by omega⟩, c⟩

theorem isPolygon_any (A : Option Addr) (n c : Nat) (l : List Pt) (w : World) (hn : l.length = n) (hbig : n ≤ 1000000) (hx : PtsAt w A l) :
    Calls Try.prog 59 #[.slice A n c] w fun e w' => e = .returned (.bool (polyB l)) ∧ Below w.heap.size w w' := by
  have K := Lib.hid (arePoints_any A n c 3 l w hn hbig (by omega) hx)
  rw [polyB_pts] at K
  clear hn hx
  generalize polyB l = r at *
  go_enter Try.func59, Try.ntmps59
  go_wp2_with fail
  refine (K.out).mono ?_
  rintro e w' ⟨rfl, hb⟩
  go_wp2
  go_ret
  exact ⟨rfl, hb⟩

set_option maxHeartbeats 800000 in
theorem area2D_any (b off n c : Nat) (l : List Pt) (w : World) (hl : l.length = n) (hn : 0 < n) (hn' : n ≤ 100) (h : PtsIn w b off l) (hb : b < w.heap.size) (hok : l.all okP = true) :
    Calls Try.prog 60 #[.slice (some ⟨b, off, none⟩) n c] w fun e w' =>
      e = .returned (.int .i64 (area2 l)) ∧ Below w.heap.size w w' := by
  have HE : Hid (area2To l n = area2 l) := Lib.hid (by rw [← hl]; rfl)
  have HP := Lib.hid h
  have HL := Lib.hid hl
  have HOK := Lib.hid hok
  clear h hl hok
  go_enter Try.func60, Try.ntmps60
  go_wp2
  go_loopw [3, 7] (fun s i wr => ∃ k : Nat, k ≤ n ∧ i = .int .i64 k ∧ s = .int .i64 (area2To l k) ∧ Below w.heap.size w wr) (fun _ i _ => n - (intOf i).toNat)
  case atStart => exact ⟨0, Nat.zero_le _, rfl, rfl, Below.refl _ _⟩
  case round =>
    obtain ⟨k, hk, rfl, rfl, hbw⟩ := hrel
    by_cases hlt : k < n
    · have N := fun W hW => Lib.hid (edge_any b off n c l k W HL.out hn (by omega) (by omega) ((HP.out.below hbw hb).below (B := wr.heap.size) hW (Nat.lt_of_lt_of_le hb hbw.size)))
      rw [Nat.mod_eq_of_lt hlt] at N
      have e1 : area2To l (k + 1) = area2To l k + ((gt l k).1 * (nx l k).2 - (nx l k).1 * (gt l k).2) := rfl
      have okp : okP (gt l k) = true := getD_ok HOK.out k
      have okq := nx_ok HOK.out k
      have sb := area2To_bd HOK.out k
      have tb := term_bd okp okq
      have E1 := Lib.hid e1
      obtain ⟨x1, x2⟩ := okP_bd okp
      obtain ⟨x3, x4⟩ := okP_bd okq
      clear e1 okp okq
      generalize nx l k = q at *
      generalize gt l k = p at *
      generalize area2To l k = s at *
      obtain ⟨x, y⟩ := p
      obtain ⟨qx, qy⟩ := q
      have C := fun W => Lib.hid (crossD_any x y qx qy W (by omega) (by omega) (by omega) (by omega))
      go_wp2_with fail
      refine ((N _ (Below.refl _ _)).out).mono ?_
      rintro e w1 ⟨rfl, hb1⟩
      have hbw1 := hbw.trans (hb1.mono hbw.size)
      clear N hb1
      go_wp2_with fail
      refine ((C _).out).mono ?_
      rintro e w2 ⟨rfl, hb2⟩
      have hbw2 := hbw1.trans (hb2.mono hbw1.size)
      generalize x * qy - qx * y = t at *
      go_wp2_with fail
      go_roundw
      case rel => exact ⟨k + 1, by omega, by go_num, by rw [E1.out], hbw2⟩
      case measure => simp [intOf]; omega
    · obtain rfl : k = n := by omega
      go_wp2
      go_ret
      exact ⟨ret_int HE.out, hbw⟩
end Go.Proofs.Ytnijcdphmibjaaa
