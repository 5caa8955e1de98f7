/- Parts of the proof, one after the other: PlRow, NoFits, SumDev, NegDev, BoxDev, Place, NestDev, PickMath, Span. -/
import Derived.Test.YtffjonpajjioaaaTp3
import Derived.Test.YtffjonpajjioaaaTp4
import Derived.Test.YtffjonpajjioaaaTp2
import Derived.Test.YtffjonpajjioaaaTp1
/- Lists of placed shapes in slices of a call's own. -/
namespace Go.Proofs.Ytffjonpajjioaaa
open Go.RowKit Go.Sort

def plV : List (Nat × Pt) → List Value
  | [] => []
  | x :: l => .int .i64 (x.1 : Nat) :: .int .i64 x.2.1 :: .int .i64 x.2.2 :: plV l
theorem plV_length : ∀ l, (plV l).length = l.length * 3
  | [] => rfl
  | p :: l => by simp only [plV, List.length_cons, plV_length l]; omega
theorem plV_append : ∀ a b, plV (a ++ b) = plV a ++ plV b
  | [], _ => rfl
  | p :: a, b => by simp only [plV, List.cons_append, plV_append a b]

def PlOwn (w : World) (base : Nat) (v : Value) (l : List (Nat × Pt)) : Prop := w.ownsRow base 34 3 v l.length (plV l)
theorem PlOwn.nil (w : World) (base : Nat) : PlOwn w base (.slice none 0 0) [] := World.ownsRow_nil _ _ _ _
theorem PlOwn.empty (w : World) : PlOwn (w.alloc (.cells #[] 34)) w.heap.size (.slice (some ⟨w.heap.size, 0, none⟩) 0 0) [] := World.ownsRow_made w #[] 0 (Nat.le_refl _) (by simp [maxLen]) rfl
theorem PlOwn.low {w : World} {base base' : Nat} {v : Value} {l : List (Nat × Pt)} (h : PlOwn w base v l) (hb : base' ≤ base) : PlOwn w base' v l := by
  refine ⟨h.1, ?_⟩
  rcases h.2 with h2 | ⟨g, cap, cur, e, hg, r⟩
  · exact .inl h2
  · exact .inr ⟨g, cap, cur, e, Nat.le_trans hb hg, r⟩
theorem PlOwn.base {w : World} {base : Nat} {v : Value} {l : List (Nat × Pt)} (h : PlOwn w base v l) : ∀ k, v.ownBlock = some k → base ≤ k ∧ k < w.heap.size := World.ownsRow.lt h
theorem PlOwn.typed {w : World} {base : Nat} {v : Value} {l : List (Nat × Pt)} (h : PlOwn w base v l) : ∀ k, v.ownBlock = some k → ∃ cur, w.heap[k]? = some (.cells cur 34 (0, 0)) := fun k hk => by
  rcases h.2 with ⟨rfl, -⟩ | ⟨g, cap, cur, rfl, _, hg, _⟩
  · simp [Value.ownBlock] at hk
  · simp [Value.ownBlock] at hk
    subst hk
    exact ⟨_, hg⟩
theorem PlOwn.kept {w w' : World} {base : Nat} {v : Value} {l : List (Nat × Pt)} {row : Option Nat} (h : PlOwn w base v l) (hg : w.grownBy w' row)
    (hne : ∀ k cur, row = some k → w.heap[k]? ≠ some (.cells cur 34 (0, 0))) : PlOwn w' base v l := by
  refine World.ownsRow.kept h hg ?_
  cases e : v.ownBlock with
  | none => exact .inl rfl
  | some k =>
    refine .inr fun e2 => ?_
    obtain ⟨cur, hc⟩ := h.typed k e
    exact hne k cur e2.symm hc
theorem PlOwn.belows {w w' : World} {base : Nat} {v : Value} {l : List (Nat × Pt)} (h : PlOwn w base v l) (hb : Below w.heap.size w w') : PlOwn w' base v l :=
  h.kept (row := none) ⟨hb.os, hb.tape, hb.output, hb.size, fun i hi _ => hb.block i hi⟩ (fun k cur e => by cases e)
/-- Polygons stay behind an append to placed shapes, and these behind one to polygons. -/
theorem PolysOwn.beside {w w' : World} {base base' : Nat} {v u : Value} {L : List (List Pt)} {l : List (Nat × Pt)} (h : PolysOwn w base v L) (k : PlOwn w base' u l) (hg : w.grownBy w' u.ownBlock) : PolysOwn w' base v L :=
  h.kept hg fun j cur e => by
    obtain ⟨cur', hc⟩ := k.typed j e
    rw [hc]
    constructor <;> simp
theorem PlOwn.beside {w w' : World} {base base' : Nat} {v u : Value} {L : List (List Pt)} {l : List (Nat × Pt)} (k : PlOwn w base' u l) (h : PolysOwn w base v L) (hg : w.grownBy w' v.ownBlock) : PlOwn w' base' u l :=
  k.kept hg fun j cur e => by
    obtain ⟨cur', hc⟩ := h.typed j e
    rw [hc]
    simp
theorem PtsTy.beside {w w' : World} {A : Option Addr} {base : Nat} {u : Value} {p : List Pt} {l : List (Nat × Pt)} (h : PtsTy w A p) (k : PlOwn w base u l) (hg : w.grownBy w' u.ownBlock) : PtsTy w' A p :=
  h.kept hg fun j cur e => by
    obtain ⟨cur', hc⟩ := k.typed j e
    rw [hc]
    simp

theorem info_pl : (Try.prog.info? 34).map (fun i => (i.zero, i.size, i.bytes)) = some (some (.agg #[.int .i64 0, .int .i64 0, .int .i64 0]), 3, 24) := by kernel_rfl

/-- An append of one placed shape. -/
theorem placed_run {w : World} {base : Nat} {v : Value} {l : List (Nat × Pt)} (h : PlOwn w base v l) {b i : Nat} {x y : Int} (h0 : w.cell? ⟨b, 0, none⟩ = some (.int .i64 (i : Nat))) (h1 : w.cell? ⟨b, 1, none⟩ = some (.int .i64 x)) (h2 : w.cell? ⟨b, 2, none⟩ = some (.int .i64 y))
    (hlen : l.length + 1 ≤ 100000) (hb : base ≤ w.heap.size) (ty : TypeId) :
    ∃ v' w', (Builtin.append_ #[28, 28] ty #[v, .slice (some ⟨b, 0, none⟩) 1 1]).run Try.prog w = .ok v' w' ∧ PlOwn w' base v' (l ++ [(i, (x, y))]) ∧ w.grownBy w' v.ownBlock ∧
      (v'.ownBlock = v.ownBlock ∨ v'.ownBlock = some w.heap.size) := by
  obtain ⟨i0, hi0, hz0, hz1, hz2⟩ := info_pparts info_pl
  obtain ⟨v', w', hr, h4, h5, _, h6⟩ := run_append_own_at (P := Try.prog) w base 28 ty 34 i0 _ 3 24 Try.underlying28 hi0 hz0 hz1 hz2 rfl (by omega) v l.length (plV l) h ⟨b, 0, none⟩ 1 1 [.int .i64 (i : Nat), .int .i64 x, .int .i64 y] rfl
    (fun j u hu => by
      match j, hu with
      | 0, hu => obtain rfl : Value.int .i64 (i : Nat) = u := by simpa using hu
                 exact h0
      | 1, hu => obtain rfl : Value.int .i64 x = u := by simpa using hu
                 exact h1
      | 2, hu => obtain rfl : Value.int .i64 y = u := by simpa using hu
                 exact h2)
    (fun u hu => by
      simp only [List.mem_cons, List.not_mem_nil, or_false] at hu
      rcases hu with rfl | rfl | rfl <;> rfl) (by simp [maxLen]; omega) (by omega) hb
  refine ⟨v', w', hr, ?_, h5, h6⟩
  unfold PlOwn
  rw [plV_append, List.length_append]
  exact h4

theorem wpList_placed {w : World} {ops : Array Oper} {rest : List Oper} {o : Oper} {a : Act} {Q : Exit → Act → World → Prop} (hgd : o.guard = none) (s x : Operand)
    (ho : o.op = .call { callee := .builtin .append, args := #[s, x], argTypes := #[28, 28] }) (base : Nat) (v : Value) (l : List (Nat × Pt)) (b i : Nat) (px py : Int)
    (hs : a.eval s = v) (hx : a.eval x = .slice (some ⟨b, 0, none⟩) 1 1) (hown : PlOwn w base v l) (h0 : w.cell? ⟨b, 0, none⟩ = some (.int .i64 (i : Nat))) (h1 : w.cell? ⟨b, 1, none⟩ = some (.int .i64 px)) (h2 : w.cell? ⟨b, 2, none⟩ = some (.int .i64 py)) (hlen : l.length + 1 ≤ 100000) (hb : base ≤ w.heap.size)
    (h : ∀ v' w', PlOwn w' base v' (l ++ [(i, (px, py))]) → w.grownBy w' v.ownBlock → (v'.ownBlock = v.ownBlock ∨ v'.ownBlock = some w.heap.size) → wpList Try.prog ops Q rest (a.put o.dst v') w') : wpList Try.prog ops Q (o :: rest) a w :=
  wpList_plain hgd fun _ hK => by
    obtain ⟨v', w', hr, h3, h4, h5⟩ := placed_run hown h0 h1 h2 hlen hb o.type
    unfold Oper.wp execOp
    simp only [ho, resolve, invoke, builtin, Sem.run_bind, Sem.run_pure, Result.andThen_ok, List.map_toArray, List.map_cons, List.map_nil, hs, hx, hr]
    exact hK _ _ (h v' w' h3 h4 h5)
end Go.Proofs.Ytffjonpajjioaaa

/- Package shape's place: does a vector lie inside one of the no-fit polygons? -/
namespace Go.Proofs.Ytffjonpajjioaaa
open Go.RowKit Go.Sort
attribute [local go_sem ↓] run_min_mn run_max_mx Go.wp_at_zero Go.wp_at_succ

def hitQ (v : Pt) (K : List Pt) : Bool := decide (0 < whereD K v)
def anyHit (v : Pt) (Ks : List (List Pt)) : Bool := Ks.any (hitQ v)

/-- A polygon that may be asked where a point is. -/
def Askable (K : List Pt) : Prop := 0 < K.length ∧ K.length ≤ 100 ∧ ∀ i, Bd (gt K i)

theorem hit_any (A : Option Addr) (n c : Nat) (K : List Pt) (x y : Int) (g : Nat) (w : World) (hn : K.length = n) (hx : PtsAt w A K) (hK : Askable K) (hv : Bd (x, y)) (pg : PtAt w g x y) :
    Calls Try.prog 48 #[.slice A n c, .pointer (some ⟨g, 0, none⟩)] w fun e w' => e = .returned (.bool (hitQ (x, y) K)) ∧ Below w.heap.size w w' := by
  obtain ⟨h1, h2, h3⟩ := hK
  obtain ⟨b, off, rfl, h4, h5⟩ := hx (by intro e; rw [e] at h1; cases h1)
  have F := Lib.hid (where_any b off n c K (x, y) w hn (by omega) (by omega) h5 h4 h3 hv)
  have E : Hid (hitQ (x, y) K = decide (0 < whereD K (x, y))) := Lib.hid rfl
  obtain ⟨p1, p2⟩ := pg
  clear hn hx h3 h5 hv
  generalize hitQ (x, y) K = r at *
  generalize whereD K (x, y) = z at *
  go_enter Try.func48, Try.ntmps48
  go_wp2_with fail
  refine (F.out).mono ?_
  rintro e w1 ⟨rfl, hb⟩
  go_wp2
  go_ret
  exact ⟨ret_bool E.out.symm, hb⟩

def FoundHit (v : Pt) (Ks : List (List Pt)) (w : World) (e : Ending) (w' : World) : Prop := ∃ i : Int, e = .returned (.int .i64 i) ∧ decide (0 ≤ i) = anyHit v Ks ∧ Below w.heap.size w w'

set_option maxHeartbeats 800000 in
theorem indexHit_any (A : Option Addr) (n c : Nat) (Ks : List (List Pt)) (x y : Int) (g : Nat) (w : World) (hn : Ks.length = n) (hbig : n ≤ 1000000) (hx : PolysAt w A Ks) (hK : ∀ K ∈ Ks, Askable K) (hv : Bd (x, y)) (pg : PtAt w g x y) (hg : g < w.heap.size) :
    Calls Try.prog 59 #[.slice A n c, .func (.func 48) #[] #[.pointer (some ⟨g, 0, none⟩)]] w (FoundHit (x, y) Ks w) := by
  have HN := Lib.hid hn
  have HX := Lib.hid hx
  have HK := Lib.hid hK
  have HG := Lib.hid pg
  clear hn hx hK pg
  go_enter Try.func59, Try.ntmps59
  go_wp2
  go_loopw [8] (fun i wr => ∃ k : Nat, k ≤ n ∧ i = .int .i64 k ∧ anyHit (x, y) (Ks.take k) = false ∧ Below w.heap.size w wr) (fun i _ => n - (intOf i).toNat)
  case atStart => exact ⟨0, Nat.zero_le _, rfl, rfl, Below.refl _ _⟩
  case round =>
    obtain ⟨k, hk, rfl, hz, hbw⟩ := hrel
    have HZ := Lib.hid hz
    clear hz
    by_cases hlt : k < n
    · have hl : k < Ks.length := by have := HN.out; omega
      obtain ⟨b, off, rfl, hbl, hps⟩ := HX.out (by intro e; subst e; simp at hl)
      obtain ⟨A1, n1, c1, h1, h2, h3, h4⟩ := (hps.below hbw hbl) k _ (List.getElem?_eq_getElem hl)
      have hs : anyHit (x, y) (Ks.take (k + 1)) = hitQ (x, y) Ks[k] := by
        rw [List.take_succ_eq_append_getElem hl]
        unfold anyHit at *
        rw [List.any_append, HZ.out]; simp
      have hall : hitQ (x, y) Ks[k] = true → anyHit (x, y) Ks = true := fun h => by
        unfold anyHit
        exact List.any_eq_true.2 ⟨_, List.getElem_mem hl, h⟩
      have HS := Lib.hid hs
      have HA := Lib.hid hall
      have F := Lib.hid (hit_any A1 n1 c1 Ks[k] x y g wr h2 h4 (HK.out _ (List.getElem_mem hl)) hv (PtAt.below hbw hg HG.out))
      clear hs hall hps h2 h3 h4
      generalize hitQ (x, y) Ks[k] = r at *
      go_wp2_with fail
      refine (F.out).mono ?_
      rintro e w1 ⟨rfl, hb1⟩
      have hbw1 := hbw.trans (hb1.mono hbw.size)
      clear hb1 h1 F
      cases r
      · go_wp2_with fail
        go_roundw
        case rel => exact ⟨k + 1, by omega, by go_num, HS.out, hbw1⟩
        case measure => simp [intOf]; omega
      · go_wp2_with fail
        go_ret
        exact ⟨_, rfl, by rw [HA.out trivial]; simp, hbw1⟩
    · have hfull : anyHit (x, y) Ks = false := by
        have := HZ.out
        rw [List.take_of_length_le (by have := HN.out; omega)] at this
        exact this
      have HF := Lib.hid hfull
      clear hfull
      go_wp2
      go_ret
      exact ⟨_, rfl, by rw [HF.out]; rfl, hbw⟩

theorem containsHit_any (A : Option Addr) (n c : Nat) (Ks : List (List Pt)) (x y : Int) (g : Nat) (w : World) (hn : Ks.length = n) (hbig : n ≤ 1000000) (hx : PolysAt w A Ks) (hK : ∀ K ∈ Ks, Askable K) (hv : Bd (x, y)) (pg : PtAt w g x y) (hg : g < w.heap.size) :
    Calls Try.prog 49 #[.slice A n c, .func (.func 48) #[] #[.pointer (some ⟨g, 0, none⟩)]] w fun e w' => e = .returned (.bool (anyHit (x, y) Ks)) ∧ Below w.heap.size w w' := by
  have K := Lib.hid (indexHit_any A n c Ks x y g w hn hbig hx hK hv pg hg)
  clear hn hx hK pg
  go_enter Try.func49, Try.ntmps49
  go_wp2_with fail
  refine (K.out).mono ?_
  rintro e w' ⟨i, rfl, hi, hb⟩
  have HI := Lib.hid hi
  clear hi
  go_wp2
  go_ret
  exact ⟨ret_bool HI.out, hb⟩

/-- K is the no-fit polygon of p and the shape whose negative is n. -/
def Fit (p n K : List Pt) (n0 : Pt) : Prop := ∃ p0, Conv p p0 ∧ Hull (sums p n) K (sumP p0 n0) ∧ Conv K (sumP p0 n0)
theorem fit_apart {p s n K : List Pt} {s0 n0 v : Pt} (cs : Conv s s0) (hn : Hull (s.map negP) n n0) (cn : Conv n n0) (h : Fit p n K n0) : hitQ v K = !apartB p (movedL s v) := by
  obtain ⟨p0, cp, hK, cK⟩ := h
  have k := overlap_inner (v := v) cp cs hn cn hK cK
  unfold hitQ
  cases e : apartB p (movedL s v)
  · have := inner_where cK (k.1 e)
    rw [this]; rfl
  · have h1 : whereD K v ≠ 1 := fun q => by
      have := k.2 (where_inner cK q)
      rw [e] at this; cases this
    have h2 : whereD K v = 0 ∨ whereD K v = 1 ∨ whereD K v = -1 := by
      unfold whereD
      split
      · exact .inl rfl
      · exact .inr (sideTo_bd K v _)
    rw [decide_eq_false (by omega)]; rfl
/-- The no-fit polygons of all that is laid. -/
def Fits (L : List (List Pt)) (n : List Pt) (Ks : List (List Pt)) (n0 : Pt) : Prop := Ks.length = L.length ∧ ∀ (i : Nat) (p K : List Pt), L[i]? = some p → Ks[i]? = some K → Fit p n K n0
theorem fits_free {L Ks : List (List Pt)} {s n : List Pt} {s0 n0 : Pt} (cs : Conv s s0) (hn : Hull (s.map negP) n n0) (cn : Conv n n0) (h : Fits L n Ks n0) (v : Pt) : freeB L s v = !anyHit v Ks := by
  obtain ⟨h1, h2⟩ := h
  unfold freeB anyHit
  induction L generalizing Ks with
  | nil => obtain rfl := List.eq_nil_of_length_eq_zero h1; rfl
  | cons p L ih =>
    cases Ks with
    | nil => simp at h1
    | cons K Ks =>
      rw [List.all_cons, List.any_cons, ih (by simpa using h1) (fun i p' K' hp hK => h2 (i + 1) p' K' (by simpa using hp) (by simpa using hK)), fit_apart cs hn cn (h2 0 p K rfl rfl), Bool.not_or, Bool.not_not]
theorem fits_push {L Ks : List (List Pt)} {p n K : List Pt} {n0 : Pt} (h : Fits L n Ks n0) (hK : Fit p n K n0) : Fits (L ++ [p]) n (Ks ++ [K]) n0 := by
  obtain ⟨h1, h2⟩ := h
  refine ⟨by simp [h1], fun i q J hq hJ => ?_⟩
  by_cases hi : i < L.length
  · rw [List.getElem?_append_left hi] at hq
    rw [List.getElem?_append_left (by omega)] at hJ
    exact h2 i q J hq hJ
  · have hi2 : i = L.length := by
      have := (List.getElem?_eq_some_iff.1 hq).1
      simp at this; omega
    subst hi2
    rw [List.getElem?_append_right (Nat.le_refl _), Nat.sub_self] at hq
    rw [← h1, List.getElem?_append_right (Nat.le_refl _), Nat.sub_self] at hJ
    obtain rfl : p = q := by simpa using hq
    obtain rfl : K = J := by simpa using hJ
    exact hK
end Go.Proofs.Ytffjonpajjioaaa

/- Package shape's sum of two convex polygons. -/
namespace Go.Proofs.Ytffjonpajjioaaa
open Go.RowKit Go.Sort
attribute [local go_sem ↓] run_min_mn run_max_mx Go.wp_at_zero Go.wp_at_succ

theorem merged_succ (a b : List Pt) (k : Nat) : merged a b (k + 1) = merged a b k ++ [mpt a b k] := by
  unfold merged; rw [List.range_succ, List.map_append]; rfl
theorem merged_length (a b : List Pt) (k : Nat) : (merged a b k).length = k := by simp [merged]
theorem vtx_gt (l : List Pt) (i : Nat) : gt l (i % l.length) = vtx l i := rfl
theorem PtAt.grown {w w' : World} {b : Nat} {x y : Int} {k : Option Nat} (p : PtAt w b x y) (h : w.grownBy w' k) (hb : b < w.heap.size) (hk : some b ≠ k) : PtAt w' b x y :=
  ⟨(h.cell_far ⟨b, 0, none⟩ hb hk).trans p.1, (h.cell_far ⟨b, 1, none⟩ hb hk).trans p.2⟩
theorem vtx_ok {l : List Pt} (h : l.all okP = true) (i : Nat) : okP (vtx l i) = true := getD_ok h _

def SumTo (K : List Pt) (w : World) (e : Ending) (w' : World) : Prop := ∃ v, e = .returned v ∧ PtsOwn w' w.heap.size v K ∧ Below w.heap.size w w'

/-- A point that is not far, in the wide sense. -/
def Wd (p : Pt) : Prop := (-30000 ≤ p.1 ∧ p.1 ≤ 30000) ∧ (-30000 ≤ p.2 ∧ p.2 ≤ 30000)
theorem Wd.of_ok {p : Pt} (h : okP p = true) : Wd p := by
  have := okP_bd h
  unfold Wd
  omega

set_option maxRecDepth 100000 in
set_option maxHeartbeats 4000000 in
theorem sumW_any (b off n c b' off' m d : Nat) (p q K : List Pt) (p0 q0 : Pt) (w : World) (hl : p.length = n) (hm : q.length = m) (hn' : n ≤ 100) (hm' : m ≤ 100)
    (h : PtsIn w b off p) (hb : b < w.heap.size) (h' : PtsIn w b' off' q) (hb' : b' < w.heap.size) (hok : ∀ i, Wd (vtx p i)) (hok' : ∀ i, Wd (vtx q i))
    (cp : Conv p p0) (cq : Conv q q0) (hK : Hull (sums p q) K (sumP p0 q0)) (cK : Conv K (sumP p0 q0)) :
    Calls Try.prog 18 #[.slice (some ⟨b, off, none⟩) n c, .slice (some ⟨b', off', none⟩) m d] w (SumTo K w) := by
  obtain ⟨E1, E2, E3⟩ := merge_end cp cq hK cK
  have hKl := sum_len cp cq hK cK
  rw [hl, hm] at hKl E1
  have HE1 := Lib.hid E1
  have HE2 : Hid (∀ k, k ≤ K.length → (mst p q k).1 ≤ n ∧ (mst p q k).2 ≤ m) := Lib.hid (by rw [← hl, ← hm]; exact E2)
  have HE3 : Hid (∀ k, k < K.length → (mst p q k).1 < n ∨ (mst p q k).2 < m) := Lib.hid (by rw [← hl, ← hm]; exact E3)
  have HKM : Hid (merged p q K.length = K) := Lib.hid (merged_hull cp cq hK)
  have HL := Lib.hid hl
  have HM := Lib.hid hm
  have HP := Lib.hid h
  have HQ := Lib.hid h'
  have HOK := Lib.hid hok
  have HOK' := Lib.hid hok'
  have h3 := cp.three
  have h4 := cq.three
  rw [hl] at h3
  rw [hm] at h4
  clear hl hm h h' hok hok' E1 E2 E3 cp cq hK cK
  generalize hN : K.length = N at *
  go_enter Try.func18, Try.ntmps18
  go_wp2
  go_loopw [5, 6, 7] (fun o i j wr => ∃ k : Nat, k ≤ N ∧ i = .int .i64 ((mst p q k).1 : Nat) ∧ j = .int .i64 ((mst p q k).2 : Nat) ∧ PtsOwn wr w.heap.size o (merged p q k) ∧ Below w.heap.size w wr) (fun _ i j _ => (n + m) - ((intOf i).toNat + (intOf j).toNat))
  case atStart => exact ⟨0, Nat.zero_le _, rfl, rfl, PtsOwn.nil _ _, Below.refl _ _⟩
  case round =>
    obtain ⟨k, hk, rfl, rfl, hown, hbw⟩ := hrel
    obtain ⟨hi, hj⟩ := HE2.out k hk
    have HO := Lib.hid hown
    clear hown
    by_cases hlt : k < N
    · have hor := HE3.out k hlt
      have HN : Hid (merged p q (k + 1) = merged p q k ++ [sumP (vtx p (mst p q k).1) (vtx q (mst p q k).2)]) := Lib.hid (merged_succ p q k)
      have hml : (merged p q k).length ≤ 200 := by rw [merged_length]; omega
      have HS : Hid (mst p q (k + 1) = if 0 < xr (ev p (mst p q k).1) (ev q (mst p q k).2) then ((mst p q k).1 + 1, (mst p q k).2) else if xr (ev p (mst p q k).1) (ev q (mst p q k).2) < 0 then ((mst p q k).1, (mst p q k).2 + 1) else ((mst p q k).1 + 1, (mst p q k).2 + 1)) := Lib.hid rfl
      have HB2 := Lib.hid (HE2.out (k + 1) hlt)
      generalize merged p q k = cur at *
      generalize (mst p q k).1 = i at *
      generalize (mst p q k).2 = j at *
      have HPw : Hid (PtsIn wr b off p) := Lib.hid (HP.out.below hbw hb)
      have HQw : Hid (PtsIn wr b' off' q) := Lib.hid (HQ.out.below hbw hb')
      have hB : b < wr.heap.size := Nat.lt_of_lt_of_le hb hbw.size
      have hB' : b' < wr.heap.size := Nat.lt_of_lt_of_le hb' hbw.size
      have N1 := fun W hW => Lib.hid (edge_any b off n c p i W HL.out (by omega) (by omega) (by omega) (HPw.out.below (B := wr.heap.size) hW hB))
      have N2 := fun W hW => Lib.hid (edge_any b' off' m d q j W HM.out (by omega) (by omega) (by omega) (HQw.out.below (B := wr.heap.size) hW hB'))
      have v1 : gt p (i % n) = vtx p i := by rw [← HL.out]; rfl
      have v2 : nx p i = vtx p (i + 1) := rfl
      have v3 : gt q (j % m) = vtx q j := by rw [← HM.out]; rfl
      have v4 : nx q j = vtx q (j + 1) := rfl
      rw [v1, v2] at N1
      rw [v3, v4] at N2
      have ok1 := HOK.out i
      have ok2 := HOK.out (i + 1)
      have ok3 := HOK'.out j
      have ok4 := HOK'.out (j + 1)
      have HX : Hid (xr (ev p i) (ev q j) = ((vtx p (i + 1)).1 - (vtx p i).1) * ((vtx q (j + 1)).2 - (vtx q j).2) - ((vtx q (j + 1)).1 - (vtx q j).1) * ((vtx p (i + 1)).2 - (vtx p i).2)) := Lib.hid rfl
      clear v1 v2 v3 v4
      generalize xr (ev p i) (ev q j) = X at *
      generalize vtx p i = a at *
      generalize vtx p (i + 1) = a' at *
      generalize vtx q j = z at *
      generalize vtx q (j + 1) = z' at *
      obtain ⟨a1, a2⟩ := a
      obtain ⟨b1, b2⟩ := a'
      obtain ⟨c1, c2⟩ := z
      obtain ⟨d1, d2⟩ := z'
      unfold Wd at ok1 ok2 ok3 ok4
      simp only at ok1 ok2 ok3 ok4
      have PL := fun W => Lib.hid (plus_any a1 a2 c1 c2 W (by omega) (by omega) (by omega) (by omega))
      have M1 := fun W => Lib.hid (minus_any b1 b2 a1 a2 W (by omega) (by omega) (by omega) (by omega))
      have M2 := fun W => Lib.hid (minus_any d1 d2 c1 c2 W (by omega) (by omega) (by omega) (by omega))
      have CR := fun W => Lib.hid (crossD_any (b1 - a1) (b2 - a2) (d1 - c1) (d2 - c2) W (by omega) (by omega) (by omega) (by omega))
      have HX' : Hid (X = (b1 - a1) * (d2 - c2) - (d1 - c1) * (b2 - a2)) := HX
      rw [← HX'.out] at CR
      have HNE : Hid (∀ x, wr.heap.size ≤ x → ∀ y, u5.ownBlock = some y → y ≠ x) := Lib.hid fun x hx y hy e => by have := (HO.out.base _ hy).2; omega
      clear HX HX' ok1 ok2 ok3 ok4
      by_cases hin : i < n
      all_goals
        try have hjm : j < m := by omega
        go_wp2_with fail
        refine ((N1 _ (Below.refl _ _)).out).mono ?_
        rintro e w1 ⟨rfl, hb1⟩
        go_wp2_with fail
        have B := boxed2 w1 a1 a2 b1 b2
        generalize (w1.alloc (bx a1 a2)).alloc (bx b1 b2) = w2 at *
        obtain ⟨P1, P2, hb2, hz2⟩ := B
        have hbr2 := hb1.trans (hb2.mono hb1.size)
        have hgw : wr.heap.size ≤ w1.heap.size := hb1.size
        generalize w1.heap.size = g at *
        have hg2 : g + 1 < w2.heap.size := by omega
        clear hb2 hz2 N1
        refine ((N2 _ hbr2).out).mono ?_
        rintro e w3 ⟨rfl, hb3⟩
        replace P1 := PtAt.below hb3 (by omega) P1
        replace P2 := PtAt.below hb3 (by omega) P2
        have hbr3 := hbr2.trans (hb3.mono hbr2.size)
        have hg3 : g + 1 < w3.heap.size := by have := hb3.size; omega
        clear hb3 hbr2 hg2 N2
        have B := boxed2 w3 c1 c2 d1 d2
        go_upto_region 6 with (fail)
        generalize (w3.alloc (bx c1 c2)).alloc (bx d1 d2) = w4 at *
        obtain ⟨P3, P4, hb4, hz4⟩ := B
        replace P1 := PtAt.below hb4 (by omega) P1
        replace P2 := PtAt.below hb4 (by omega) P2
        have hbr4 := hbr3.trans (hb4.mono hbr3.size)
        have hgw3 : wr.heap.size ≤ w3.heap.size := hbr3.size
        clear hb4 hbr3
        generalize w3.heap.size = g3 at *
        have hg4 : g3 + 1 < w4.heap.size := by omega
        obtain ⟨p1, p2⟩ := P1
        obtain ⟨p3, p4⟩ := P3
        go_wp2_with fail
        refine ((PL _).out).mono ?_
        rintro e w5 ⟨rfl, hb5⟩
        have P1 := PtAt.below hb5 (by omega) ⟨p1, p2⟩
        have P3 := PtAt.below hb5 (by omega) ⟨p3, p4⟩
        replace P2 := PtAt.below hb5 (by omega) P2
        replace P4 := PtAt.below hb5 (by omega) P4
        have hbr5 := hbr4.trans (hb5.mono hbr4.size)
        have hg5 : g + 1 < w5.heap.size ∧ g3 + 1 < w5.heap.size := by have := hb5.size; omega
        clear p1 p2 p3 p4 hb5 hbr4 PL
        have O5 := Lib.hid (HO.out.belows hbr5 (Nat.le_refl _))
        have hA1 : cur.length + [(a1 + c1, a2 + c2)].length ≤ 100000 := by simp; omega
        have hA2 : w.heap.size ≤ (w5.alloc (bx (a1 + c1) (a2 + c2))).heap.size := by rw [World.size_alloc]; have := hbr5.size; have := hbw.size; omega
        have A1 := P1.alloc (bx (a1 + c1) (a2 + c2)) (by omega)
        have A2 := P2.alloc (bx (a1 + c1) (a2 + c2)) (by omega)
        have A3 := P3.alloc (bx (a1 + c1) (a2 + c2)) (by omega)
        have A4 := P4.alloc (bx (a1 + c1) (a2 + c2)) (by omega)
        have hz5 : (w5.alloc (bx (a1 + c1) (a2 + c2))).heap.size = w5.heap.size + 1 := by rw [World.size_alloc]
        have HBW5 := Lib.hid ((hbw.trans (hbr5.mono hbw.size)).alloc (by have := hbr5.size; have := hbw.size; omega) (bx (a1 + c1) (a2 + c2)))
        go_wp2_with (at_builtin; refine wpList_papp rfl (.tmp 35) (.tmp 39) rfl w.heap.size _ cur [(a1 + c1, a2 + c2)] (some ⟨w5.heap.size, 0, none⟩) 1 1 rfl rfl (O5.out.alloc _) rfl (PtsAt.one w5 (a1 + c1) (a2 + c2)) hA1 hA2 ?_; intro v1 w6 ho hg hat; have HO6 := Lib.hid ho; have HG6 := Lib.hid hg; clear ho hg hat)
        generalize w5.alloc (bx (a1 + c1) (a2 + c2)) = w5' at *
        have q1 := A1.grown HG6.out (by omega) (fun e => HNE.out g (by omega) _ e.symm rfl)
        have q2 := A2.grown HG6.out (by omega) (fun e => HNE.out (g + 1) (by omega) _ e.symm rfl)
        have q3 := A3.grown HG6.out (by omega) (fun e => HNE.out g3 (by omega) _ e.symm rfl)
        have q4 := A4.grown HG6.out (by omega) (fun e => HNE.out (g3 + 1) (by omega) _ e.symm rfl)
        have HB6 : Hid (Below w.heap.size w w6) := Lib.hid (HBW5.out.grown HG6.out hA2 (fun k hk => (O5.out.base k hk).1))
        obtain ⟨p1, p2⟩ := q1
        obtain ⟨p3, p4⟩ := q2
        obtain ⟨p5, p6⟩ := q3
        obtain ⟨p7, p8⟩ := q4
        have K1 := fun d os => Lib.hid (Calls.regrown_of ((M1 (grow (redrawn w6 d) os)).out))
        have K2 := fun d os => Lib.hid (Calls.regrown_of ((M2 (grow (redrawn w6 d) os)).out))
        have K3 := fun d os => Lib.hid (Calls.regrown_of ((CR (grow (redrawn w6 d) os)).out))
        have t1 := cell_regrown p1
        have t2 := cell_regrown p2
        have t3 := cell_regrown p3
        have t4 := cell_regrown p4
        have t5 := cell_regrown p5
        have t6 := cell_regrown p6
        have t7 := cell_regrown p7
        have t8 := cell_regrown p8
        clear p1 p2 p3 p4 p5 p6 p7 p8 A1 A2 A3 A4 P1 P2 P3 P4 M1 M2 CR HG6 O5 HBW5 hbr5 hA1 hA2
        go_wp2_with fail
        refine wp_region_quiet_below (by kernel_rfl) (by kernel_rfl) ?_
        repeat (go_big_quiet_step (first | (with_reducible exact (K1 _ _).out) | (with_reducible exact (K2 _ _).out) | (with_reducible exact (K3 _ _).out)))
        refine wpQuiet_nil ?_
        intro _ hw'
        obtain ⟨⟨dq, osq⟩, hw''⟩ := hw'
        subst hw''
        have hbq := below_regrown w6 dq osq
        have HB7 := Lib.hid (HB6.out.trans (hbq.mono HB6.out.size))
        have HO7 : Hid (PtsOwn (grow (redrawn w6 dq) osq) w.heap.size v1 (merged p q (k + 1))) := Lib.hid (by rw [HN.out]; exact HO6.out.belows hbq (Nat.le_refl _))
        clear hbq t1 t2 t3 t4 t5 t6 t7 t8 K1 K2 K3
        generalize grow (redrawn w6 dq) osq = w7 at *
        rcases Int.lt_trichotomy X 0 with hX | hX | hX
        · have e : mst p q (k + 1) = (i, j + 1) := by rw [HS.out, if_neg (by omega), if_pos hX]
          have hbd := HB2.out
          rw [e] at hbd
          first
            | (exfalso; omega)
            | (go_wp2_with fail
               go_roundw
               case rel => exact ⟨k + 1, by omega, by rw [e], by rw [e]; go_num, HO7.out, HB7.out⟩
               case measure => simp [intOf]; omega)
        · have e : mst p q (k + 1) = (i + 1, j + 1) := by rw [HS.out, if_neg (by omega), if_neg (by omega)]
          have hbd := HB2.out
          rw [e] at hbd
          first
            | (exfalso; omega)
            | (go_wp2_with fail
               go_roundw
               case rel => exact ⟨k + 1, by omega, by rw [e]; go_num, by rw [e]; go_num, HO7.out, HB7.out⟩
               case measure => simp [intOf]; omega)
        · have e : mst p q (k + 1) = (i + 1, j) := by rw [HS.out, if_pos hX]
          have hbd := HB2.out
          rw [e] at hbd
          first
            | (exfalso; omega)
            | (go_wp2_with fail
               go_roundw
               case rel => exact ⟨k + 1, by omega, by rw [e]; go_num, by rw [e], HO7.out, HB7.out⟩
               case measure => simp [intOf]; omega)
    · obtain rfl : k = N := by omega
      have e1 : (mst p q k).1 = n := by rw [HE1.out]
      have e2 : (mst p q k).2 = m := by rw [HE1.out]
      rw [e1, e2]
      rw [HKM.out] at HO
      go_wp2_with fail
      go_ret
      exact ⟨_, rfl, HO.out, hbw⟩
theorem sumD_any (b off n c b' off' m d : Nat) (p q K : List Pt) (p0 q0 : Pt) (w : World) (hl : p.length = n) (hm : q.length = m) (hn' : n ≤ 100) (hm' : m ≤ 100)
    (h : PtsIn w b off p) (hb : b < w.heap.size) (h' : PtsIn w b' off' q) (hb' : b' < w.heap.size) (hok : p.all okP = true) (hok' : q.all okP = true)
    (cp : Conv p p0) (cq : Conv q q0) (hK : Hull (sums p q) K (sumP p0 q0)) (cK : Conv K (sumP p0 q0)) :
    Calls Try.prog 18 #[.slice (some ⟨b, off, none⟩) n c, .slice (some ⟨b', off', none⟩) m d] w (SumTo K w) :=
  sumW_any b off n c b' off' m d p q K p0 q0 w hl hm hn' hm' h hb h' hb' (fun i => Wd.of_ok (vtx_ok hok i)) (fun i => Wd.of_ok (vtx_ok hok' i)) cp cq hK cK
end Go.Proofs.Ytffjonpajjioaaa

/- Package shape's Sum, negative and Negative. -/
namespace Go.Proofs.Ytffjonpajjioaaa
open Go.RowKit Go.Sort
attribute [local go_sem ↓] run_min_mn run_max_mx Go.wp_at_zero Go.wp_at_succ

theorem conv_conE {a : List Pt} {a0 : Pt} (ca : Conv a a0) (hok : a.all okP = true) (hlen : a.length ≤ 32) : conE a = 0 := by
  have h1 : polyB a = true := by
    unfold polyB
    rw [Bool.and_eq_true]
    have := ca.three
    exact ⟨hok, by rw [inB_true]; omega⟩
  have h2 : convexB a = true := hull_convex ca.hull ca.three ca.low
  unfold conE
  rw [h1, h2]; rfl

def SumXTo (K : List Pt) (w : World) (e : Ending) (w' : World) : Prop := ∃ v, e = .returned (.tuple #[v, .int .i64 0]) ∧ PtsOwn w' w.heap.size v K ∧ Below w.heap.size w w'

set_option maxRecDepth 100000 in
set_option maxHeartbeats 2000000 in
theorem sumX_any (A : Option Addr) (n c : Nat) (A' : Option Addr) (m d : Nat) (p q K : List Pt) (p0 q0 : Pt) (w : World) (hl : p.length = n) (hm : q.length = m) (hn' : n ≤ 32) (hm' : m ≤ 32)
    (hx : PtsAt w A p) (hy : PtsAt w A' q) (hok : p.all okP = true) (hok' : q.all okP = true)
    (cp : Conv p p0) (cq : Conv q q0) (hK : Hull (sums p q) K (sumP p0 q0)) (cK : Conv K (sumP p0 q0)) :
    Calls Try.prog 8 #[.slice A n c, .slice A' m d] w (SumXTo K w) := by
  have hb1 : Below w.heap.size w (w.alloc (.cells #[.slice A n c, .slice A' m d] 24)) := (Below.refl _ _).alloc (Nat.le_refl _) _
  have hP : PolysIn (w.alloc (.cells #[.slice A n c, .slice A' m d] 24)) w.heap.size 0 [p, q] := by
    intro i l hi
    match i, hi with
    | 0, hi =>
      obtain rfl : p = l := by simpa using hi
      exact ⟨A, n, c, by simp [World.cell?_alloc_new], hl, by omega, hx.below hb1⟩
    | 1, hi =>
      obtain rfl : q = l := by simpa using hi
      exact ⟨A', m, d, by simp [World.cell?_alloc_new], hm, by omega, hy.below hb1⟩
  have K1 := Lib.hid (checkConvex_any w.heap.size 0 2 2 [p, q] _ rfl (by omega) hP (by simp))
  have h0 : convsE [p, q] = 0 := by rw [convs_two, if_pos (conv_conE cp hok (by omega)), conv_conE cq hok' (by omega)]
  rw [h0] at K1
  obtain ⟨b1, o1, rfl, g1, g2⟩ := hx (by intro e; have := cp.three; rw [e] at this; simp at this)
  obtain ⟨b2, o2, rfl, f1, f2⟩ := hy (by intro e; have := cq.three; rw [e] at this; simp at this)
  have KS := fun W (hW : Below w.heap.size w W) => Lib.hid (sumD_any b1 o1 n c b2 o2 m d p q K p0 q0 W hl hm (by omega) (by omega) (g2.below hW g1) (Nat.lt_of_lt_of_le g1 hW.size) (f2.below hW f1) (Nat.lt_of_lt_of_le f1 hW.size) hok hok' cp cq hK cK)
  have HB1 := Lib.hid hb1
  clear hx hy hP h0 g2 f2 hl hm hok hok' cp cq hK cK hb1
  go_enter Try.func8, Try.ntmps8
  go_wp2_with fail
  refine (K1.out).mono ?_
  rintro e w1 ⟨rfl, hb2⟩
  have hbw1 := HB1.out.trans (hb2.mono HB1.out.size)
  clear hb2
  go_wp2_with fail
  refine ((KS _ hbw1).out).mono ?_
  rintro e w2 ⟨v, rfl, ho, hb3⟩
  have HO := Lib.hid (ho.low hbw1.size)
  have HB := Lib.hid (hbw1.trans (hb3.mono hbw1.size))
  clear ho hb3
  go_wp2_with fail
  go_ret2
  exact ⟨v, rfl, HO.out, HB.out⟩

theorem negP_zero (p : Pt) : negP p = (0 - p.1, 0 - p.2) := by unfold negP; simp
theorem negL_F (l : List Pt) : l.map negP = ptF l.length fun i => negP (gt l i) := by
  apply List.ext_getElem
  · simp [ptF]
  · intro i h1 h2
    have : i < l.length := by simpa using h1
    simp [ptF, gt, List.getD, this]

set_option maxRecDepth 100000 in
set_option maxHeartbeats 4000000 in
theorem negativeW_any (hS : SortsPts) (hR : ReversesPts) (b off n c : Nat) (l : List Pt) (w : World) (hl : l.length = n) (hn : 0 < n) (hn' : n ≤ 100) (h : PtsIn w b off l) (hb : b < w.heap.size) (hok : ∀ p ∈ l, Wd p) :
    Calls Try.prog 17 #[.slice (some ⟨b, off, none⟩) n c] w (HullTo (l.map negP) w) := by
  have HL := Lib.hid hl
  have HP := Lib.hid h
  have HOK := Lib.hid hok
  have hmk := make_pts n (by omega)
  have HM : Hid (l.map negP = ptF n fun i => negP (gt l i)) := Lib.hid (by rw [← hl]; exact negL_F l)
  have HBD : Hid (∀ x ∈ l.map negP, Bd x) := Lib.hid fun x hx => by
    obtain ⟨p, hp, rfl⟩ := List.mem_map.1 hx
    obtain ⟨h1, h2⟩ := hok p hp
    unfold Bd negP; simp only; omega
  clear hl h hok
  go_enter Try.func17, Try.ntmps17
  go_wp2_with fail
  have R0 : PtBlk (w.alloc (.cells (ptsV (ptF n fun _ => (0, 0))).toArray 27)) w.heap.size (ptF n fun _ => (0, 0)) := heap_alloc_new _ _
  have hb1 : Below w.heap.size w (w.alloc (.cells (ptsV (ptF n fun _ => (0, 0))).toArray 27)) := (Below.refl _ _).alloc (Nat.le_refl _) _
  have hz1 : (w.alloc (.cells (ptsV (ptF n fun _ => (0, 0))).toArray 27)).heap.size = w.heap.size + 1 := by simp
  generalize w.alloc (.cells (ptsV (ptF n fun _ => (0, 0))).toArray 27) = w1 at *
  generalize hgg : w.heap.size = gg at *
  clear hmk
  go_loopw [11] (fun i wr => ∃ k : Nat, k ≤ n ∧ i = .int .i64 k ∧ PtBlk wr gg (ptF n fun u => if u < k then negP (gt l u) else (0, 0)) ∧ Below gg w wr ∧ gg + 1 ≤ wr.heap.size) (fun i _ => n - (intOf i).toNat)
  case atStart => exact ⟨0, Nat.zero_le _, rfl, by simpa using R0, hb1, by omega⟩
  case round =>
    clear R0 hb1
    obtain ⟨k, hk, rfl, hR', hbw, hgr⟩ := hrel
    have HR := Lib.hid hR'
    clear hR'
    by_cases hlt : k < n
    · obtain ⟨h1, h2⟩ := (HP.out.below hbw hb) k (gt l k) (by unfold gt; rw [List.getD_eq_getElem?_getD, List.getElem?_eq_getElem (by rw [HL.out]; exact hlt)]; rfl)
      have hB : b < wr.heap.size := by omega
      have hg1 : gg < wr.heap.size := by omega
      have d : Wd (gt l k) := HOK.out _ (by unfold gt; rw [List.getD_eq_getElem?_getD, List.getElem?_eq_getElem (by rw [HL.out]; exact hlt)]; exact List.getElem_mem _)
      unfold Wd at d
      have HN : Hid (∀ W, PtBlk W gg ((ptF n fun u => if u < k then negP (gt l u) else (0, 0)).set k (-(gt l k).1, -(gt l k).2)) → PtBlk W gg (ptF n fun u => if u < k + 1 then negP (gt l u) else (0, 0))) := Lib.hid fun W hW => by
        rw [show (-(gt l k).1, -(gt l k).2) = negP (gt l k) from rfl, ptF_set] at hW
        rw [ptF_congr (g := fun u => if u = k then negP (gt l k) else if u < k then negP (gt l u) else (0, 0))]
        · exact hW
        · intro i hi
          by_cases e : i = k
          · subst e; simp
          · rw [if_neg e]
            by_cases e2 : i < k
            · rw [if_pos e2, if_pos (by omega)]
            · rw [if_neg e2, if_neg (by omega)]
      generalize hp : gt l k = p at *
      obtain ⟨x, y⟩ := p
      simp only at d
      have PL := fun W => Lib.hid (minus_any 0 0 x y W (by omega) (by omega) (by omega) (by omega))
      clear hp d
      go_wp2_with fail
      have hb1 : Below wr.heap.size wr (wr.alloc (bx x y)) := (Below.refl _ _).alloc (Nat.le_refl _) _
      refine ((PL _).out).mono ?_
      rintro e w2 ⟨rfl, hb2⟩
      have hb3 := hb1.trans (hb2.mono hb1.size)
      have hbw3 := hbw.trans (hb3.mono (by omega))
      have R2 := HR.out.below hb3 (by omega)
      obtain ⟨c1, c2⟩ := R2.cell (i := k) (ptF_get hlt)
      have f1 := R2.frozen (k * 2)
      have f2 := R2.frozen (k * 2 + 1)
      have hsz := hb3.size
      have HR2 := Lib.hid R2
      clear hb1 hb2 R2
      go_wp2_with fail
      go_roundw
      case rel => exact ⟨k + 1, by omega, by go_num, HN.out _ (HR2.out.set k _ _), (hbw3.setCell (by simp) _).setCell (by simp) _, by simp; omega⟩
      case measure => simp [intOf]; omega
    · obtain rfl : k = n := by omega
      have HF : Hid (PtBlk wr gg (l.map negP)) := Lib.hid (by
        rw [HM.out]
        have := HR.out
        rw [ptF_congr (g := fun i => negP (gt l i)) (fun i hi => by rw [if_pos hi])] at this
        exact this)
      have KH := Lib.hid (hull_any hS hR gg 0 k k (l.map negP) wr (by rw [List.length_map]; exact HL.out) hn hn' HF.out.pts (by omega) HBD.out)
      have HBW := Lib.hid hbw
      clear hbw HR
      go_wp2_with fail
      refine (KH.out).mono ?_
      rintro e w2 ⟨s, v, hp, hs, rfl, ho, hb2⟩
      have HS2 : Hid (s.Perm (l.map negP) ∧ s.Pairwise leP) := Lib.hid ⟨hp, hs⟩
      have HO := Lib.hid (ho.low (show gg ≤ _ by omega))
      have HB2 := Lib.hid (HBW.out.trans (hb2.mono (by omega)))
      clear hp hs ho hb2
      go_wp2_with fail
      go_ret
      exact ⟨s, v, HS2.out.1, HS2.out.2, rfl, by rw [hgg]; exact HO.out, by rw [hgg]; exact HB2.out⟩

theorem negative_any (hS : SortsPts) (hR : ReversesPts) (b off n c : Nat) (l : List Pt) (w : World) (hl : l.length = n) (hn : 0 < n) (hn' : n ≤ 100) (h : PtsIn w b off l) (hb : b < w.heap.size) (hok : l.all okP = true) :
    Calls Try.prog 17 #[.slice (some ⟨b, off, none⟩) n c] w (HullTo (l.map negP) w) :=
  negativeW_any hS hR b off n c l w hl hn hn' h hb (fun p hp => Wd.of_ok (List.all_eq_true.1 hok p hp))

/-- What Negative leaves: the corners' negatives, in the order of a hull. -/
def NegTo (a : List Pt) (w : World) (e : Ending) (w' : World) : Prop :=
  ∃ s v, s.Perm (a.map negP) ∧ s.Pairwise leP ∧ e = .returned (.tuple #[v, .int .i64 0]) ∧ PtsOwn w' w.heap.size v (hullL s) ∧ Below w.heap.size w w'

set_option maxRecDepth 100000 in
set_option maxHeartbeats 2000000 in
theorem negX_any (hS : SortsPts) (hR : ReversesPts) (A : Option Addr) (n c : Nat) (p : List Pt) (p0 : Pt) (w : World) (hl : p.length = n) (hn' : n ≤ 32)
    (hx : PtsAt w A p) (hok : p.all okP = true) (cp : Conv p p0) :
    Calls Try.prog 7 #[.slice A n c] w (NegTo p w) := by
  have hb1 : Below w.heap.size w (w.alloc (.cells #[.slice A n c] 24)) := (Below.refl _ _).alloc (Nat.le_refl _) _
  have hP : PolysIn (w.alloc (.cells #[.slice A n c] 24)) w.heap.size 0 [p] := by
    intro i l hi
    match i, hi with
    | 0, hi =>
      obtain rfl : p = l := by simpa using hi
      exact ⟨A, n, c, by simp [World.cell?_alloc_new], hl, by omega, hx.below hb1⟩
  have K1 := Lib.hid (checkConvex_any w.heap.size 0 1 1 [p] _ rfl (by omega) hP (by simp))
  have h0 : convsE [p] = 0 := by
    show (if conE p = 0 then 0 else conE p) = 0
    rw [if_pos (conv_conE cp hok (by omega))]
  rw [h0] at K1
  have h3 := cp.three
  obtain ⟨b1, o1, rfl, g1, g2⟩ := hx (by intro e; rw [e] at h3; simp at h3)
  have KS := fun W (hW : Below w.heap.size w W) => Lib.hid (negative_any hS hR b1 o1 n c p W hl (by omega) (by omega) (g2.below hW g1) (Nat.lt_of_lt_of_le g1 hW.size) hok)
  have HB1 := Lib.hid hb1
  clear hx hP h0 g2 hl hok cp hb1
  go_enter Try.func7, Try.ntmps7
  go_wp2_with fail
  refine (K1.out).mono ?_
  rintro e w1 ⟨rfl, hb2⟩
  have hbw1 := HB1.out.trans (hb2.mono HB1.out.size)
  clear hb2
  go_wp2_with fail
  refine ((KS _ hbw1).out).mono ?_
  rintro e w2 ⟨s, v, hp, hs, rfl, ho, hb3⟩
  have HS2 : Hid (s.Perm (p.map negP) ∧ s.Pairwise leP) := Lib.hid ⟨hp, hs⟩
  have HO := Lib.hid (ho.low hbw1.size)
  have HB := Lib.hid (hbw1.trans (hb3.mono hbw1.size))
  clear ho hb3 hp hs
  go_wp2_with fail
  go_ret2
  exact ⟨s, v, HS2.out.1, HS2.out.2, rfl, HO.out, HB.out⟩
end Go.Proofs.Ytffjonpajjioaaa

/- Package shape's box, and the reference's. -/
namespace Go.Proofs.Ytffjonpajjioaaa
open Go.RowKit Go.Sort
attribute [local go_sem ↓] run_min_mn run_max_mx Go.wp_at_zero Go.wp_at_succ

/-- Two variables of the call's own that hold points. -/
def OwnTwo (wr : World) (x y qx qy : Int) (s t : Value) (wx : World) : Prop :=
  ∃ g h : Nat, s = .pointer (some ⟨g, 0, none⟩) ∧ t = .pointer (some ⟨h, 0, none⟩) ∧ g ≠ h ∧ wr.heap.size ≤ g ∧ wr.heap.size ≤ h ∧ PtBlk wx g [(x, y)] ∧ PtBlk wx h [(qx, qy)] ∧ Below wr.heap.size wr wx

theorem ptBlk_box (w : World) (x y : Int) : PtBlk (w.alloc (bx x y)) w.heap.size [(x, y)] := heap_alloc_new _ _

theorem ownTwo (w : World) (x y a b : Int) : OwnTwo w x y a b (.pointer (some ⟨w.heap.size, 0, none⟩)) (.pointer (some ⟨w.heap.size + 1, 0, none⟩)) ((w.alloc (bx x y)).alloc (bx a b)).drew := by
  refine ⟨_, _, rfl, rfl, by omega, Nat.le_refl _, by omega, (ptBlk_box w x y).alloc _, ?_, ((Below.refl _ _).alloc (Nat.le_refl _) _ |>.alloc (by simp) _).drew⟩
  have := ptBlk_box (w.alloc (bx x y)) a b
  rw [World.size_alloc] at this
  exact this
theorem ownTwo' (w : World) (x y a b : Int) : OwnTwo w x y a b (.pointer (some ⟨w.heap.size + 1, 0, none⟩)) (.pointer (some ⟨w.heap.size, 0, none⟩)) ((w.alloc (bx a b)).alloc (bx x y)).drew := by
  refine ⟨_, _, rfl, rfl, by omega, by omega, Nat.le_refl _, ?_, (ptBlk_box w a b).alloc _, ((Below.refl _ _).alloc (Nat.le_refl _) _ |>.alloc (by simp) _).drew⟩
  have := ptBlk_box (w.alloc (bx a b)) x y
  rw [World.size_alloc] at this
  exact this

set_option maxRecDepth 100000 in
set_option maxHeartbeats 4000000 in
theorem boxD_any (b off n c : Nat) (l : List Pt) (w : World) (hl : l.length = n) (hn : 0 < n) (hn' : n ≤ 100) (h : PtsIn w b off l) (hb : b < w.heap.size) :
    Calls Try.prog 29 #[.slice (some ⟨b, off, none⟩) n c] w fun e w' =>
      e = .returned (.tuple #[.agg #[.int .i64 (lowL l).1, .int .i64 (lowL l).2], .agg #[.int .i64 (highL l).1, .int .i64 (highL l).2]]) ∧ Below w.heap.size w w' := by
  have HL := Lib.hid hl
  have HP := Lib.hid h
  have HE1 : Hid ((boxTo l n).1 = lowL l) := Lib.hid (by rw [← hl]; rfl)
  have HE2 : Hid ((boxTo l n).2 = highL l) := Lib.hid (by rw [← hl]; rfl)
  have HE0 : Hid (boxTo l 0 = (gt l 0, gt l 0)) := Lib.hid rfl
  clear hl h
  generalize lowL l = lo at *
  generalize highL l = hi at *
  obtain ⟨lo1, lo2⟩ := lo
  obtain ⟨hi1, hi2⟩ := hi
  go_enter Try.func29, Try.ntmps29
  go_upto_region 1 with (fail)
  have B0 := (ptBlk_box w 0 0)
  have hb0 : Below w.heap.size w ((w.alloc (bx 0 0)).alloc (bx 0 0)) := (Below.refl _ _).alloc (Nat.le_refl _) _ |>.alloc (by simp) _
  have B1 : PtBlk ((w.alloc (bx 0 0)).alloc (bx 0 0)) w.heap.size [(0, 0)] := (ptBlk_box w 0 0).alloc _
  have B2 : PtBlk ((w.alloc (bx 0 0)).alloc (bx 0 0)) (w.heap.size + 1) [(0, 0)] := by
    have := ptBlk_box (w.alloc (bx 0 0)) 0 0
    rwa [World.size_alloc] at this
  clear B0
  have hz0 : ((w.alloc (bx 0 0)).alloc (bx 0 0)).heap.size = w.heap.size + 2 := by simp
  have HP1 : Hid (PtsIn ((w.alloc (bx 0 0)).alloc (bx 0 0)) b off l) := Lib.hid (HP.out.below hb0 hb)
  generalize (w.alloc (bx 0 0)).alloc (bx 0 0) = wr at *
  have HB0 := Lib.hid hb0
  have HR := Lib.hid (And.intro B1 B2)
  have hB : b < wr.heap.size := by omega
  have hgw : w.heap.size + 1 < wr.heap.size := by omega
  clear hb0 B1 B2 hz0
  have hne : (gt l 0) = (gt l 0) := rfl
  obtain ⟨h1, h2⟩ := HP1.out 0 (gt l 0) (by unfold gt; rw [List.getD_eq_getElem?_getD, List.getElem?_eq_getElem (by rw [HL.out]; exact hn)]; rfl)
  generalize hg0 : gt l 0 = p0 at *
  have HG0 := Lib.hid hg0
  clear hg0 hne
  obtain ⟨x, y⟩ := p0
  simp only [Nat.zero_mul, Nat.add_zero] at h1 h2
  go_cut [4, 5] (fun s t wx => OwnTwo wr x y x y s t wx)
  case first =>
    have lt2 : wr.heap.size < wr.heap.size + 1 + 1 := by omega
    have n1 := World.new_ne wr _ h1
    have n2 := World.new_ne wr _ h2
    go_region_held3 (fun w' => Below wr.heap.size wr w' ∧ w'.cell? ⟨b, off, none⟩ = some (.int .i64 x) ∧ w'.cell? ⟨b, off + 1, none⟩ = some (.int .i64 y))
      (((repeat (first | refine keep_drew ?_ | refine keep_alloc ?_ hB _ | refine keep_set ?_ hB _ (by simp) _)); (first | assumption | exact hS | exact ⟨Below.refl _ _, h1, h2⟩)))
      (fail)
    all_goals (go_wp2_with fail; go_meet)
    · exact ownTwo wr x y x y
    · exact ownTwo' wr x y x y
  case rest =>
    obtain ⟨g, h, rfl, rfl, hne, hg, hh, PG, PH, hb1⟩ := hcut
    have HR1 := Lib.hid (And.intro (HR.out.1.below hb1 (by omega)) (HR.out.2.below hb1 (by omega)))
    have HBW := Lib.hid (HB0.out.trans (hb1.mono HB0.out.size))
    have HP2 := Lib.hid (HP1.out.below hb1 hB)
    have hB2 : b < wc.heap.size := Nat.lt_of_lt_of_le hB hb1.size
    have hgs : g < wc.heap.size := PG.lt
    have hhs : h < wc.heap.size := PH.lt
    have hgw2 : w.heap.size + 1 < g := by omega
    have hhw2 : w.heap.size + 1 < h := by omega
    have HPG : Hid (PtBlk wc g [(boxTo l 0).1] ∧ PtBlk wc h [(boxTo l 0).2]) := Lib.hid (by rw [HE0.out]; exact ⟨PG, PH⟩)
    clear hb1 HB0 HR HP1 h1 h2 hg hh HE0 HG0 PG PH hB hgw
    go_wp2_with fail
    go_loopw [16] (fun i wr => ∃ k : Nat, k ≤ n ∧ i = .int .i64 k ∧ PtBlk wr g [(boxTo l k).1] ∧ PtBlk wr h [(boxTo l k).2] ∧ PtBlk wr w.heap.size [(0, 0)] ∧ PtBlk wr (w.heap.size + 1) [(0, 0)] ∧ PtsIn wr b off l ∧ Below w.heap.size w wr) (fun i _ => n - (intOf i).toNat)
    case atStart => exact ⟨0, Nat.zero_le _, rfl, HPG.out.1, HPG.out.2, HR1.out.1, HR1.out.2, HP2.out, HBW.out⟩
    case round =>
      clear HR1 HBW HP2 HPG
      obtain ⟨k, hk, rfl, PG, PH, R1, R2, hp, hbw⟩ := hrel
      by_cases hlt : k < n
      · have HP3 := Lib.hid hp
        have HRR := Lib.hid (And.intro R1 R2)
        have HPG := Lib.hid (And.intro PG PH)
        obtain ⟨h1, h2⟩ := hp k (gt l k) (by unfold gt; rw [List.getD_eq_getElem?_getD, List.getElem?_eq_getElem (by rw [HL.out]; exact hlt)]; rfl)
        have HS : Hid (boxTo l (k + 1) = ((mn (boxTo l k).1.1 (gt l k).1, mn (boxTo l k).1.2 (gt l k).2), (mx (boxTo l k).2.1 (gt l k).1, mx (boxTo l k).2.2 (gt l k).2))) := Lib.hid rfl
        obtain ⟨g1, g2⟩ := PG.one
        obtain ⟨k1, k2⟩ := PH.one
        have f1 := PG.frozen 0
        have f2 := PG.frozen 1
        have f3 := PH.frozen 0
        have f4 := PH.frozen 1
        have hgz := PG.lt
        have hhz := PH.lt
        have hbz : b < wr.heap.size := block_lt_of_cell h1
        have hne' : h ≠ g := Ne.symm hne
        clear hp R1 R2 PG PH
        generalize gt l k = p at *
        generalize hbo : boxTo l k = bo at *
        clear hbo
        obtain ⟨x, y⟩ := p
        obtain ⟨⟨lx, ly⟩, hx, hy⟩ := bo
        simp only at g1 g2 k1 k2 h1 h2
        go_wp2_with fail
        go_roundw
        case rel =>
          have hbe : Below w.heap.size w (((((wr.setCell ⟨g, 0, none⟩ (.int .i64 (mn lx x))).setCell ⟨g, 1, none⟩ (.int .i64 (mn ly y))).setCell ⟨h, 0, none⟩ (.int .i64 (mx hx x))).setCell ⟨h, 1, none⟩ (.int .i64 (mx hy y))).alloc (bx x y)) :=
            ((((hbw.setCell (by simp; omega) _).setCell (by simp; omega) _).setCell (by simp; omega) _).setCell (by simp; omega) _).alloc (by simp; have := hbw.size; omega) _
          refine ⟨k + 1, by omega, by go_num, ?_, ?_, ?_, ?_, HP.out.below hbe hb, hbe⟩
          · rw [HS.out]
            exact (((HPG.out.1.put _ _).far hne _).far hne _).alloc _
          · rw [HS.out]
            exact (((HPG.out.2.far hne' _).far hne' _).put _ _).alloc _
          · exact ((((HRR.out.1.far (by simp; omega) _).far (by simp; omega) _).far (by simp; omega) _).far (by simp; omega) _).alloc _
          · exact ((((HRR.out.2.far (by simp; omega) _).far (by simp; omega) _).far (by simp; omega) _).far (by simp; omega) _).alloc _
        case measure => simp [intOf]; omega
      · obtain rfl : k = n := by omega
        rw [HE1.out] at PG
        rw [HE2.out] at PH
        obtain ⟨g1, g2⟩ := PG.one
        obtain ⟨k1, k2⟩ := PH.one
        obtain ⟨r1, r2⟩ := R1.one
        obtain ⟨s1, s2⟩ := R2.one
        have f1 := R1.frozen 0
        have f2 := R1.frozen 1
        have f3 := R2.frozen 0
        have f4 := R2.frozen 1
        have hgz := PG.lt
        have hhz := PH.lt
        have hrz := R2.lt
        have n1 : ¬ g = w.heap.size := by omega
        have n2 : ¬ w.heap.size = g := by omega
        have n3 : ¬ h = w.heap.size := by omega
        have n4 : ¬ w.heap.size = h := by omega
        have n5 : ¬ g = w.heap.size + 1 := by omega
        have n6 : ¬ w.heap.size + 1 = g := by omega
        have n7 : ¬ h = w.heap.size + 1 := by omega
        have n8 : ¬ w.heap.size + 1 = h := by omega
        have HBW := Lib.hid hbw
        clear PG PH R1 R2 hp hbw
        go_wp2_with fail
        go_region
        all_goals
          go_wp2
          refine bodyPost_ret (v := .tuple #[.agg #[.int .i64 lo1, .int .i64 lo2], .agg #[.int .i64 hi1, .int .i64 hi2]]) (by simp [results, Try.results29, go_sem, *]) rfl ⟨rfl, ?_⟩
          exact ((((HBW.out.setCell (by simp) _).setCell (by simp) _).setCell (by simp) _).setCell (by simp) _).drew
end Go.Proofs.Ytffjonpajjioaaa

/- Package shape's place: the first free vector. -/
namespace Go.Proofs.Ytffjonpajjioaaa
open Go.RowKit Go.Sort
attribute [local go_sem ↓] run_min_mn run_max_mx Go.wp_at_zero Go.wp_at_succ

def placeV : Option Pt → Value
  | some v => .tuple #[.agg #[.int .i64 v.1, .int .i64 v.2], .bool true]
  | none => .tuple #[.agg #[.int .i64 0, .int .i64 0], .bool false]
def PlaceTo (rx ry : Int) (L : List (List Pt)) (s : List Pt) (w : World) (e : Ending) (w' : World) : Prop :=
  ∃ r, IsFirst rx ry (freeB L s) r ∧ e = .returned (placeV r) ∧ Below w.heap.size w w'

/-- Shapes that may be nested. -/
def Small (W : Int) (p : List Pt) : Prop := ∀ x ∈ p, (0 ≤ x.1 ∧ x.1 ≤ W) ∧ (0 ≤ x.2 ∧ x.2 ≤ W)
theorem vtx_wd {W : Int} (hW : W ≤ 30000) {p : List Pt} (h3 : 3 ≤ p.length) (h : Small W p) (i : Nat) : Wd (vtx p i) := by
  have := h _ (vtx_mem (by omega) i)
  unfold Wd
  omega

set_option maxRecDepth 100000 in
set_option maxHeartbeats 4000000 in
theorem place_any (hS : SortsPts) (hR : ReversesPts) (b off n c : Nat) (s : List Pt) (s0 : Pt) (B : Option Addr) (m d : Nat) (L : List (List Pt)) (rx ry : Int) (w : World)
    (hl : s.length = n) (hn' : n ≤ 32) (h : PtsIn w b off s) (hb : b < w.heap.size) (cs : Conv s s0) (hs : Small 20000 s)
    (hm : L.length = m) (hm' : m ≤ 16) (hx : PolysAt w B L) (hL : ∀ p ∈ L, (∃ p0, Conv p p0) ∧ p.length ≤ 32 ∧ Small 100 p) (hrx : -30000 ≤ rx ∧ rx ≤ 100) (hry : -30000 ≤ ry ∧ ry ≤ 100) :
    Calls Try.prog 31 #[.agg #[.int .i64 rx, .int .i64 ry], .slice (some ⟨b, off, none⟩) n c, .slice B m d] w (PlaceTo rx ry L s w) := by
  have h3 := cs.three
  rw [hl] at h3
  have hl' := hl
  have hws : ∀ p ∈ s, Wd p := fun p hp => by have := hs p hp; unfold Wd; omega
  have NG := fun W hW => Lib.hid (negativeW_any hS hR b off n c s W hl (by omega) (by omega) (h.below (B := w.heap.size) hW hb) (Nat.lt_of_lt_of_le hb hW.size) hws)
  have HCS := Lib.hid cs
  have HSM := Lib.hid hs
  have HM := Lib.hid hm
  have HX := Lib.hid hx
  have HLL := Lib.hid hL
  clear hl h cs hs hm hx hL hws
  go_enter Try.func31, Try.ntmps31
  go_upto_region 1 with (fail)
  have hb0 : Below w.heap.size w ((w.alloc (bx rx ry)).alloc (bx 0 0)) := (Below.refl _ _).alloc (Nat.le_refl _) _ |>.alloc (by simp) _
  have B1 : PtBlk ((w.alloc (bx rx ry)).alloc (bx 0 0)) w.heap.size [(rx, ry)] := (ptBlk_box w rx ry).alloc _
  have B2 : PtBlk ((w.alloc (bx rx ry)).alloc (bx 0 0)) (w.heap.size + 1) [(0, 0)] := by
    have := ptBlk_box (w.alloc (bx rx ry)) 0 0
    rwa [World.size_alloc] at this
  generalize (w.alloc (bx rx ry)).alloc (bx 0 0) = w0 at *
  go_wp2_with fail
  refine ((NG _ hb0).out).mono ?_
  rintro e w1 ⟨sn, v, hp, hso, rfl, ho, hb1⟩
  obtain ⟨z0, hN, cN, lN⟩ := neg_conv HCS.out hp hso
  have hN3 := cN.three
  have HBW1 := Lib.hid (hb0.trans (hb1.mono hb0.size))
  have HBB := Lib.hid (And.intro (B1.below hb1 (B1.lt)) (B2.below hb1 (B2.lt)))
  have hz1 : w.heap.size + 1 < w1.heap.size := (HBB.out.2).lt
  rw [hl'] at lN
  have hNb : ∀ p ∈ hullL sn, (-20000 ≤ p.1 ∧ p.1 ≤ 0) ∧ (-20000 ≤ p.2 ∧ p.2 ≤ 0) := fun p hp' => by
    obtain ⟨q, hq, rfl⟩ := List.mem_map.1 (hull_sub hN hp')
    have := HSM.out q hq
    unfold negP
    simp only
    omega
  obtain ⟨A1, c1, rfl, TN, -⟩ := ho.ty (by intro e; rw [e] at hN3; simp at hN3)
  clear hp hso ho hb1 hb0 B1 B2 NG
  generalize hullL sn = N at *
  obtain ⟨gN, rfl, hgN, hNp⟩ := TN.lt
  have HNP := Lib.hid hNp
  have HNB := Lib.hid hNb
  have HNW : Hid (∀ i, Wd (vtx N i)) := Lib.hid fun i => by
    have := hNb _ (vtx_mem (by omega) i)
    unfold Wd
    omega
  have HCN := Lib.hid cN
  have HN := Lib.hid hN
  clear hNp hNb cN hN TN
  go_wp2_with fail
  go_loopw [9, 20] (fun v9 i wr => ∃ (k : Nat) (Ks : List (List Pt)), k ≤ m ∧ i = .int .i64 k ∧ PolysOwn wr w1.heap.size v9 Ks ∧ Fits (L.take k) N Ks z0 ∧ (∀ K ∈ Ks, Askable K) ∧ Below w1.heap.size w1 wr) (fun _ i _ => m - (intOf i).toNat)
  case atStart => exact ⟨0, [], Nat.zero_le _, rfl, PolysOwn.nil _ _, ⟨rfl, fun i p K h => (by simp at h)⟩, fun K h => (by cases h), Below.refl _ _⟩
  case round =>
    obtain ⟨k, Ks, hk, rfl, ho, hf, ha, hbw⟩ := hrel
    have HO := Lib.hid ho
    have HF := Lib.hid hf
    have HA := Lib.hid ha
    clear ho hf ha
    by_cases hlt : k < m
    · have hkl : k < L.length := by rw [HM.out]; exact hlt
      obtain ⟨b1, off1, rfl, hbl, hps⟩ := HX.out (by intro e; rw [e] at hkl; simp at hkl)
      have hbw' := HBW1.out.trans (hbw.mono HBW1.out.size)
      obtain ⟨A2, n2, c2, h1, h2, h3', h4⟩ := (hps.below hbw' hbl) k _ (List.getElem?_eq_getElem hkl)
      obtain ⟨⟨p0, cp⟩, lp, sp⟩ := HLL.out _ (List.getElem_mem hkl)
      have HT : Hid (L.take (k + 1) = L.take k ++ [L[k]]) := Lib.hid (List.take_succ_eq_append_getElem hkl)
      have hb2 : b1 < wr.heap.size := block_lt_of_cell h1
      generalize L[k] = p at *
      have hp3 := cp.three
      obtain ⟨b3, off3, rfl, hb3, hpp⟩ := h4 (by intro e; rw [e] at hp3; simp at hp3)
      obtain ⟨K, hK, cK⟩ := conv_sums cp HCN.out
      have HFit : Hid (Fit p N K z0) := Lib.hid ⟨p0, cp, hK, cK⟩
      have hKl := sum_len cp HCN.out hK cK
      have HKB : Hid (Askable K) := Lib.hid (by
        have hK3 := cK.three
        refine ⟨by omega, by omega, fun i => ?_⟩
        unfold gt
        rw [List.getD_eq_getElem?_getD]
        cases e : K[i]? with
        | none => exact ⟨by decide, by decide⟩
        | some x =>
          obtain ⟨u, hu, y, hy, rfl⟩ := mem_sums.1 (hull_sub hK (List.mem_of_getElem? e))
          have q1 := sp u hu
          have q2 := HNB.out y hy
          unfold Bd sumP
          simp only [Option.getD_some]
          omega)
      have SW := Lib.hid (sumW_any b3 off3 n2 c2 gN 0 N.length c1 p N K p0 z0 wr h2 rfl (by omega) (by omega) hpp hb3 (HNP.out.below hbw hgN) (Nat.lt_of_lt_of_le hgN hbw.size) (vtx_wd (by omega) hp3 sp) HNW.out cp HCN.out hK cK)
      have hK3 := cK.three
      clear cp lp sp hK cK h3' h4 hpp hps
      go_wp2_with fail
      refine (SW.out).mono ?_
      rintro e w2 ⟨v, rfl, hoK, hb4⟩
      obtain ⟨A3, c3, rfl, TK, -⟩ := hoK.ty (by intro e; rw [e] at hK3; simp at hK3)
      have hbw2 := hbw.trans (hb4.mono hbw.size)
      have hbA : Below wr.heap.size wr (w2.alloc (.cells #[.slice A3 K.length c3] 24)) := hb4.alloc hb4.size _
      have HOA := Lib.hid (HO.out.belows hbA)
      have HTA := Lib.hid (TK.below (((Below.refl w2.heap.size w2).alloc (Nat.le_refl _) (.cells #[.slice A3 K.length c3] 24))))
      have hcell : (w2.alloc (.cells #[.slice A3 K.length c3] 24)).cell? ⟨w2.heap.size, 0, none⟩ = some (.slice A3 K.length c3) := by simp [World.cell?_alloc_new]
      have hKsl : Ks.length + 1 ≤ 100000 := by
        have := HF.out.1
        rw [List.length_take] at this
        omega
      have hbs : w1.heap.size ≤ (w2.alloc (.cells #[.slice A3 K.length c3] 24)).heap.size := by rw [World.size_alloc]; have := hbw2.size; omega
      have HBA := Lib.hid (hbw2.alloc (hbw2.size) (.cells #[.slice A3 K.length c3] 24))
      have HNF : Hid (Fits (L.take (k + 1)) N (Ks ++ [K]) z0) := Lib.hid (by rw [HT.out]; exact fits_push HF.out HFit.out)
      have HNA : Hid (∀ J ∈ Ks ++ [K], Askable J) := Lib.hid fun J hJ => by
        rcases List.mem_append.1 hJ with hJ | hJ
        · exact HA.out J hJ
        · obtain rfl := List.mem_singleton.1 hJ
          exact HKB.out
      clear SW hoK TK hb4 hbA h1
      go_wp2_with (at_builtin; refine wpList_plapp rfl (.tmp 24) (.tmp 28) rfl w1.heap.size _ Ks w2.heap.size A3 K.length c3 K rfl rfl HOA.out hcell rfl (fun _ => HTA.out) hKsl hbs ?_; intro v1 w3 ho hg hat; have HO3 := Lib.hid ho; have HG3 := Lib.hid hg; clear ho hg hat)
      have HB3 := Lib.hid (HBA.out.grown HG3.out hbs (fun k hk => (HOA.out.base k hk).1))
      go_roundw
      case rel => exact ⟨k + 1, Ks ++ [K], by omega, by go_num, HO3.out, HNF.out, HNA.out, HB3.out⟩
      case measure => simp [intOf]; omega
    · obtain rfl : k = m := by omega
      have HFL : Hid (Fits L N Ks z0) := Lib.hid (by have := HF.out; rwa [List.take_of_length_le (by rw [HM.out]; omega)] at this)
      have HFREE : Hid (∀ v, freeB L s v = !anyHit v Ks) := Lib.hid fun v => fits_free HCS.out HN.out HCN.out HFL.out v
      have HKL : Hid (Ks.length ≤ 16) := Lib.hid (by have := HFL.out.1; rw [this, HM.out]; omega)
      obtain ⟨A4, c4, rfl, hat⟩ := HO.out.slice (fun K hK => by have := (HA.out K hK).2.1; omega)
      have HAT := Lib.hid hat
      have HB := Lib.hid (And.intro (HBB.out.1.below hbw (by omega)) (HBB.out.2.below hbw (by omega)))
      have HBW := Lib.hid (HBW1.out.trans (hbw.mono HBW1.out.size))
      have hz2 : w.heap.size + 1 < wr.heap.size := HB.out.2.lt
      obtain ⟨r1, r2⟩ := HB.out.1.one
      clear hat HO HF HFL HNP HNB HNW HCN HN HBB HBW1 HX HLL HSM HCS hgN hN3 lN hbw
      obtain ⟨wo, rfl⟩ : ∃ wo : World, wo = wr := ⟨_, rfl⟩
      have q1 : IntKind.i64.wrap (ry + 1) = ry + 1 := by rw [IntKind.wrap_i64]; omega
      have q2 : IntKind.i64.wrap (rx + 1) = rx + 1 := by rw [IntKind.wrap_i64]; omega
      go_wp2_with fail
      go_loopw [34] (fun yv wr => ∃ y : Nat, yv = .int .i64 y ∧ ((y : Int) ≤ ry + 1 ∨ y = 0) ∧ (∀ u : Pt, 0 ≤ u.1 → u.1 ≤ rx → 0 ≤ u.2 → u.2 ≤ ry → u.2 < y → anyHit u Ks = true) ∧ Below wo.heap.size wo wr) (fun yv _ => (ry + 1 - intOf yv).toNat)
      case atStart => exact ⟨0, rfl, .inr rfl, fun u _ _ h3 _ h5 => by omega, Below.refl _ _⟩
      case round =>
        obtain ⟨y, rfl, hy, hrow, hby⟩ := hrel
        have HROW := Lib.hid hrow
        clear hrow r1 r2
        obtain ⟨wy, rfl⟩ : ∃ wy : World, wy = wr := ⟨_, rfl⟩
        by_cases hlt : (y : Int) < ry + 1
        · obtain ⟨r1, r2⟩ := (HB.out.1.below hby (by omega)).one
          go_wp2_with fail
          go_loopw [40] (fun xv wr => ∃ x : Nat, xv = .int .i64 x ∧ ((x : Int) ≤ rx + 1 ∨ x = 0) ∧ (∀ u : Pt, 0 ≤ u.1 → u.1 ≤ rx → u.2 = y → u.1 < x → anyHit u Ks = true) ∧ Below wo.heap.size wo wr) (fun xv _ => (rx + 1 - intOf xv).toNat)
          case atStart => exact ⟨0, rfl, .inr rfl, fun u h1 _ _ h4 => by omega, hby⟩
          case round =>
            obtain ⟨x, rfl, hx, hcol, hbx⟩ := hrel
            have HCOL := Lib.hid hcol
            clear hcol r1 r2
            by_cases hlx : (x : Int) < rx + 1
            · have hba : Below wo.heap.size wo (wr.alloc (bx x y)) := hbx.alloc hbx.size _
              have CH := Lib.hid (containsHit_any A4 Ks.length c4 Ks x y wr.heap.size (wr.alloc (bx x y)) rfl (by have := HKL.out; omega) (HAT.out.below hba) HA.out ⟨by simp only; omega, by simp only; omega⟩ PtAt.new (by simp))
              have HT : Hid (anyHit ((x : Int), (y : Int)) Ks = anyHit ((x : Int), (y : Int)) Ks) := Lib.hid rfl
              generalize hh : anyHit ((x : Int), (y : Int)) Ks = t at *
              have HH := Lib.hid hh
              clear hh HT
              go_wp2_with fail
              refine (CH.out).mono ?_
              rintro e w5 ⟨rfl, hb5⟩
              have hbw5 := hba.trans (hb5.mono hba.size)
              obtain ⟨p1, p2⟩ := PtAt.below hb5 (by simp) (PtAt.new (w := wr) (x := (x : Int)) (y := (y : Int)) (t := 27))
              clear CH hb5 hba
              cases t
              · obtain ⟨z1, z2⟩ := (HB.out.2.below hbw5 (by omega)).one
                have f1 := (HB.out.2.below hbw5 (by omega)).frozen 0
                have f2 := (HB.out.2.below hbw5 (by omega)).frozen 1
                have hg6 := (HB.out.2.below hbw5 (by omega)).lt
                have HFIN : Hid (IsFirst rx ry (freeB L s) (some ((x : Int), (y : Int)))) := Lib.hid ⟨⟨by simp only; omega, by simp only; omega⟩, ⟨by simp only; omega, by simp only; omega⟩, by rw [HFREE.out, HH.out]; rfl, fun u h1 h2 h3 h4 h5 => by
                  rw [HFREE.out]
                  simp only at h5
                  rcases h5 with h5 | ⟨h5, h6⟩
                  · rw [HROW.out u h1 h2 h3 h4 h5]; rfl
                  · rw [HCOL.out u h1 h2 h5 h6]; rfl⟩
                have HBF := Lib.hid (HBW.out.trans (hbw5.mono HBW.out.size))
                clear hbw5
                go_wp2_with fail
                refine bodyPost_ret (v := placeV (some ((x : Int), (y : Int)))) (by simp [placeV, results, Try.results31, go_sem, z1, z2]) rfl ⟨_, HFIN.out, rfl, ?_⟩
                exact (HBF.out.setCell (by simp) _).setCell (by simp) _
              · go_wp2_with fail
                go_roundw
                case rel =>
                  refine ⟨x + 1, by go_num, by omega, fun u h1 h2 h3 h4 => ?_, hbw5⟩
                  by_cases he : u.1 < x
                  · exact HCOL.out u h1 h2 h3 he
                  · rw [show u = ((x : Int), (y : Int)) from Prod.ext (by simp only; omega) h3]
                    exact HH.out
                case measure => simp [intOf]; omega
            · go_wp2_with fail
              go_roundw
              case rel =>
                refine ⟨y + 1, by go_num, by omega, fun u h1 h2 h3 h4 h5 => ?_, hbx⟩
                by_cases he : u.2 < y
                · exact HROW.out u h1 h2 h3 h4 he
                · exact HCOL.out u h1 h2 (by omega) (by omega)
              case measure => simp [intOf]; omega
        · obtain ⟨z1, z2⟩ := (HB.out.2.below hby (by omega)).one
          have f1 := (HB.out.2.below hby (by omega)).frozen 0
          have f2 := (HB.out.2.below hby (by omega)).frozen 1
          have hg6 := (HB.out.2.below hby (by omega)).lt
          have HFIN : Hid (IsFirst rx ry (freeB L s) none) := Lib.hid fun u h1 h2 h3 h4 => by
            rw [HFREE.out, HROW.out u h1 h2 h3 h4 (by omega)]; rfl
          have HBF := Lib.hid (HBW.out.trans (hby.mono HBW.out.size))
          clear hby
          go_wp2_with fail
          refine bodyPost_ret (v := placeV none) (by simp [placeV, results, Try.results31, go_sem, z1, z2]) rfl ⟨_, HFIN.out, rfl, ?_⟩
          exact (HBF.out.setCell (by simp) _).setCell (by simp) _
end Go.Proofs.Ytffjonpajjioaaa

/- Package shape's nest. -/
namespace Go.Proofs.Ytffjonpajjioaaa
open Go.RowKit Go.Sort
attribute [local go_sem ↓] run_min_mn run_max_mx Go.wp_at_zero Go.wp_at_succ

/-- Shapes that may be given. -/
def ShapeOk (l : List Pt) : Prop := (∃ l0, Conv l l0) ∧ l.length ≤ 32 ∧ l.all okP = true
def NestD (W H : Int) (L : List (List Pt)) (w : World) (e : Ending) (w' : World) : Prop :=
  ∃ v, e = .returned v ∧ PlOwn w' w.heap.size v (nestTo W H L L.length).out ∧ Below w.heap.size w w'

theorem box_ok {l : List Pt} (h : l.all okP = true) : ((-10000 ≤ (lowL l).1 ∧ (lowL l).1 ≤ 10000) ∧ (-10000 ≤ (lowL l).2 ∧ (lowL l).2 ≤ 10000)) ∧ ((-10000 ≤ (highL l).1 ∧ (highL l).1 ≤ 10000) ∧ (-10000 ≤ (highL l).2 ∧ (highL l).2 ≤ 10000)) :=
  boxTo_bd (L := 10000) (fun i => okP_bd (getD_ok h i)) l.length
theorem box_le {l : List Pt} (h : 0 < l.length) : (lowL l).1 ≤ (highL l).1 ∧ (lowL l).2 ≤ (highL l).2 := by
  have := boxTo_in l l.length 0 h
  unfold lowL highL
  omega
theorem atZero_small {l : List Pt} (h : l.all okP = true) : Small 20000 (atZero l) := fun x hx => by
  have h1 := atZero_bd hx
  have h2 := box_ok h
  omega

set_option maxRecDepth 100000 in
set_option maxHeartbeats 4000000 in
theorem nest_any (hS : SortsPts) (hR : ReversesPts) (B : Option Addr) (m d : Nat) (L : List (List Pt)) (W H : Int) (w : World)
    (hm : L.length = m) (hm' : m ≤ 16) (hx : PolysAt w B L) (hL : ∀ l ∈ L, ShapeOk l) (hW : 0 ≤ W ∧ W ≤ 100) (hH : 0 ≤ H ∧ H ≤ 100) :
    Calls Try.prog 14 #[.int .i64 W, .int .i64 H, .slice B m d] w (NestD W H L w) := by
  have HM := Lib.hid hm
  have HX := Lib.hid hx
  have HLL := Lib.hid hL
  have HLD := fun k (hk : k ≤ m) => Lib.hid (nestTo_laid (w := W) (h := H) (m := 32) (L := L) (fun l hl => ⟨(hL l hl).1, (hL l hl).2.1⟩) k (by omega))
  clear hm hx hL
  go_enter Try.func14, Try.ntmps14
  go_wp2_with fail
  go_loopw [7, 8, 19] (fun v7 v8 i wr => ∃ k : Nat, k ≤ m ∧ i = .int .i64 k ∧ PlOwn wr w.heap.size v7 (nestTo W H L k).out ∧ PolysOwn wr w.heap.size v8 (nestTo W H L k).laid ∧ Below w.heap.size w wr) (fun _ _ i _ => m - (intOf i).toNat)
  case atStart => exact ⟨0, Nat.zero_le _, rfl, PlOwn.nil _ _, PolysOwn.nil _ _, Below.refl _ _⟩
  case round =>
    obtain ⟨k, hk, rfl, hp, ho, hbw⟩ := hrel
    have HP := Lib.hid hp
    have HO := Lib.hid ho
    clear hp ho
    by_cases hlt : k < m
    · have hkl : k < L.length := by rw [HM.out]; exact hlt
      obtain ⟨b1, off1, rfl, hbl, hps⟩ := HX.out (by intro e; rw [e] at hkl; simp at hkl)
      obtain ⟨A2, n2, c2, h1, h2, h3', h4⟩ := (hps.below hbw hbl) k _ (List.getElem?_eq_getElem hkl)
      have hok := HLL.out _ (List.getElem_mem hkl)
      have HST : Hid (nestTo W H L (k + 1) = nestPut (nestTo W H L k) k L[k] (nestV W H (nestTo W H L k).laid L[k])) := Lib.hid (by
        show nestPut (nestTo W H L k) k (L.getD k []) (nestV W H (nestTo W H L k).laid (L.getD k [])) = _
        rw [List.getD_eq_getElem?_getD, List.getElem?_eq_getElem hkl]; rfl)
      have HLDk := HLD k hk
      generalize nestTo W H L k = st at *
      generalize L[k] = l at *
      obtain ⟨⟨l0, cl⟩, ll, lok⟩ := hok
      have hl3 := cl.three
      obtain ⟨b3, off3, rfl, hb3, hpp⟩ := h4 (by intro e; rw [e] at hl3; simp at hl3)
      have HBX := box_ok lok
      have HBL := box_le (l := l) (by omega)
      have HPP := Lib.hid hpp
      have HCL := Lib.hid cl
      have HSM := Lib.hid (atZero_small lok)
      have HBD : Hid (∀ i, Bd (gt l i)) := Lib.hid fun i => Bd.of_ok (getD_ok lok i)
      have BX := Lib.hid (boxD_any b3 off3 n2 c2 l wr h2 (by omega) (by omega) hpp hb3)
      have HAZ : Hid (atZero l = movedL l (negP (lowL l))) := Lib.hid rfl
      have HNV : Hid (∀ r, IsFirst (W - ((highL l).1 - (lowL l).1)) (H - ((highL l).2 - (lowL l).2)) (freeB st.laid (atZero l)) r → nestV W H st.laid l = r) := Lib.hid fun r hr => firstOf_eq hr
      have HCZ : Hid (Conv (atZero l) (addP l0 (negP (lowL l)))) := Lib.hid (cl.moved _)
      have HLZ : Hid ((atZero l).length = n2) := Lib.hid (by rw [← h2]; exact movedL_length _ _)
      clear cl lok hpp h4 hps h3'
      generalize lowL l = lo at *
      generalize highL l = hi at *
      obtain ⟨lx, ly⟩ := lo
      obtain ⟨hx, hy⟩ := hi
      simp only at HBX HBL
      go_wp2_with fail
      refine (BX.out).mono ?_
      rintro e w1 ⟨rfl, hb1⟩
      clear BX
      obtain ⟨hld1, hld2, hld3, hld4⟩ := HLDk.out
      have HLAID : Hid (∀ p ∈ st.laid, (∃ p0, Conv p p0) ∧ p.length ≤ 32 ∧ Small 100 p) := Lib.hid fun p hp => by
        obtain ⟨c1, c2, c3⟩ := hld1 p hp
        exact ⟨c1, c2, fun x hx => by have := c3 x hx; omega⟩
      obtain ⟨A5, c5, rfl, hat5⟩ := HO.out.slice (fun p hp => by have := (HLAID.out p hp).2.1; omega)
      have HAT := Lib.hid hat5
      have HLD2 := Lib.hid hld2
      have HLD3 := Lib.hid hld3
      clear hat5 hld1 hld2 hld3 hld4 HLDk
      have M1 := fun V => Lib.hid (minus_any 0 0 lx ly V (by omega) (by omega) (by omega) (by omega))
      have M2 := fun V => Lib.hid (minus_any hx hy lx ly V (by omega) (by omega) (by omega) (by omega))
      have q0 : negP (lx, ly) = (-lx, -ly) := rfl
      rw [q0] at HAZ HCZ
      have MV := fun V hV => Lib.hid (moved_any b3 off3 n2 c2 l (-lx, -ly) V h2 (by omega) (HPP.out.below (B := wr.heap.size) hV hb3) (Nat.lt_of_lt_of_le hb3 hV.size) HBD.out ⟨by simp only; omega, by simp only; omega⟩)
      rw [← HAZ.out] at MV
      have HSEQ : Hid (atZero l = atZero l) := Lib.hid rfl
      generalize hs0 : atZero l = s at *
      replace HSEQ := Lib.hid hs0
      clear hs0
      have H2 := Lib.hid h2
      clear h2
      go_wp2_with fail
      have B2 := boxed2 w1 lx ly hx hy
      generalize (w1.alloc (Go.Proofs.Ytffjonpajjioaaa.bx lx ly)).alloc (Go.Proofs.Ytffjonpajjioaaa.bx hx hy) = w2 at *
      obtain ⟨P1, P2, hb2, hz2⟩ := B2
      have hbr2 := hb1.trans (hb2.mono hb1.size)
      have hgw : wr.heap.size ≤ w1.heap.size := hb1.size
      generalize w1.heap.size = g at *
      have hg2 : g + 1 < w2.heap.size := by omega
      clear hb2 hz2 hb1 q0
      refine ((M1 _).out).mono ?_
      rintro e w3 ⟨rfl, hb3'⟩
      replace P1 := PtAt.below hb3' (by omega) P1
      replace P2 := PtAt.below hb3' (by omega) P2
      have hbr3 := hbr2.trans (hb3'.mono hbr2.size)
      have hg3 : g + 1 < w3.heap.size := by have := hb3'.size; omega
      clear hb3' hbr2 hg2 M1
      go_wp2_with fail
      refine ((MV _ hbr3).out).mono ?_
      rintro e w4 ⟨gs, rfl, hgs, PS, hb4⟩
      replace P1 := PtAt.below hb4 (by omega) P1
      replace P2 := PtAt.below hb4 (by omega) P2
      have hbr4 := hbr3.trans (hb4.mono hbr3.size)
      have hg4 : g + 1 < w4.heap.size := by have := hb4.size; omega
      clear hb4 hbr3 hg3 MV
      obtain ⟨p1, p2⟩ := P1
      obtain ⟨p3, p4⟩ := P2
      go_wp2_with fail
      refine ((M2 _).out).mono ?_
      rintro e w5 ⟨rfl, hb5⟩
      replace PS := PS.below hb5 PS.lt
      have hbr5 := hbr4.trans (hb5.mono hbr4.size)
      clear hb5 hbr4 M2 p1 p2 p3 p4 hg4
      have q1 : IntKind.i64.wrap (W - (hx - lx)) = W - (hx - lx) := by rw [IntKind.wrap_i64]; omega
      have q2 : IntKind.i64.wrap (H - (hy - ly)) = H - (hy - ly) := by rw [IntKind.wrap_i64]; omega
      go_wp2_with fail
      have hb6 : Below w5.heap.size w5 ((w5.alloc (Go.Proofs.Ytffjonpajjioaaa.bx (hx - lx) (hy - ly))).alloc (Go.Proofs.Ytffjonpajjioaaa.bx (W - (hx - lx)) (H - (hy - ly)))) := (Below.refl _ _).alloc (Nat.le_refl _) _ |>.alloc (by simp) _
      generalize (w5.alloc (Go.Proofs.Ytffjonpajjioaaa.bx (hx - lx) (hy - ly))).alloc (Go.Proofs.Ytffjonpajjioaaa.bx (W - (hx - lx)) (H - (hy - ly))) = w6 at *
      have hbr6 := hbr5.trans (hb6.mono hbr5.size)
      replace PS := PS.below hb6 PS.lt
      have PL := Lib.hid (place_any hS hR gs 0 n2 n2 s _ A5 st.laid.length c5 st.laid (W - (hx - lx)) (H - (hy - ly)) w6 HLZ.out (by have := H2.out; omega) PS.pts PS.lt HCZ.out HSM.out rfl (by have := HLD2.out; omega) (HAT.out.below hbr6) HLAID.out (by omega) (by omega))
      have HPS := Lib.hid PS
      have HBR6 := Lib.hid hbr6
      clear hb6 hbr5 hbr6 PS q1 q2
      refine (PL.out).mono ?_
      rintro e w7 ⟨r, hfirst, rfl, hb7⟩
      have HR := Lib.hid (HNV.out r hfirst)
      have HFI := Lib.hid hfirst
      have hbr7 := HBR6.out.trans (hb7.mono HBR6.out.size)
      clear PL hfirst
      cases r with
      | none =>
        have HN : Hid (nestTo W H L (k + 1) = st) := Lib.hid (by rw [HST.out, HR.out]; rfl)
        have HB8 := Lib.hid (hbw.trans ((hbr7.alloc hbr7.size (Go.Proofs.Ytffjonpajjioaaa.bx 0 0)).mono hbw.size))
        have HP8 := Lib.hid (HP.out.belows (hbr7.alloc hbr7.size (Go.Proofs.Ytffjonpajjioaaa.bx 0 0)))
        have HO8 := Lib.hid (HO.out.belows (hbr7.alloc hbr7.size (Go.Proofs.Ytffjonpajjioaaa.bx 0 0)))
        unfold placeV
        go_wp2_with fail
        go_roundw
        case rel => exact ⟨k + 1, by omega, by go_num, by rw [HN.out]; exact HP8.out, by rw [HN.out]; exact HO8.out, HB8.out⟩
        case measure => simp [intOf]; omega
      | some v =>
        obtain ⟨vx, vy⟩ := v
        have HN : Hid (nestTo W H L (k + 1) = ⟨st.out ++ [(k, (vx, vy))], st.laid ++ [movedL s (vx, vy)]⟩) := Lib.hid (by rw [HST.out, HR.out]; unfold nestPut; rw [HSEQ.out])
        obtain ⟨⟨e1, e2⟩, ⟨e3, e4⟩, -, -⟩ := HFI.out
        simp only at e1 e2 e3 e4
        unfold placeV
        have hbA : Below wr.heap.size wr ((w7.alloc (Go.Proofs.Ytffjonpajjioaaa.bx vx vy)).alloc (.cells #[.int .i64 (k : Nat), .int .i64 vx, .int .i64 vy] 34)) := (hbr7.alloc hbr7.size _).alloc (by rw [World.size_alloc]; have := hbr7.size; omega) _
        have HPA := Lib.hid (HP.out.belows hbA)
        have HOA := Lib.hid (HO.out.belows hbA)
        have hb67 : Below w6.heap.size w6 ((w7.alloc (Go.Proofs.Ytffjonpajjioaaa.bx vx vy)).alloc (.cells #[.int .i64 (k : Nat), .int .i64 vx, .int .i64 vy] 34)) := (hb7.alloc hb7.size _).alloc (by rw [World.size_alloc]; have := hb7.size; omega) _
        have HSA := Lib.hid ((HPS.out.below hb67 HPS.out.lt).ty)
        have PA : PtAt ((w7.alloc (Go.Proofs.Ytffjonpajjioaaa.bx vx vy)).alloc (.cells #[.int .i64 (k : Nat), .int .i64 vx, .int .i64 vy] 34)) w7.heap.size vx vy := PtAt.new.alloc _ (by simp)
        have c0 : ((w7.alloc (Go.Proofs.Ytffjonpajjioaaa.bx vx vy)).alloc (.cells #[.int .i64 (k : Nat), .int .i64 vx, .int .i64 vy] 34)).cell? ⟨w7.heap.size + 1, 0, none⟩ = some (.int .i64 (k : Nat)) := by simp
        have c1 : ((w7.alloc (Go.Proofs.Ytffjonpajjioaaa.bx vx vy)).alloc (.cells #[.int .i64 (k : Nat), .int .i64 vx, .int .i64 vy] 34)).cell? ⟨w7.heap.size + 1, 1, none⟩ = some (.int .i64 vx) := by simp
        have c2' : ((w7.alloc (Go.Proofs.Ytffjonpajjioaaa.bx vx vy)).alloc (.cells #[.int .i64 (k : Nat), .int .i64 vx, .int .i64 vy] 34)).cell? ⟨w7.heap.size + 1, 2, none⟩ = some (.int .i64 vy) := by simp
        have hzA : ((w7.alloc (Go.Proofs.Ytffjonpajjioaaa.bx vx vy)).alloc (.cells #[.int .i64 (k : Nat), .int .i64 vx, .int .i64 vy] 34)).heap.size = w7.heap.size + 2 := by simp
        have hol : st.out.length + 1 ≤ 100000 := by have := HLD3.out; have := HLD2.out; omega
        have hbs : w.heap.size ≤ ((w7.alloc (Go.Proofs.Ytffjonpajjioaaa.bx vx vy)).alloc (.cells #[.int .i64 (k : Nat), .int .i64 vx, .int .i64 vy] 34)).heap.size := by rw [hzA]; have := hbr7.size; have := hbw.size; omega
        have HBA := Lib.hid (hbw.trans (hbA.mono hbw.size))
        have hu7 : ∀ j, u7.ownBlock = some j → j < wr.heap.size := fun j hj => (HP.out.base j hj).2
        have hw7 : wr.heap.size ≤ w7.heap.size := hbr7.size
        have HU7 : Hid (some w7.heap.size ≠ u7.ownBlock) := Lib.hid (fun e => by have := hu7 _ e.symm; omega)
        have HZA := Lib.hid hzA
        clear hu7 hbA hb67 hb7 hbr7
        go_upto_region 13 with (at_builtin; refine wpList_placed rfl (.tmp 54) (.tmp 58) rfl w.heap.size _ st.out (w7.heap.size + 1) k vx vy rfl rfl HPA.out c0 c1 c2' hol hbs ?_; intro v1 w8 ho hg hat; have HP8 := Lib.hid ho; have HG8 := Lib.hid hg; clear ho hg hat)
        generalize (w7.alloc (Go.Proofs.Ytffjonpajjioaaa.bx vx vy)).alloc (.cells #[.int .i64 (k : Nat), .int .i64 vx, .int .i64 vy] 34) = wA at *
        have PA8 := PA.grown HG8.out (by have := HZA.out; omega) HU7.out
        have HO8 := Lib.hid (HOA.out.beside HPA.out HG8.out)
        have HS8 := Lib.hid (HSA.out.beside HPA.out HG8.out)
        have HB8 := Lib.hid (HBA.out.grown HG8.out hbs (fun k hk => (HPA.out.base k hk).1))
        obtain ⟨gs', es, hgs', hps'⟩ := HS8.out.lt
        have es := Option.some.inj es
        simp only [Addr.mk.injEq, and_true] at es
        subst es
        have MV2 := Lib.hid (moved_any gs 0 n2 n2 s (vx, vy) w8 HLZ.out (by have := H2.out; omega) hps' hgs' (fun i => by
          unfold gt
          rw [List.getD_eq_getElem?_getD]
          cases e : s[i]? with
          | none => exact ⟨by decide, by decide⟩
          | some x => have := HSM.out x (List.mem_of_getElem? e); exact ⟨by simp only [Option.getD_some]; omega, by simp only [Option.getD_some]; omega⟩) ⟨by simp only; omega, by simp only; omega⟩)
        obtain ⟨p1, p2⟩ := PA8
        clear PA c0 c1 c2' hzA hol hbs hw7 HU7 HG8 HBA HPA HOA HSA hps'
        go_wp2_with fail
        refine (MV2.out).mono ?_
        rintro e w9 ⟨gm, rfl, hgm, PM, hb9⟩
        have HBW9 := HB8.out.trans (hb9.mono HB8.out.size)
        have hb10 : Below w8.heap.size w8 (w9.alloc (.cells #[.slice (some ⟨gm, 0, none⟩) n2 n2] 24)) := hb9.alloc hb9.size _
        have HPB := Lib.hid (HP8.out.belows hb10)
        have HOB := Lib.hid (HO8.out.belows hb10)
        have HMB := Lib.hid ((PM.alloc (.cells #[.slice (some ⟨gm, 0, none⟩) n2 n2] 24)).ty)
        have hcell : (w9.alloc (.cells #[.slice (some ⟨gm, 0, none⟩) n2 n2] 24)).cell? ⟨w9.heap.size, 0, none⟩ = some (.slice (some ⟨gm, 0, none⟩) n2 n2) := by simp [World.cell?_alloc_new]
        have hml : (movedL s (vx, vy)).length = n2 := by rw [movedL_length]; exact HLZ.out
        have hKl : st.laid.length + 1 ≤ 100000 := by have := HLD2.out; omega
        have hbs : w.heap.size ≤ (w9.alloc (.cells #[.slice (some ⟨gm, 0, none⟩) n2 n2] 24)).heap.size := by rw [World.size_alloc]; have := HBW9.size; omega
        have HBB := Lib.hid (HBW9.alloc HBW9.size (.cells #[.slice (some ⟨gm, 0, none⟩) n2 n2] 24))
        have HML := Lib.hid hml
        clear MV2 hb9 hb10 HBW9 p1 p2 PM hml
        go_wp2_with (at_builtin; refine wpList_plapp rfl (.tmp 60) (.tmp 64) rfl w.heap.size _ st.laid w9.heap.size (some ⟨gm, 0, none⟩) n2 n2 (movedL s (vx, vy)) rfl rfl HOB.out hcell HML.out (fun _ => HMB.out) hKl hbs ?_; intro v2 w10 ho hg hat; have HO10 := Lib.hid ho; have HG10 := Lib.hid hg; clear ho hg hat)
        have HP10 := Lib.hid (HPB.out.beside HOB.out HG10.out)
        have HB10 := Lib.hid (HBB.out.grown HG10.out hbs (fun k hk => (HOB.out.base k hk).1))
        go_roundw
        case rel => exact ⟨k + 1, by omega, by go_num, by rw [HN.out]; exact HP10.out, by rw [HN.out]; exact HO10.out, HB10.out⟩
        case measure => simp [intOf]; omega
    · obtain rfl : k = m := by omega
      have HF : Hid (nestTo W H L k = nestTo W H L L.length) := Lib.hid (by rw [HM.out])
      have HBW := Lib.hid hbw
      rw [HF.out] at HP
      go_wp2_with fail
      go_ret
      exact ⟨_, rfl, HP.out, HBW.out⟩
end Go.Proofs.Ytffjonpajjioaaa

/- Shape: areas and lattice points of edges: their parities; polygons that are moved, or read the other way round. -/
namespace Go.Proofs.Ytffjonpajjioaaa

def sumF (f : Nat → Int) : Nat → Int
  | 0 => 0
  | n + 1 => sumF f n + f n
theorem sumF_congr {f g : Nat → Int} : ∀ {n : Nat}, (∀ i, i < n → f i = g i) → sumF f n = sumF g n
  | 0, _ => rfl
  | n + 1, h => by unfold sumF; rw [sumF_congr (n := n) fun i hi => h i (by omega), h n (by omega)]
theorem sumF_neg (f : Nat → Int) : ∀ n, sumF (fun i => - f i) n = - sumF f n
  | 0 => rfl
  | n + 1 => by unfold sumF; rw [sumF_neg f n]; omega
theorem sumF_add (f g : Nat → Int) : ∀ n, sumF (fun i => f i + g i) n = sumF f n + sumF g n
  | 0 => rfl
  | n + 1 => by unfold sumF; rw [sumF_add f g n]; omega
theorem sumF_head (f : Nat → Int) : ∀ n, sumF f (n + 1) = f 0 + sumF (fun i => f (i + 1)) n
  | 0 => by simp [sumF]
  | n + 1 => by
    have := sumF_head f n
    show sumF f (n + 1) + f (n + 1) = f 0 + (sumF (fun i => f (i + 1)) n + f (n + 1))
    omega
theorem sumF_reflect (f : Nat → Int) : ∀ n, sumF (fun i => f (n - 1 - i)) n = sumF f n
  | 0 => rfl
  | n + 1 => by
    rw [sumF_head]
    show f (n + 1 - 1 - 0) + sumF (fun i => f (n + 1 - 1 - (i + 1))) n = sumF f n + f n
    rw [sumF_congr (g := fun i => f (n - 1 - i)) (fun i hi => by rw [show n + 1 - 1 - (i + 1) = n - 1 - i by omega]), sumF_reflect f n, show n + 1 - 1 - 0 = n by omega]
    omega
/-- Round a period, from wherever. -/
theorem sumF_shift (f : Nat → Int) (n : Nat) (hp : ∀ i, f (i + n) = f i) : ∀ c, sumF (fun i => f (i + c)) n = sumF f n
  | 0 => rfl
  | c + 1 => by
    rw [← sumF_shift f n hp c]
    have h := sumF_head (fun i => f (i + c)) n
    have e : sumF (fun i => f (i + c)) (n + 1) = sumF (fun i => f (i + c)) n + f (n + c) := rfl
    have e2 : f (n + c) = f c := by rw [Nat.add_comm]; exact hp c
    have e3 : sumF (fun i => f (i + (c + 1))) n = sumF (fun i => f (i + 1 + c)) n := sumF_congr fun i _ => by rw [show i + (c + 1) = i + 1 + c by omega]
    rw [e3]
    simp only [Nat.zero_add] at h
    omega
/-- What rises and falls round a period. -/
theorem sumF_tele (f : Nat → Int) : ∀ n, sumF (fun i => f (i + 1) - f i) n = f n - f 0
  | 0 => by simp [sumF]
  | n + 1 => by unfold sumF; rw [sumF_tele f n]; omega

def tr (l : List Pt) (i : Nat) : Int := xr (vtx l i) (vtx l (i + 1))
def gcdP (u v : Pt) : Int := (Nat.gcd (v.1 - u.1).natAbs (v.2 - u.2).natAbs : Nat)
def gd (l : List Pt) (i : Nat) : Int := gcdP (vtx l i) (vtx l (i + 1))
def border (l : List Pt) : Int := sumF (gd l) l.length

theorem area2_sum (l : List Pt) : area2 l = sumF (tr l) l.length := by
  have key : ∀ k, k ≤ l.length → area2To l k = sumF (tr l) k := by
    intro k
    induction k with
    | zero => intro _; rfl
    | succ k ih =>
      intro hk
      have e : vtx l k = gt l k := vtx_lt (by omega)
      show area2To l k + ((gt l k).1 * (nx l k).2 - (nx l k).1 * (gt l k).2) = sumF (tr l) k + tr l k
      rw [ih (by omega)]
      unfold tr
      rw [e]; rfl
  exact key _ (Nat.le_refl _)
theorem vtx_per (l : List Pt) (i : Nat) : vtx l (i + 1 + l.length) = vtx l (i + 1) := vtx_add l (i + 1)
theorem tr_per (l : List Pt) (i : Nat) : tr l (i + l.length) = tr l i := by
  unfold tr
  rw [vtx_add, show i + l.length + 1 = i + 1 + l.length by omega, vtx_add]
theorem gd_per (l : List Pt) (i : Nat) : gd l (i + l.length) = gd l i := by
  unfold gd
  rw [vtx_add, show i + l.length + 1 = i + 1 + l.length by omega, vtx_add]
theorem gcdP_comm (u v : Pt) : gcdP u v = gcdP v u := by
  unfold gcdP
  rw [show (v.1 - u.1).natAbs = (u.1 - v.1).natAbs by omega, show (v.2 - u.2).natAbs = (u.2 - v.2).natAbs by omega]

/-- The class of a point by parities: 0 for even ones. -/
def ph (u : Pt) : Int := if u.1 % 2 = 0 ∧ u.2 % 2 = 0 then 0 else 1
theorem gcd_par (a b : Nat) : (Nat.gcd a b) % 2 = if a % 2 = 0 ∧ b % 2 = 0 then 0 else 1 := by
  split
  · rename_i h
    exact Nat.mod_eq_zero_of_dvd (Nat.dvd_gcd (Nat.dvd_of_mod_eq_zero h.1) (Nat.dvd_of_mod_eq_zero h.2))
  · rename_i h
    rcases Nat.mod_two_eq_zero_or_one (Nat.gcd a b) with g | g
    · exfalso
      have d := Nat.dvd_of_mod_eq_zero g
      exact h ⟨Nat.mod_eq_zero_of_dvd (Nat.dvd_trans d (Nat.gcd_dvd_left a b)), Nat.mod_eq_zero_of_dvd (Nat.dvd_trans d (Nat.gcd_dvd_right a b))⟩
    · exact g
theorem mul_par (a b : Int) : (a * b) % 2 = if a % 2 = 0 then 0 else b % 2 := by
  rw [Int.mul_emod]
  split
  · rename_i h; rw [h]; simp
  · rename_i h
    rw [show a % 2 = 1 by omega, Int.one_mul]; omega
theorem par_term (u v : Pt) : (xr u v + gcdP u v) % 2 = (ph u + ph v) % 2 := by
  have g : gcdP u v % 2 = if (v.1 - u.1) % 2 = 0 ∧ (v.2 - u.2) % 2 = 0 then 0 else 1 := by
    unfold gcdP
    have h := gcd_par (v.1 - u.1).natAbs (v.2 - u.2).natAbs
    have e1 : (v.1 - u.1).natAbs % 2 = 0 ↔ (v.1 - u.1) % 2 = 0 := by omega
    have e2 : (v.2 - u.2).natAbs % 2 = 0 ↔ (v.2 - u.2) % 2 = 0 := by omega
    simp only [e1, e2] at h
    split at h <;> rename_i q
    · rw [if_pos q]; omega
    · rw [if_neg q]; omega
  have m1 := mul_par u.1 v.2
  have m2 := mul_par v.1 u.2
  unfold xr ph
  rcases Int.emod_two_eq u.1 with a | a <;> rcases Int.emod_two_eq u.2 with b | b <;> rcases Int.emod_two_eq v.1 with c | c <;> rcases Int.emod_two_eq v.2 with d | d <;>
    simp only [a, b, c, d] at m1 m2 ⊢ <;> split at g <;> simp at m1 m2 ⊢ <;> omega

/-- TWICE THE AREA AND THE POINTS ON THE EDGES ARE BOTH EVEN, OR BOTH ODD. -/
theorem pick_par (l : List Pt) : (area2 l + border l) % 2 = 0 := by
  rw [area2_sum]
  unfold border
  have key : ∀ n, (sumF (tr l) n + sumF (gd l) n) % 2 = (2 * sumF (fun i => ph (vtx l i)) n + (ph (vtx l n) - ph (vtx l 0))) % 2 := by
    intro n
    induction n with
    | zero => simp [sumF]
    | succ n ih =>
      have t := par_term (vtx l n) (vtx l (n + 1))
      show (sumF (tr l) n + tr l n + (sumF (gd l) n + gd l n)) % 2 = (2 * (sumF (fun i => ph (vtx l i)) n + ph (vtx l n)) + (ph (vtx l (n + 1)) - ph (vtx l 0))) % 2
      unfold tr gd at *
      omega
  rw [key]
  have e : vtx l l.length = vtx l 0 := by have := vtx_add l 0; rwa [Nat.zero_add] at this
  rw [e]
  omega

-- moved
theorem tr_moved (l : List Pt) (v : Pt) (h : 0 < l.length) (i : Nat) : tr (movedL l v) i = tr l i + (xr v (vtx l (i + 1)) - xr v (vtx l i)) := by
  unfold tr
  rw [vtx_movedL l v _ h, vtx_movedL l v _ h]
  unfold xr addP; grind
theorem area2_moved (l : List Pt) (v : Pt) (h : 0 < l.length) : area2 (movedL l v) = area2 l := by
  rw [area2_sum, area2_sum, movedL_length, sumF_congr (fun i _ => tr_moved l v h i), sumF_add, sumF_tele (fun i => xr v (vtx l i))]
  have e : vtx l l.length = vtx l 0 := by have := vtx_add l 0; rwa [Nat.zero_add] at this
  rw [e]; omega
theorem border_moved (l : List Pt) (v : Pt) (h : 0 < l.length) : border (movedL l v) = border l := by
  unfold border
  rw [movedL_length]
  refine sumF_congr fun i _ => ?_
  unfold gd
  rw [vtx_movedL l v _ h, vtx_movedL l v _ h]
  unfold gcdP addP
  simp only
  rw [show (vtx l (i + 1)).1 + v.1 - ((vtx l i).1 + v.1) = (vtx l (i + 1)).1 - (vtx l i).1 by omega, show (vtx l (i + 1)).2 + v.2 - ((vtx l i).2 + v.2) = (vtx l (i + 1)).2 - (vtx l i).2 by omega]

-- the other way round
theorem vtx_rev (l : List Pt) (i : Nat) (hi : i ≤ 2 * l.length - 1) (h : 0 < l.length) : vtx l.reverse i = vtx l (2 * l.length - 1 - i) := by
  have key : ∀ j, j < l.length → gt l.reverse j = gt l (l.length - 1 - j) := fun j hj => by
    unfold gt
    rw [List.getD_eq_getElem?_getD, List.getD_eq_getElem?_getD, List.getElem?_reverse hj]
  unfold vtx
  rw [List.length_reverse]
  by_cases g : i < l.length
  · rw [Nat.mod_eq_of_lt g, key i g]
    congr 1
    rw [show 2 * l.length - 1 - i = (l.length - 1 - i) + l.length by omega, Nat.add_mod_right, Nat.mod_eq_of_lt (by omega)]
  · have e : i % l.length = i - l.length := by
      rw [show i = (i - l.length) + l.length by omega, Nat.add_mod_right, Nat.mod_eq_of_lt (by omega)]; omega
    rw [e, key _ (by omega)]
    congr 1
    rw [Nat.mod_eq_of_lt (by omega)]; omega
theorem area2_rev (l : List Pt) (h : 0 < l.length) : area2 l.reverse = - area2 l := by
  rw [area2_sum, area2_sum, List.length_reverse]
  have e : sumF (tr l.reverse) l.length = sumF (fun i => - tr l (l.length - 1 - i + (l.length - 1))) l.length := sumF_congr fun i hi => by
    unfold tr
    rw [vtx_rev l i (by omega) h, vtx_rev l (i + 1) (by omega) h, show 2 * l.length - 1 - i = l.length - 1 - i + (l.length - 1) + 1 by omega, show 2 * l.length - 1 - (i + 1) = l.length - 1 - i + (l.length - 1) by omega, xr_swap]
  rw [e, sumF_neg, sumF_reflect (fun i => tr l (i + (l.length - 1))), sumF_shift (tr l) l.length (tr_per l)]
theorem border_rev (l : List Pt) (h : 0 < l.length) : border l.reverse = border l := by
  unfold border
  rw [List.length_reverse]
  have e : sumF (gd l.reverse) l.length = sumF (fun i => gd l (l.length - 1 - i + (l.length - 1))) l.length := sumF_congr fun i hi => by
    unfold gd
    rw [vtx_rev l i (by omega) h, vtx_rev l (i + 1) (by omega) h, show 2 * l.length - 1 - i = l.length - 1 - i + (l.length - 1) + 1 by omega, show 2 * l.length - 1 - (i + 1) = l.length - 1 - i + (l.length - 1) by omega, gcdP_comm]
  rw [e, sumF_reflect (fun i => gd l (i + (l.length - 1))), sumF_shift (gd l) l.length (gd_per l)]

-- simple polygons by their corners
structure SimpleV (l : List Pt) : Prop where
  ne : ∀ i, i < l.length → vtx l i ≠ vtx l (i + 1)
  fold : ∀ i, i < l.length → onP (vtx l i) (vtx l (i + 1)) (vtx l (i + 1 + 1)) = false ∧ onP (vtx l (i + 1)) (vtx l (i + 1 + 1)) (vtx l i) = false
  hit : ∀ i k, i + 2 ≤ k → k < l.length → ((k + 1) % l.length ≠ i) → meetP (vtx l i) (vtx l (i + 1)) (vtx l k) (vtx l (k + 1)) = false
theorem simpleV (l : List Pt) : simpleB l = true ↔ SimpleV l := by
  rw [simpleB_iff]
  constructor
  · rintro ⟨h1, h2⟩
    refine ⟨fun i hi e => ?_, fun i hi => ?_, fun i k hk hl hne => ?_⟩
    · have := h1 i hi
      unfold zeroAt at this
      rw [← vtx_lt hi, vtx_nx, eqP_iff.2 e] at this; cases this
    · have := (h2 i hi).1
      unfold foldAt at this
      rw [← vtx_lt hi, vtx_nx, vtx_nx, Bool.or_eq_false_iff] at this
      exact this
    · have := (h2 i (by omega)).2 k hl hk
      unfold hitAt at this
      rw [← vtx_lt hl, ← vtx_lt (show i < l.length by omega), vtx_nx, vtx_nx, Bool.and_eq_false_iff] at this
      rcases this with q | q
      · simp at q; exact absurd q hne
      · exact q
  · intro h
    refine ⟨fun i hi => ?_, fun i hi => ⟨?_, fun k hl hk => ?_⟩⟩
    · unfold zeroAt
      rw [← vtx_lt hi, vtx_nx]
      exact eqP_false (h.ne i hi)
    · unfold foldAt
      rw [← vtx_lt hi, vtx_nx, vtx_nx, (h.fold i hi).1, (h.fold i hi).2]; rfl
    · unfold hitAt
      rw [← vtx_lt hl, ← vtx_lt hi, vtx_nx, vtx_nx]
      by_cases e : (k + 1) % l.length = i
      · simp [e]
      · rw [h.hit i k hk hl e]; simp

theorem crossP_moved (a b c v : Pt) : crossP (addP a v) (addP b v) (addP c v) = crossP a b c := by unfold crossP cross addP; grind
theorem inB_moved (p a b v : Int) : inB (p + v) (mn (a + v) (b + v)) (mx (a + v) (b + v)) = inB p (mn a b) (mx a b) := by
  rw [Bool.eq_iff_iff, inB_true, inB_true]
  unfold mn mx
  split <;> split <;> split <;> split <;> omega
theorem onP_moved (a b p v : Pt) : onP (addP a v) (addP b v) (addP p v) = onP a b p := by
  have c := crossP_moved a b p v
  unfold crossP at c
  unfold onP onB
  rw [c]
  unfold addP
  simp only
  rw [inB_moved, inB_moved]
theorem meetP_moved (a b c d v : Pt) : meetP (addP a v) (addP b v) (addP c v) (addP d v) = meetP a b c d := by
  have o : ∀ a b c : Pt, onB (addP a v).1 (addP a v).2 (addP b v).1 (addP b v).2 (addP c v).1 (addP c v).2 = onB a.1 a.2 b.1 b.2 c.1 c.2 := fun a b c => onP_moved a b c v
  have k : ∀ a b c : Pt, cross (addP a v).1 (addP a v).2 (addP b v).1 (addP b v).2 (addP c v).1 (addP c v).2 = cross a.1 a.2 b.1 b.2 c.1 c.2 := fun a b c => crossP_moved a b c v
  unfold meetP meetB
  rw [o, o, o, o, k, k, k, k]
theorem mn_comm (a b : Int) : mn a b = mn b a := by unfold mn; split <;> split <;> omega
theorem mx_comm (a b : Int) : mx a b = mx b a := by unfold mx; split <;> split <;> omega
theorem onP_turn (a b p : Pt) : onP b a p = onP a b p := by
  unfold onP onB
  rw [mn_comm b.1, mx_comm b.1, mn_comm b.2, mx_comm b.2]
  have e : cross b.1 b.2 a.1 a.2 p.1 p.2 = - cross a.1 a.2 b.1 b.2 p.1 p.2 := by unfold cross; grind
  rw [e]
  congr 2
  rw [Bool.eq_iff_iff, beq_iff_eq, beq_iff_eq]; omega
theorem sgn_neg (x : Int) : sgn (-x) = - sgn x := by
  unfold sgn
  split <;> split <;> (try split) <;> (try split) <;> omega
theorem meetP_turn1 (a b c d : Pt) : meetP b a c d = meetP a b c d := by
  have o : ∀ x : Pt, onB b.1 b.2 a.1 a.2 x.1 x.2 = onB a.1 a.2 b.1 b.2 x.1 x.2 := fun x => onP_turn a b x
  have k : ∀ x : Pt, cross b.1 b.2 a.1 a.2 x.1 x.2 = - cross a.1 a.2 b.1 b.2 x.1 x.2 := fun x => by unfold cross; grind
  unfold meetP meetB
  rw [o, o, k, k, sgn_neg, sgn_neg, Int.neg_mul_neg, Int.mul_comm (sgn (cross c.1 c.2 d.1 d.2 b.1 b.2))]
  congr 1
  generalize onB c.1 c.2 d.1 d.2 b.1 b.2 = x
  generalize onB c.1 c.2 d.1 d.2 a.1 a.2 = y
  cases x <;> cases y <;> simp
theorem meetP_turn (a b c d : Pt) : meetP b a d c = meetP a b c d := by
  rw [meetP_turn1, meetP_comm, meetP_turn1, meetP_comm]

theorem simple_moved {l : List Pt} (v : Pt) (h0 : 0 < l.length) (h : simpleB l = true) : simpleB (movedL l v) = true := by
  rw [simpleV] at *
  have e := vtx_movedL l v
  refine ⟨fun i hi => ?_, fun i hi => ?_, fun i k hk hl hne => ?_⟩
  · rw [movedL_length] at hi
    rw [e _ h0, e _ h0]
    intro q
    refine h.ne i hi ?_
    unfold addP at q
    simp only [Prod.mk.injEq] at q
    exact Prod.ext (by omega) (by omega)
  · rw [movedL_length] at hi
    rw [e _ h0, e _ h0, e _ h0, onP_moved, onP_moved]
    exact h.fold i hi
  · rw [movedL_length] at hl hne
    rw [e _ h0, e _ h0, e _ h0, e _ h0, meetP_moved]
    exact h.hit i k hk hl hne

theorem simple_rev {l : List Pt} (h3 : 3 ≤ l.length) (h : simpleB l = true) : simpleB l.reverse = true := by
  rw [simpleV] at *
  have e := fun i hi => vtx_rev l i hi (by omega)
  -- any corner's number, by its remainder
  have vm : ∀ x y, x % l.length = y % l.length → vtx l x = vtx l y := fun x y q => by rw [← vtx_mod l x, q, vtx_mod]
  have vm1 : ∀ x y, x % l.length = y % l.length → vtx l (x + 1) = vtx l (y + 1) := fun x y q => by rw [← vtx_mod1 l x, q, vtx_mod1]
  have vm2 : ∀ x y, x % l.length = y % l.length → vtx l (x + 1 + 1) = vtx l (y + 1 + 1) := fun x y q => by
    have q2 : (x + 1) % l.length = (y + 1) % l.length := by rw [Nat.add_mod, q, ← Nat.add_mod]
    exact vm1 _ _ q2
  refine ⟨fun i hi => ?_, fun i hi => ?_, fun i k hk hl hne => ?_⟩
  · rw [List.length_reverse] at hi
    rw [e i (by omega), e (i + 1) (by omega), show 2 * l.length - 1 - i = (2 * l.length - 1 - (i + 1)) + 1 by omega]
    have q := Nat.mod_mod (2 * l.length - 1 - (i + 1)) l.length
    have n := h.ne ((2 * l.length - 1 - (i + 1)) % l.length) (Nat.mod_lt _ (by omega))
    rw [vm _ _ q, vm1 _ _ q] at n
    exact n.symm
  · rw [List.length_reverse] at hi
    rw [e i (by omega), e (i + 1) (by omega), e (i + 1 + 1) (by omega), show 2 * l.length - 1 - i = (2 * l.length - 1 - (i + 1 + 1)) + 1 + 1 by omega, show 2 * l.length - 1 - (i + 1) = (2 * l.length - 1 - (i + 1 + 1)) + 1 by omega]
    have q := Nat.mod_mod (2 * l.length - 1 - (i + 1 + 1)) l.length
    have n := h.fold ((2 * l.length - 1 - (i + 1 + 1)) % l.length) (Nat.mod_lt _ (by omega))
    rw [vm _ _ q, vm1 _ _ q, vm2 _ _ q] at n
    exact ⟨(onP_turn _ _ _).trans n.2, (onP_turn _ _ _).trans n.1⟩
  · rw [List.length_reverse] at hl hne
    rw [e i (by omega), e (i + 1) (by omega), e k (by omega), e (k + 1) (by omega), show 2 * l.length - 1 - i = (2 * l.length - 1 - (i + 1)) + 1 by omega, show 2 * l.length - 1 - k = (2 * l.length - 1 - (k + 1)) + 1 by omega, meetP_turn, meetP_comm]
    have q1 : (2 * l.length - 1 - (i + 1)) % l.length = (l.length - 2 - i) % l.length := by
      rw [show 2 * l.length - 1 - (i + 1) = (l.length - 2 - i) + l.length by omega, Nat.add_mod_right]
    rw [vm _ _ q1, vm1 _ _ q1]
    by_cases g : k = l.length - 1
    · have q2 : (2 * l.length - 1 - (k + 1)) % l.length = (l.length - 1) % l.length := by
        rw [show 2 * l.length - 1 - (k + 1) = l.length - 1 by omega]
      rw [vm _ _ q2, vm1 _ _ q2, meetP_comm]
      have k1 : (k + 1) % l.length = 0 := by rw [g, show l.length - 1 + 1 = l.length by omega, Nat.mod_self]
      refine h.hit _ _ (by omega) (by omega) ?_
      rw [show l.length - 1 + 1 = l.length by omega, Nat.mod_self]
      omega
    · have q2 : (2 * l.length - 1 - (k + 1)) % l.length = (l.length - 2 - k) % l.length := by
        rw [show 2 * l.length - 1 - (k + 1) = (l.length - 2 - k) + l.length by omega, Nat.add_mod_right]
      rw [vm _ _ q2, vm1 _ _ q2]
      refine h.hit _ _ (by omega) (by omega) ?_
      rw [Nat.mod_eq_of_lt (by omega)]
      omega

end Go.Proofs.Ytffjonpajjioaaa

/- Shape: two edges that rise across the same heights: what is to the left below is to the left above, if they do not meet. -/
namespace Go.Proofs.Ytffjonpajjioaaa

theorem leP_y {a b : Pt} (h : leP a b) : a.2 ≤ b.2 ∧ (a.2 = b.2 → a.1 ≤ b.1) := by
  rcases h with rfl | h
  · exact ⟨Int.le_refl _, fun _ => Int.le_refl _⟩
  · unfold ltP at h; omega
theorem ltP_y {a b : Pt} (h : ltP a b) : a.2 ≤ b.2 ∧ (a.2 = b.2 → a.1 < b.1) := by
  unfold ltP at h; omega
theorem zero3 {p q r : Int} (hp : 0 ≤ p) (hq : 0 ≤ q) (hr : 0 ≤ r) (h : p + q + r = 0) : p = 0 ∧ q = 0 ∧ r = 0 := by omega
theorem flat4 {a c d : Pt} (h1 : a.2 = c.2) (h2 : d.2 = c.2) : crossP c d a = 0 := by
  unfold crossP cross
  rw [h1, h2, Int.sub_self, Int.mul_zero, Int.mul_zero]; rfl
theorem mul_zero_left {p q : Int} (hp : 0 < p) (h : p * q = 0) : q = 0 := (Int.mul_eq_zero.1 h).resolve_left (by omega)

/-- One edge within the heights of the other: if it crosses the other's line, it crosses the other. -/
theorem span_in {a b c d : Pt} (ca : leP c a) (ab : ltP a b) (bd : leP b d) (hA : 0 < crossP c d a) (hB : crossP c d b < 0) : crossP a b c < 0 ∧ 0 < crossP a b d := by
  obtain ⟨y1, x1⟩ := leP_y ca
  obtain ⟨y2, x2⟩ := ltP_y ab
  obtain ⟨y3, x3⟩ := leP_y bd
  have flat : ∀ {z : Pt}, a.2 = c.2 → d.2 = c.2 → False := fun h1 h2 => by rw [flat4 h1 h2] at hA; omega
  constructor
  · apply Classical.byContradiction
    intro hC
    have n1 := Int.mul_nonneg (show 0 ≤ crossP a b c by omega) (show 0 ≤ d.2 - c.2 by omega)
    have n2 := Int.mul_nonneg (show 0 ≤ crossP c d a by omega) (show 0 ≤ b.2 - c.2 by omega)
    have n3 := Int.mul_nonneg (show 0 ≤ - crossP c d b by omega) (show 0 ≤ a.2 - c.2 by omega)
    have id : crossP a b c * (d.2 - c.2) + crossP c d a * (b.2 - c.2) + - crossP c d b * (a.2 - c.2) = 0 := by unfold crossP cross; grind
    have idx : crossP a b c * (d.1 - c.1) + crossP c d a * (b.1 - c.1) + - crossP c d b * (a.1 - c.1) = 0 := by unfold crossP cross; grind
    obtain ⟨z1, z2, z3⟩ := zero3 n1 n2 n3 id
    have e2 := mul_zero_left hA z2
    have e3 := mul_zero_left (show 0 < - crossP c d b by omega) z3
    by_cases g : d.2 = c.2
    · exact flat (z := a) (by omega) g
    · have eC : crossP a b c = 0 := (Int.mul_eq_zero.1 z1).resolve_right (by omega)
      rw [eC, Int.zero_mul, Int.zero_add] at idx
      have p2 := Int.mul_pos hA (show 0 < b.1 - c.1 by omega)
      have p3 := Int.mul_nonneg (show 0 ≤ - crossP c d b by omega) (show 0 ≤ a.1 - c.1 by omega)
      omega
  · apply Classical.byContradiction
    intro hD
    have n1 := Int.mul_nonneg (show 0 ≤ - crossP a b d by omega) (show 0 ≤ d.2 - c.2 by omega)
    have n2 := Int.mul_nonneg (show 0 ≤ crossP c d a by omega) (show 0 ≤ d.2 - b.2 by omega)
    have n3 := Int.mul_nonneg (show 0 ≤ - crossP c d b by omega) (show 0 ≤ d.2 - a.2 by omega)
    have id : - crossP a b d * (d.2 - c.2) + crossP c d a * (d.2 - b.2) + - crossP c d b * (d.2 - a.2) = 0 := by unfold crossP cross; grind
    have idx : - crossP a b d * (d.1 - c.1) + crossP c d a * (d.1 - b.1) + - crossP c d b * (d.1 - a.1) = 0 := by unfold crossP cross; grind
    obtain ⟨z1, z2, z3⟩ := zero3 n1 n2 n3 id
    have e2 := mul_zero_left hA z2
    have e3 := mul_zero_left (show 0 < - crossP c d b by omega) z3
    by_cases g : d.2 = c.2
    · exact flat (z := a) (by omega) g
    · have eC : - crossP a b d = 0 := (Int.mul_eq_zero.1 z1).resolve_right (by omega)
      rw [eC, Int.zero_mul, Int.zero_add] at idx
      have p2 := Int.mul_nonneg (show 0 ≤ crossP c d a by omega) (show 0 ≤ d.1 - b.1 by omega)
      have p3 := Int.mul_pos (show 0 < - crossP c d b by omega) (show 0 < d.1 - a.1 by omega)
      omega
/-- The same from the other side. -/
theorem span_in' {a b c d : Pt} (ca : leP c a) (ab : ltP a b) (bd : leP b d) (hA : crossP c d a < 0) (hB : 0 < crossP c d b) : 0 < crossP a b c ∧ crossP a b d < 0 := by
  obtain ⟨y1, x1⟩ := leP_y ca
  obtain ⟨y2, x2⟩ := ltP_y ab
  obtain ⟨y3, x3⟩ := leP_y bd
  have flat : ∀ {z : Pt}, a.2 = c.2 → d.2 = c.2 → False := fun h1 h2 => by rw [flat4 h1 h2] at hA; omega
  constructor
  · apply Classical.byContradiction
    intro hC
    have n1 := Int.mul_nonneg (show 0 ≤ - crossP a b c by omega) (show 0 ≤ d.2 - c.2 by omega)
    have n2 := Int.mul_nonneg (show 0 ≤ - crossP c d a by omega) (show 0 ≤ b.2 - c.2 by omega)
    have n3 := Int.mul_nonneg (show 0 ≤ crossP c d b by omega) (show 0 ≤ a.2 - c.2 by omega)
    have id : - crossP a b c * (d.2 - c.2) + - crossP c d a * (b.2 - c.2) + crossP c d b * (a.2 - c.2) = 0 := by unfold crossP cross; grind
    have idx : - crossP a b c * (d.1 - c.1) + - crossP c d a * (b.1 - c.1) + crossP c d b * (a.1 - c.1) = 0 := by unfold crossP cross; grind
    obtain ⟨z1, z2, z3⟩ := zero3 n1 n2 n3 id
    have e2 := mul_zero_left (show 0 < - crossP c d a by omega) z2
    have e3 := mul_zero_left hB z3
    by_cases g : d.2 = c.2
    · exact flat (z := a) (by omega) g
    · have eC : - crossP a b c = 0 := (Int.mul_eq_zero.1 z1).resolve_right (by omega)
      rw [eC, Int.zero_mul, Int.zero_add] at idx
      have p2 := Int.mul_pos (show 0 < - crossP c d a by omega) (show 0 < b.1 - c.1 by omega)
      have p3 := Int.mul_nonneg (show 0 ≤ crossP c d b by omega) (show 0 ≤ a.1 - c.1 by omega)
      omega
  · apply Classical.byContradiction
    intro hD
    have n1 := Int.mul_nonneg (show 0 ≤ crossP a b d by omega) (show 0 ≤ d.2 - c.2 by omega)
    have n2 := Int.mul_nonneg (show 0 ≤ - crossP c d a by omega) (show 0 ≤ d.2 - b.2 by omega)
    have n3 := Int.mul_nonneg (show 0 ≤ crossP c d b by omega) (show 0 ≤ d.2 - a.2 by omega)
    have id : crossP a b d * (d.2 - c.2) + - crossP c d a * (d.2 - b.2) + crossP c d b * (d.2 - a.2) = 0 := by unfold crossP cross; grind
    have idx : crossP a b d * (d.1 - c.1) + - crossP c d a * (d.1 - b.1) + crossP c d b * (d.1 - a.1) = 0 := by unfold crossP cross; grind
    obtain ⟨z1, z2, z3⟩ := zero3 n1 n2 n3 id
    have e2 := mul_zero_left (show 0 < - crossP c d a by omega) z2
    have e3 := mul_zero_left hB z3
    by_cases g : d.2 = c.2
    · exact flat (z := a) (by omega) g
    · have eC : crossP a b d = 0 := (Int.mul_eq_zero.1 z1).resolve_right (by omega)
      rw [eC, Int.zero_mul, Int.zero_add] at idx
      have p2 := Int.mul_nonneg (show 0 ≤ - crossP c d a by omega) (show 0 ≤ d.1 - b.1 by omega)
      have p3 := Int.mul_pos hB (show 0 < d.1 - a.1 by omega)
      omega

/-- One edge begins within the other's heights and ends above them. -/
theorem span_over {a b c d : Pt} (ca : leP c a) (ad : ltP a d) (db : leP d b) (hA : 0 < crossP c d a) (hD : 0 < crossP a b d) : crossP c d b < 0 ∧ crossP a b c < 0 := by
  obtain ⟨y1, x1⟩ := leP_y ca
  obtain ⟨y2, x2⟩ := ltP_y ad
  obtain ⟨y3, x3⟩ := leP_y db
  have flat : a.2 = c.2 → d.2 = c.2 → False := fun h1 h2 => by rw [flat4 h1 h2] at hA; omega
  have k1 : crossP c d b < 0 := by
    apply Classical.byContradiction
    intro hB
    have n1 := Int.mul_nonneg (show 0 ≤ crossP c d b by omega) (show 0 ≤ d.2 - a.2 by omega)
    have n2 := Int.mul_nonneg (show 0 ≤ crossP c d a by omega) (show 0 ≤ b.2 - d.2 by omega)
    have n3 := Int.mul_nonneg (show 0 ≤ crossP a b d by omega) (show 0 ≤ d.2 - c.2 by omega)
    have id : crossP c d b * (d.2 - a.2) + crossP c d a * (b.2 - d.2) + crossP a b d * (d.2 - c.2) = 0 := by unfold crossP cross; grind
    obtain ⟨z1, z2, z3⟩ := zero3 n1 n2 n3 id
    have e3 := mul_zero_left hD z3
    exact flat (by omega) (by omega)
  refine ⟨k1, ?_⟩
  apply Classical.byContradiction
  intro hC
  have n1 := Int.mul_nonneg (show 0 ≤ crossP a b c by omega) (show 0 ≤ d.2 - c.2 by omega)
  have n2 := Int.mul_nonneg (show 0 ≤ crossP c d a by omega) (show 0 ≤ b.2 - c.2 by omega)
  have n3 := Int.mul_nonneg (show 0 ≤ - crossP c d b by omega) (show 0 ≤ a.2 - c.2 by omega)
  have id : crossP a b c * (d.2 - c.2) + crossP c d a * (b.2 - c.2) + - crossP c d b * (a.2 - c.2) = 0 := by unfold crossP cross; grind
  obtain ⟨z1, z2, z3⟩ := zero3 n1 n2 n3 id
  have e2 := mul_zero_left hA z2
  exact flat (by omega) (by omega)
theorem span_over' {a b c d : Pt} (ca : leP c a) (ad : ltP a d) (db : leP d b) (hA : crossP c d a < 0) (hD : crossP a b d < 0) : 0 < crossP c d b ∧ 0 < crossP a b c := by
  obtain ⟨y1, x1⟩ := leP_y ca
  obtain ⟨y2, x2⟩ := ltP_y ad
  obtain ⟨y3, x3⟩ := leP_y db
  have flat : a.2 = c.2 → d.2 = c.2 → False := fun h1 h2 => by rw [flat4 h1 h2] at hA; omega
  have k1 : 0 < crossP c d b := by
    apply Classical.byContradiction
    intro hB
    have n1 := Int.mul_nonneg (show 0 ≤ - crossP c d b by omega) (show 0 ≤ d.2 - a.2 by omega)
    have n2 := Int.mul_nonneg (show 0 ≤ - crossP c d a by omega) (show 0 ≤ b.2 - d.2 by omega)
    have n3 := Int.mul_nonneg (show 0 ≤ - crossP a b d by omega) (show 0 ≤ d.2 - c.2 by omega)
    have id : - crossP c d b * (d.2 - a.2) + - crossP c d a * (b.2 - d.2) + - crossP a b d * (d.2 - c.2) = 0 := by unfold crossP cross; grind
    obtain ⟨z1, z2, z3⟩ := zero3 n1 n2 n3 id
    have e3 := mul_zero_left (show 0 < - crossP a b d by omega) z3
    exact flat (by omega) (by omega)
  refine ⟨k1, ?_⟩
  apply Classical.byContradiction
  intro hC
  have n1 := Int.mul_nonneg (show 0 ≤ - crossP a b c by omega) (show 0 ≤ d.2 - c.2 by omega)
  have n2 := Int.mul_nonneg (show 0 ≤ - crossP c d a by omega) (show 0 ≤ b.2 - c.2 by omega)
  have n3 := Int.mul_nonneg (show 0 ≤ crossP c d b by omega) (show 0 ≤ a.2 - c.2 by omega)
  have id : - crossP a b c * (d.2 - c.2) + - crossP c d a * (b.2 - c.2) + crossP c d b * (a.2 - c.2) = 0 := by unfold crossP cross; grind
  obtain ⟨z1, z2, z3⟩ := zero3 n1 n2 n3 id
  have e2 := mul_zero_left (show 0 < - crossP c d a by omega) z2
  exact flat (by omega) (by omega)

theorem meet_cross {a b c d : Pt} (h : meetP a b c d = false) : onP a b c = false ∧ onP a b d = false ∧ onP c d a = false ∧ onP c d b = false ∧
    ¬ (((0 < crossP a b c ∧ crossP a b d < 0) ∨ (crossP a b c < 0 ∧ 0 < crossP a b d)) ∧ ((0 < crossP c d a ∧ crossP c d b < 0) ∨ (crossP c d a < 0 ∧ 0 < crossP c d b))) := by
  unfold meetP meetB at h
  simp only [Bool.or_eq_false_iff, Bool.and_eq_false_iff, decide_eq_false_iff_not] at h
  obtain ⟨⟨⟨⟨o1, o2⟩, o3⟩, o4⟩, k⟩ := h
  refine ⟨o1, o2, o3, o4, fun ⟨k1, k2⟩ => ?_⟩
  have s : ∀ x y : Int, (0 < x ∧ y < 0) ∨ (x < 0 ∧ 0 < y) → sgn x * sgn y < 0 := fun x y h => by
    unfold sgn
    rcases h with ⟨p, q⟩ | ⟨p, q⟩
    · rw [if_pos p, if_neg (by omega), if_pos q]; omega
    · rw [if_neg (by omega), if_pos p, if_pos q]; omega
  rcases k with k | k
  · exact k (s _ _ k1)
  · exact k (s _ _ k2)

/-- The first edge is to the left of the second where the higher one of both begins. -/
def LftB (a b c d : Pt) : Prop := (leP c a → 0 < crossP c d a) ∧ (leP a c → crossP a b c < 0)
/-- And where the lower one of both ends. -/
def LftT (a b c d : Pt) : Prop := (leP b d → 0 < crossP c d b) ∧ (leP d b → crossP a b d < 0)

theorem lft_up {a b c d : Pt} (ab : ltP a b) (cd : ltP c d) (ad : ltP a d) (cb : ltP c b) (h : LftB a b c d) (hm : meetP a b c d = false) : LftT a b c d := by
  obtain ⟨o1, o2, o3, o4, k⟩ := meet_cross hm
  rcases leP_total c a with g | g
  · have hA := h.1 g
    refine ⟨fun bd => ?_, fun db => ?_⟩
    · rcases Int.lt_trichotomy (crossP c d b) 0 with q | q | q
      · exfalso
        have := span_in g ab bd hA q
        exact k ⟨.inr this, .inl ⟨hA, q⟩⟩
      · rw [on_of_between q (.inr cb) bd] at o4; cases o4
      · exact q
    · rcases Int.lt_trichotomy (crossP a b d) 0 with q | q | q
      · exact q
      · rw [on_of_between q (.inr ad) db] at o2; cases o2
      · exfalso
        have := span_over g ad db hA q
        exact k ⟨.inr ⟨this.2, q⟩, .inl ⟨hA, this.1⟩⟩
  · have hC := h.2 (.inr g)
    refine ⟨fun bd => ?_, fun db => ?_⟩
    · rcases Int.lt_trichotomy (crossP c d b) 0 with q | q | q
      · exfalso
        have := span_over' (a := c) (b := d) (c := a) (d := b) (.inr g) cb bd hC q
        exact k ⟨.inr ⟨hC, this.1⟩, .inl ⟨this.2, q⟩⟩
      · rw [on_of_between q (.inr cb) bd] at o4; cases o4
      · exact q
    · rcases Int.lt_trichotomy (crossP a b d) 0 with q | q | q
      · exact q
      · rw [on_of_between q (.inr ad) db] at o2; cases o2
      · exfalso
        have := span_in' (a := c) (b := d) (c := a) (d := b) (.inr g) cd db hC q
        exact k ⟨.inr ⟨hC, q⟩, .inl this⟩

end Go.Proofs.Ytffjonpajjioaaa
