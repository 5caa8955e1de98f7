/- The laws' made. -/
import Derived.Test.YtddejjilfmphbaaGreatDoorFew
import Derived.Test.YtddejjilfmphbaaGreatDoorArcsOpen
import Derived.Test.YtddejjilfmphbaaGreatDoorPeel
import Derived.IntWalk
namespace Go.Proofs.YtddejjilfmphbaaGreatDoor
open Go.RowKit Go.Sort
attribute [local go_sem ↓] run_min_mn run_max_mx

/-- The arcs that made has put together so far. -/
structure MdOk (m : Nat) (l : List Arc) : Prop where
  nodes : NodesOk m l
  small : ∀ a ∈ l, -1000 ≤ a.d ∧ a.d ≤ 1000
theorem MdOk.nil (m : Nat) : MdOk m [] := ⟨(fun _ h => nomatch h), fun _ h => nomatch h⟩
theorem MdOk.snoc {m : Nat} {l : List Arc} (h : MdOk m l) {f t : Nat} {d : Int} (hf : f < m) (ht : t < m) (hd : -1000 ≤ d ∧ d ≤ 1000) : MdOk m (l ++ [⟨f, t, d⟩]) := by
  refine ⟨fun a ha => ?_, fun a ha => ?_⟩
  · rcases List.mem_append.1 ha with h1 | h1
    · exact h.nodes a h1
    · obtain rfl := List.mem_singleton.1 h1
      exact ⟨⟨by show (0 : Int) ≤ f; omega, by show (f : Int) < m; omega⟩, ⟨by show (0 : Int) ≤ t; omega, by show (t : Int) < m; omega⟩, by show _ ≤ d; omega, by show d ≤ _; omega⟩
  · rcases List.mem_append.1 ha with h1 | h1
    · exact h.small a h1
    · obtain rfl := List.mem_singleton.1 h1
      exact hd
/-- What made's memory holds: its parameter's box, its own net. -/
structure MdS (w : World) (g : Nat) (gn : Int) (A : Option Addr) (n c : Nat) (m : Nat) (v : Value) (l : List Arc) (wr : World) : Prop where
  eg : g = w.heap.size + 2
  par : Blk wr w.heap.size 24 #[.int .i64 gn, .slice A n c]
  res : Blk wr (w.heap.size + 1) 24 #[.int .i64 0, .slice none 0 0]
  net : Blk wr (g) 24 #[.int .i64 m, v]
  own : ArcsOwn wr (w.heap.size + 3) v l
  below : Below w.heap.size w wr
theorem MdS.cells {w wr : World} {g : Nat} {gn : Int} {A : Option Addr} {n c m : Nat} {v : Value} {l : List Arc} (h : MdS w g gn A n c m v l wr) :
    wr.cell? ⟨w.heap.size, 0, none⟩ = some (.int .i64 gn) ∧ wr.cell? ⟨w.heap.size, 1, none⟩ = some (.slice A n c) ∧ wr.cell? ⟨g, 0, none⟩ = some (.int .i64 m) ∧ wr.cell? ⟨g, 1, none⟩ = some v :=
  ⟨(h.par.cell 0).trans (show _ = some (Value.int .i64 gn) from rfl), (h.par.cell 1).trans (show _ = some (Value.slice A n c) from rfl), (h.net.cell 0).trans (show _ = some (Value.int .i64 m) from rfl), (h.net.cell 1).trans (show _ = some v from rfl)⟩
theorem MdS.lt {w wr : World} {g : Nat} {gn : Int} {A : Option Addr} {n c m : Nat} {v : Value} {l : List Arc} (h : MdS w g gn A n c m v l wr) : w.heap.size + 3 ≤ wr.heap.size := by have := h.net.lt; have := h.eg; omega
theorem MdS.go2 {w wr W : World} {g : Nat} {gn : Int} {A : Option Addr} {n c m : Nat} {v : Value} {l : List Arc} (h : MdS w g gn A n c m v l wr) (hb : Below (w.heap.size + 3) wr W) : W.cell? ⟨g, 0, none⟩ = some (.int .i64 m) ∧ W.cell? ⟨g, 1, none⟩ = some v :=
  ⟨(hb.cell (p := ⟨g, 0, none⟩) (by have := h.eg; show g < _; omega)).trans h.cells.2.2.1, (hb.cell (p := ⟨g, 1, none⟩) (by have := h.eg; show g < _; omega)).trans h.cells.2.2.2⟩
/-- A round puts one arc behind the others. -/
theorem MdS.next {w wr : World} {g : Nat} {gn : Int} {A : Option Addr} {n c m : Nat} {v v' : Value} {l l' : List Arc} (h : MdS w g gn A n c m v l wr) {o : Obj} {w5 : World} (hg : (wr.alloc o).drew.grownBy w5 v.ownBlock) (ho : ArcsOwn w5 (w.heap.size + 3) v' l') :
    MdS w g gn A n c m v' l' (w5.setCell ⟨g, 1, none⟩ v') := by
  have hlt := h.lt
  have eg := h.eg
  have hv : ∀ k, v.ownBlock = some k → w.heap.size + 3 ≤ k := fun k hk => (h.own.base k hk).1
  have hfar : ∀ k, k < w.heap.size + 3 → v.ownBlock ≠ some k := fun k hk e => by have := hv k e; omega
  have hb5 : Below (w.heap.size + 3) wr w5 := (((Below.refl _ wr).alloc hlt o).drew).grown hg (by simp; omega) hv
  refine ⟨eg, (h.par.below hb5 (by omega)).far (by show w.heap.size ≠ g; omega) _, (h.res.below hb5 (by omega)).far (by show w.heap.size + 1 ≠ g; omega) _, (h.net.below hb5 (by omega)).set_ 1 _, ho.far (g := g) (fun e => ?_) (fun k hk => Below.heap_setCell _ _ _ k hk), (h.below.trans (hb5.mono (by omega))).setCell (p := ⟨g, 1, none⟩) (by show _ ≤ g; omega) _⟩
  have := (ho.base _ e).1
  omega
/-- What a round's statement may rely on, to its end. -/
structure MdR (w : World) (g : Nat) (gn : Int) (A : Option Addr) (n c : Nat) (m : Nat) (b o : Nat) (a : Arc) (w' : World) : Prop where
  eg : g = w.heap.size + 2
  sz : w.heap.size + 3 ≤ w'.heap.size
  hb : b < w.heap.size
  k0 : w'.cell? ⟨w.heap.size, 0, none⟩ = some (.int .i64 gn)
  k1 : w'.cell? ⟨w.heap.size, 1, none⟩ = some (.slice A n c)
  m0 : w'.cell? ⟨g, 0, none⟩ = some (.int .i64 m)
  a0 : w'.cell? ⟨b, o, none⟩ = some (.int .i64 a.f)
  a1 : w'.cell? ⟨b, o + 1, none⟩ = some (.int .i64 a.t)
  a2 : w'.cell? ⟨b, o + 2, none⟩ = some (.int .i64 a.d)
theorem MdR.to {w w' w'' : World} {g : Nat} {gn : Int} {A : Option Addr} {n c m b o : Nat} {a : Arc} (h : MdR w g gn A n c m b o a w') (hb : Below (w.heap.size + 3) w' w'') : MdR w g gn A n c m b o a w'' :=
  ⟨h.eg, Nat.le_trans h.sz hb.size, h.hb, (hb.cell (p := ⟨w.heap.size, _, none⟩) (by show w.heap.size < _; omega)).trans h.k0, (hb.cell (p := ⟨w.heap.size, _, none⟩) (by show w.heap.size < _; omega)).trans h.k1,
    (hb.cell (p := ⟨g, _, none⟩) (by have := h.eg; show g < _; omega)).trans h.m0, (hb.cell (p := ⟨b, _, none⟩) (by have := h.hb; show b < _; omega)).trans h.a0,
    (hb.cell (p := ⟨b, _, none⟩) (by have := h.hb; show b < _; omega)).trans h.a1, (hb.cell (p := ⟨b, _, none⟩) (by have := h.hb; show b < _; omega)).trans h.a2⟩
theorem MdR.al {w w' : World} {g : Nat} {gn : Int} {A : Option Addr} {n c m b o : Nat} {a : Arc} (h : MdR w g gn A n c m b o a w') (x : Obj) : MdR w g gn A n c m b o a (w'.alloc x) := h.to ((Below.refl _ _).alloc h.sz _)
theorem MdR.put {w w' : World} {g : Nat} {gn : Int} {A : Option Addr} {n c m b o : Nat} {a : Arc} (h : MdR w g gn A n c m b o a w') (v : Value) : MdR w g gn A n c m b o a (w'.setCell ⟨g, 1, none⟩ v) := by
  have far : ∀ (q : Addr), q ≠ ⟨g, 1, none⟩ → (w'.setCell ⟨g, 1, none⟩ v).cell? q = w'.cell? q := fun q hq => by
    apply World.cell?_setCell_other
    exact Ne.symm hq
  have hb := h.hb
  have eg := h.eg
  refine ⟨eg, by simpa using h.sz, hb, (far _ ?_).trans h.k0, (far _ ?_).trans h.k1, (far _ ?_).trans h.m0, (far _ ?_).trans h.a0, (far _ ?_).trans h.a1, (far _ ?_).trans h.a2⟩ <;> (intro e; simp at e) <;> omega
theorem MdR.all {w w' : World} {g : Nat} {gn : Int} {A : Option Addr} {n c m b o : Nat} {a : Arc} (h : MdR w g gn A n c m b o a w') {v : Value} (hv : w'.cell? ⟨g, 1, none⟩ = some v) : MdR w g gn A n c m b o a w' ∧ w'.cell? ⟨w.heap.size, 0, none⟩ = some (.int .i64 gn) ∧ w'.cell? ⟨w.heap.size, 1, none⟩ = some (.slice A n c) ∧ w'.cell? ⟨g, 0, none⟩ = some (.int .i64 m) ∧ w'.cell? ⟨g, 1, none⟩ = some v ∧ w'.cell? ⟨b, o, none⟩ = some (.int .i64 a.f) ∧ w'.cell? ⟨b, o + 1, none⟩ = some (.int .i64 a.t) ∧ w'.cell? ⟨b, o + 2, none⟩ = some (.int .i64 a.d) :=
  ⟨h, h.k0, h.k1, h.m0, hv, h.a0, h.a1, h.a2⟩

theorem MdR.go {w wr W : World} {g : Nat} {gn : Int} {A : Option Addr} {n c m b o : Nat} {a : Arc} (h : MdR w g gn A n c m b o a wr) {v : Value} (hv : wr.cell? ⟨g, 1, none⟩ = some v) (hb : Below (w.heap.size + 3) wr W) : MdR w g gn A n c m b o a W ∧ W.cell? ⟨w.heap.size, 0, none⟩ = some (.int .i64 gn) ∧ W.cell? ⟨w.heap.size, 1, none⟩ = some (.slice A n c) ∧ W.cell? ⟨g, 0, none⟩ = some (.int .i64 m) ∧ W.cell? ⟨g, 1, none⟩ = some v ∧ W.cell? ⟨b, o, none⟩ = some (.int .i64 a.f) ∧ W.cell? ⟨b, o + 1, none⟩ = some (.int .i64 a.t) ∧ W.cell? ⟨b, o + 2, none⟩ = some (.int .i64 a.d) :=
  (h.to hb).all ((hb.cell (p := ⟨g, 1, none⟩) (by have := h.eg; show g < _; omega)).trans hv)
def MadeTo (w : World) (e : Ending) (w' : World) : Prop := ∃ (m : Nat) (v : Value) (l : List Arc), e = .returned (.agg #[.int .i64 m, v]) ∧ 1 ≤ m ∧ m ≤ 12 ∧ l.length ≤ 52 ∧ MdOk m l ∧ liveB m l = true ∧ ArcsOwn w' w.heap.size v l ∧ Below w.heap.size w w'

set_option linter.unusedSimpArgs false in
set_option linter.unusedVariables false in
set_option maxHeartbeats 8000000 in
set_option maxRecDepth 100000 in
theorem made_any (gn : Int) (A : Option Addr) (n c : Nat) (l0 : List Arc) (w : World) (hgn : I64 gn) (hn : l0.length = n) (hbig : n ≤ 9223372036854775807) (hA : ArcsAt w A l0) (hW : ∀ a ∈ l0, I64 a.f ∧ I64 a.t ∧ I64 a.d) :
    Calls Tryz.prog 14 #[.agg #[.int .i64 gn, .slice A n c], .bool true, .int .i64 1000] w (MadeTo w) := by
  have HN := Lib.hid hn
  have HA := Lib.hid hA
  have HW := Lib.hid hW
  have HGN := Lib.hid hgn
  clear hn hA hW hgn
  go_enter Tryz.func14, Tryz.ntmps14
  have K : Hid (∀ W, Calls Tryz.prog 16 #[.int .i64 gn, .int .i64 12] W fun e w' => ∃ r : Nat, r < 12 ∧ e = .returned (.int .i64 r) ∧ W = w') := Lib.hid fun W => fold6_any gn 12 W HGN.out (by omega)
  go_wp2_with fail
  refine (K.out _).mono ?_
  rintro e w' ⟨r, hr, rfl, rfl⟩
  obtain ⟨m, hm⟩ : ∃ m : Nat, (r : Int) + 1 = m := ⟨r + 1, by omega⟩
  have hm1 : 1 ≤ m ∧ m ≤ 12 := by omega
  go_upto_region 2 with (fail)
  have hS0 : MdS w (w.heap.size + 1 + 1) gn A n c m (.slice none 0 0) [] (((w.alloc (.cells #[.int .i64 gn, .slice A n c] 24)).alloc (.cells #[.int .i64 0, .slice none 0 0] 24)).alloc (.cells #[.int .i64 m, .slice none 0 0] 24)) :=
    ⟨rfl, ((Blk.new _ _ _).alloc _).alloc _, (Blk.newAt _ _ _ (by simp)).alloc _, Blk.newAt _ _ _ (by simp), ArcsOwn.nil _ _, ((((Below.refl _ _).alloc (Nat.le_refl _) _).alloc (by simp) _).alloc (by simp <;> omega) _)⟩
  have HS0 := Lib.hid hS0
  clear hS0 K
  generalize (((w.alloc (.cells #[.int .i64 gn, .slice A n c] 24)).alloc (.cells #[.int .i64 0, .slice none 0 0] 24)).alloc (.cells #[.int .i64 m, .slice none 0 0] 24)) = w3 at *
  generalize w.heap.size + 1 + 1 = g at *
  clear hr hm
  go_wp2_with fail
  go_loopw [8] (fun i wr => ∃ (j : Nat) (v : Value) (l : List Arc), j ≤ 40 ∧ i = .int .i64 j ∧ l.length = j ∧ MdOk m l ∧ MdS w g gn A n c m v l wr) (fun i _ => 40 - (intOf i).toNat)
  case atStart => exact ⟨0, _, [], by omega, rfl, rfl, MdOk.nil m, HS0.out⟩
  case round =>
    clear HS0
    obtain ⟨j, v, l, hj, rfl, hl, hok, hS⟩ := hrel
    have HS := Lib.hid hS
    have HOK := Lib.hid hok
    have HL := Lib.hid hl
    obtain ⟨k0, k1, m0, m1⟩ := HS.out.cells
    clear hS hok hl
    go_upto_region 3 with (fail)
    go_cut [24] from 16 to 59 (fun s wx => s = .bool (decide (j < n ∧ j < 40)) ∧ wx = wr)
    case first =>
      by_cases h1 : j < n
      · by_cases h2 : j < 40
        · go_wp2_with fail
          go_meet
          exact ⟨by rw [decide_eq_true (show j < n ∧ j < 40 from ⟨h1, h2⟩), decide_eq_true (show (j : Int) < 40 by omega)], rfl⟩
        · go_wp2_with fail
          go_meet
          exact ⟨by rw [decide_eq_false (show ¬ (j < n ∧ j < 40) by omega), decide_eq_false (show ¬ (j : Int) < 40 by omega)], rfl⟩
      · go_wp2_with fail
        go_meet
        exact ⟨by rw [decide_eq_false (show ¬ (j < n ∧ j < 40) by omega)], rfl⟩
    case rest =>
      obtain ⟨rfl, rfl⟩ := hcut
      by_cases hlt : j < n ∧ j < 40
      · rw [decide_eq_true hlt]
        obtain ⟨h1, h2⟩ := hlt
        have hlj : j < l0.length := by rw [HN.out]; exact h1
        obtain ⟨b, off, rfl, hbw, hcells⟩ := HA.out (by intro e; rw [e] at hlj; cases hlj)
        obtain ⟨c0, c1, c2⟩ := hcells j l0[j] (List.getElem?_eq_getElem hlj)
        have hW3 := HW.out l0[j] (List.getElem_mem hlj)
        generalize l0[j] = a at *
        have HR : Hid (MdR w g gn (some ⟨b, off, none⟩) n c m b (off + j * 3) a wc) := Lib.hid ⟨HS.out.eg, HS.out.lt, hbw, k0, k1, m0, (HS.out.below.cell (p := ⟨b, _, none⟩) hbw).trans c0, (HS.out.below.cell (p := ⟨b, _, none⟩) hbw).trans c1, (HS.out.below.cell (p := ⟨b, _, none⟩) hbw).trans c2⟩
        obtain ⟨w1, w2, w3b⟩ := hW3
        have W1 := Lib.hid w1
        have W2 := Lib.hid w2
        have HD : Hid (-1000 ≤ a.d.tmod 1001 ∧ a.d.tmod 1001 ≤ 1000) := Lib.hid (by
          have x := Int.tmod_lt_of_pos a.d (b := 1001) (by omega)
          have y := Int.lt_tmod_of_pos a.d (b := 1001) (by omega)
          omega)
        have hw2b : IntKind.i64.wrap 1001 = 1001 := by decide
        have hw2 : IntKind.i64.wrap (1000 + 1) = 1001 := by decide
        have hw3 : IntKind.i64.wrap (a.d.tmod 1001) = a.d.tmod 1001 := IntWalk.i64_in _ (by have := HD.out; omega)
        have hj0 : (0 : Int) ≤ (j : Int) := by omega
        have hjn : (j : Int) < (n : Int) := by omega
        have hmi : (1 : Int) ≤ (m : Int) ∧ (m : Int) ≤ 1000000 := by omega
        have HLS := HS.out.lt
        have hm6 : Hid (1 ≤ m ∧ m ≤ 1000000) := Lib.hid (by omega)
        clear c0 c1 c2 hcells w1 w2 w3b
        go_upto_region 5 with (fail)
        have H1 := HR.out.go m1 (Below.refl _ _).drew
        refine wp_region_peel2 (S := (fun w' => MdR w g gn (some ⟨b, off, none⟩) n c m b (off + j * 3) a w' ∧ w'.cell? ⟨w.heap.size, 0, none⟩ = some (.int .i64 gn) ∧ w'.cell? ⟨w.heap.size, 1, none⟩ = some (.slice (some ⟨b, off, none⟩) n c) ∧ w'.cell? ⟨g, 0, none⟩ = some (.int .i64 m) ∧ w'.cell? ⟨g, 1, none⟩ = some v ∧ w'.cell? ⟨b, off + j * 3, none⟩ = some (.int .i64 a.f) ∧ w'.cell? ⟨b, off + j * 3 + 1, none⟩ = some (.int .i64 a.t) ∧ w'.cell? ⟨b, off + j * 3 + 2, none⟩ = some (.int .i64 a.d))) 32 (by kernel_rfl) rfl (by kernel_rfl) (by kernel_rfl) H1 (fun hHeld => ?_)
        simp only [List.take_succ_cons, List.take_zero]
        refine wpAnyH_take (i := 0) (v := ?_) rfl (by kernel_rfl) (by kernel_rfl) (by kernel_rfl) (fun _ _ _ h => h) (Or.inl ⟨by rfl, ?_⟩) (by assumption) ?_; rotate_left 1; (· intro wz hSw; (try dsimp only at hSw); go_simp; try with_reducible rfl); (try simp only [Act.put, List.setIfInBounds_toArray, List.set_cons_zero, List.set_cons_succ])
        refine wpAnyH_take (i := 1) (v := ?_) rfl (by kernel_rfl) (by kernel_rfl) (by kernel_rfl) (fun _ _ _ h => h) (Or.inl ⟨by rfl, ?_⟩) (by assumption) ?_; rotate_left 1; (· intro wz hSw; (try dsimp only at hSw); go_simp; try with_reducible rfl); (try simp only [Act.put, List.setIfInBounds_toArray, List.set_cons_zero, List.set_cons_succ])
        refine wpAnyH_take (i := 2) (v := ?_) rfl (by kernel_rfl) (by kernel_rfl) (by kernel_rfl) (fun _ _ _ h => h) (Or.inl ⟨by rfl, ?_⟩) (by assumption) ?_; rotate_left 1; (· intro wz hSw; (try dsimp only at hSw); go_simp; try with_reducible rfl); (try simp only [Act.put, List.setIfInBounds_toArray, List.set_cons_zero, List.set_cons_succ])
        refine wpAnyH_take (i := 3) (v := ?_) rfl (by kernel_rfl) (by kernel_rfl) (by kernel_rfl) (fun _ _ _ h => h) (Or.inl ⟨by rfl, ?_⟩) (by assumption) ?_; rotate_left 1; (· intro wz hSw; (try dsimp only at hSw); go_simp; try with_reducible rfl); (try simp only [Act.put, List.setIfInBounds_toArray, List.set_cons_zero, List.set_cons_succ])
        refine wpAnyH_take (i := 4) (v := ?_) rfl (by kernel_rfl) (by kernel_rfl) (by kernel_rfl) (fun _ _ _ h => h) (Or.inl ⟨by rfl, ?_⟩) (by assumption) ?_; rotate_left 1; (· intro wz hSw; (try dsimp only at hSw); go_simp; try with_reducible rfl); (try simp only [Act.put, List.setIfInBounds_toArray, List.set_cons_zero, List.set_cons_succ])
        refine wpAnyH_take (i := 5) (v := ?_) rfl (by kernel_rfl) (by kernel_rfl) (by kernel_rfl) (fun _ _ _ h => h) (Or.inl ⟨by rfl, ?_⟩) (by assumption) ?_; rotate_left 1; (· intro wz hSw; (try dsimp only at hSw); go_simp; try with_reducible rfl); (try simp only [Act.put, List.setIfInBounds_toArray, List.set_cons_zero, List.set_cons_succ])
        refine wpAnyH_take (i := 6) (v := ?_) rfl (by kernel_rfl) (by kernel_rfl) (by kernel_rfl) (fun _ _ _ h => h) (Or.inl ⟨by rfl, ?_⟩) (by assumption) ?_; rotate_left 1; (· intro wz hSw; (try dsimp only at hSw); go_simp; try with_reducible rfl); (try simp only [Act.put, List.setIfInBounds_toArray, List.set_cons_zero, List.set_cons_succ])
        refine wpAnyH_take (i := 7) (v := ?_) rfl (by kernel_rfl) (by kernel_rfl) (by kernel_rfl) (fun _ _ _ h => h) (Or.inl ⟨by rfl, ?_⟩) (by assumption) ?_; rotate_left 1; (· intro wz hSw; (try dsimp only at hSw); go_simp; try with_reducible rfl); (try simp only [Act.put, List.setIfInBounds_toArray, List.set_cons_zero, List.set_cons_succ])
        refine wpAnyH_take (i := 8) (v := ?_) rfl (by kernel_rfl) (by kernel_rfl) (by kernel_rfl) (fun _ _ _ h => h) (Or.inl ⟨by rfl, ?_⟩) (by assumption) ?_; rotate_left 1; (· intro wz hSw; (try dsimp only at hSw); go_simp; try with_reducible rfl); (try simp only [Act.put, List.setIfInBounds_toArray, List.set_cons_zero, List.set_cons_succ])
        refine wpAnyH_take (i := 9) (v := ?_) rfl (by kernel_rfl) (by kernel_rfl) (by kernel_rfl) (fun _ _ _ h => h) (Or.inl ⟨by rfl, ?_⟩) (by assumption) ?_; rotate_left 1; (· intro wz hSw; (try dsimp only at hSw); go_simp; try with_reducible rfl); (try simp only [Act.put, List.setIfInBounds_toArray, List.set_cons_zero, List.set_cons_succ])
        refine wpAnyH_take (i := 11) (v := ?_) rfl (by kernel_rfl) (by kernel_rfl) (by kernel_rfl) (fun _ _ _ h => h) (Or.inl ⟨by rfl, ?_⟩) (by assumption) ?_; rotate_left 1; (· intro wz hSw; (try dsimp only at hSw); go_simp; try with_reducible rfl); (try simp only [Act.put, List.setIfInBounds_toArray, List.set_cons_zero, List.set_cons_succ])
        refine wpAnyH_take (i := 12) (v := ?_) rfl (by kernel_rfl) (by kernel_rfl) (by kernel_rfl) (fun _ _ _ h => h) (Or.inl ⟨by rfl, ?_⟩) (by assumption) ?_; rotate_left 1; (· intro wz hSw; (try dsimp only at hSw); go_simp; try with_reducible rfl); (try simp only [Act.put, List.setIfInBounds_toArray, List.set_cons_zero, List.set_cons_succ])
        refine wpAnyH_take (i := 13) (v := ?_) rfl (by kernel_rfl) (by kernel_rfl) (by kernel_rfl) (fun _ _ _ h => h) (Or.inl ⟨by rfl, ?_⟩) (by assumption) ?_; rotate_left 1; (· intro wz hSw; (try dsimp only at hSw); go_simp; try with_reducible rfl); (try simp only [Act.put, List.setIfInBounds_toArray, List.set_cons_zero, List.set_cons_succ])
        refine wpAnyH_take (i := 14) (v := ?_) rfl (by kernel_rfl) (by kernel_rfl) (by kernel_rfl) (fun _ _ _ h => h) (Or.inl ⟨by rfl, ?_⟩) (by assumption) ?_; rotate_left 1; (· intro wz hSw; (try dsimp only at hSw); go_simp; try with_reducible rfl); (try simp only [Act.put, List.setIfInBounds_toArray, List.set_cons_zero, List.set_cons_succ])
        refine wpAnyH_take (i := 15) (v := ?_) rfl (by kernel_rfl) (by kernel_rfl) (by kernel_rfl) (fun _ _ _ h => h) (Or.inl ⟨by rfl, ?_⟩) (by assumption) ?_; rotate_left 1; (· intro wz hSw; (try dsimp only at hSw); go_simp; try with_reducible rfl); (try simp only [Act.put, List.setIfInBounds_toArray, List.set_cons_zero, List.set_cons_succ])
        refine wpAnyH_take (i := 16) (v := ?_) rfl (by kernel_rfl) (by kernel_rfl) (by kernel_rfl) (fun _ _ _ h => h) (Or.inl ⟨by rfl, ?_⟩) (by assumption) ?_; rotate_left 1; (· intro wz hSw; (try dsimp only at hSw); go_simp; try with_reducible rfl); (try simp only [Act.put, List.setIfInBounds_toArray, List.set_cons_zero, List.set_cons_succ])
        refine wpAnyH_take (i := 17) (v := ?_) rfl (by kernel_rfl) (by kernel_rfl) (by kernel_rfl) (fun _ _ _ h => h) (Or.inl ⟨by rfl, ?_⟩) (by assumption) ?_; rotate_left 1; (· intro wz hSw; (try dsimp only at hSw); go_simp; try with_reducible rfl); (try simp only [Act.put, List.setIfInBounds_toArray, List.set_cons_zero, List.set_cons_succ])
        refine wpAnyH_take (i := 18) (v := ?_) rfl (by kernel_rfl) (by kernel_rfl) (by kernel_rfl) (fun _ _ _ h => h) (Or.inl ⟨by rfl, ?_⟩) (by assumption) ?_; rotate_left 1; (· intro wz hSw; (try dsimp only at hSw); go_simp; try with_reducible rfl); (try simp only [Act.put, List.setIfInBounds_toArray, List.set_cons_zero, List.set_cons_succ])
        refine wpAnyH_take (i := 20) (v := ?_) rfl (by kernel_rfl) (by kernel_rfl) (by kernel_rfl) (fun _ _ _ h => h) (Or.inl ⟨by rfl, ?_⟩) (by assumption) ?_; rotate_left 1; (· intro wz hSw; (try dsimp only at hSw); go_simp; try with_reducible rfl); (try simp only [Act.put, List.setIfInBounds_toArray, List.set_cons_zero, List.set_cons_succ])
        refine wpAnyH_take (i := 21) (v := ?_) rfl (by kernel_rfl) (by kernel_rfl) (by kernel_rfl) (fun _ _ _ h => h) (Or.inl ⟨by rfl, ?_⟩) (by assumption) ?_; rotate_left 1; (· intro wz hSw; (try dsimp only at hSw); go_simp; try with_reducible rfl); (try simp only [Act.put, List.setIfInBounds_toArray, List.set_cons_zero, List.set_cons_succ])
        refine wpAnyH_take (i := 22) (v := ?_) rfl (by kernel_rfl) (by kernel_rfl) (by kernel_rfl) (fun _ _ _ h => h) (Or.inl ⟨by rfl, ?_⟩) (by assumption) ?_; rotate_left 1; (· intro wz hSw; (try dsimp only at hSw); go_simp; try with_reducible rfl); (try simp only [Act.put, List.setIfInBounds_toArray, List.set_cons_zero, List.set_cons_succ])
        refine wpAnyH_take (i := 23) (v := ?_) rfl (by kernel_rfl) (by kernel_rfl) (by kernel_rfl) (fun _ _ _ h => h) (Or.inl ⟨by rfl, ?_⟩) (by assumption) ?_; rotate_left 1; (· intro wz hSw; (try dsimp only at hSw); go_simp; try with_reducible rfl); (try simp only [Act.put, List.setIfInBounds_toArray, List.set_cons_zero, List.set_cons_succ])
        refine wpAnyH_take (i := 24) (v := ?_) rfl (by kernel_rfl) (by kernel_rfl) (by kernel_rfl) (fun _ _ _ h => h) (Or.inl ⟨by rfl, ?_⟩) (by assumption) ?_; rotate_left 1; (· intro wz hSw; (try dsimp only at hSw); go_simp; try with_reducible rfl); (try simp only [Act.put, List.setIfInBounds_toArray, List.set_cons_zero, List.set_cons_succ])
        refine wpAnyH_take (i := 25) (v := ?_) rfl (by kernel_rfl) (by kernel_rfl) (by kernel_rfl) (fun _ _ _ h => h) (Or.inl ⟨by rfl, ?_⟩) (by assumption) ?_; rotate_left 1; (· intro wz hSw; (try dsimp only at hSw); go_simp; try with_reducible rfl); (try simp only [Act.put, List.setIfInBounds_toArray, List.set_cons_zero, List.set_cons_succ])
        refine wpAnyH_take (i := 26) (v := ?_) rfl (by kernel_rfl) (by kernel_rfl) (by kernel_rfl) (fun _ _ _ h => h) (Or.inl ⟨by rfl, ?_⟩) (by assumption) ?_; rotate_left 1; (· intro wz hSw; (try dsimp only at hSw); go_simp; try with_reducible rfl); (try simp only [Act.put, List.setIfInBounds_toArray, List.set_cons_zero, List.set_cons_succ])
        refine wpAnyH_take (i := 27) (v := ?_) rfl (by kernel_rfl) (by kernel_rfl) (by kernel_rfl) (fun _ _ _ h => h) (Or.inl ⟨by rfl, ?_⟩) (by assumption) ?_; rotate_left 1; (· intro wz hSw; (try dsimp only at hSw); go_simp; try with_reducible rfl); (try simp only [Act.put, List.setIfInBounds_toArray, List.set_cons_zero, List.set_cons_succ])
        refine wpAnyH_take (i := 28) (v := ?_) rfl (by kernel_rfl) (by kernel_rfl) (by kernel_rfl) (fun _ _ _ h => h) (Or.inl ⟨by rfl, ?_⟩) (by assumption) ?_; rotate_left 1; (· intro wz hSw; (try dsimp only at hSw); go_simp; try with_reducible rfl); (try simp only [Act.put, List.setIfInBounds_toArray, List.set_cons_zero, List.set_cons_succ])
        refine wpAnyH_ready (rs := [10]) (by kernel_rfl) (by simp) ?_
        refine AllReadyH.cons rfl (fun K hK => ?_) AllReadyH.nil
        go_simp
        go_at_call 16
        refine (fold6_any a.f m _ W1.out hm6.out).mono ?_
        rintro e w' ⟨r1, hr1, rfl, rfl⟩
        refine hK.out _ _ (by assumption) (fun hHeld => ?_)
        clear hK K
        (try simp only [Act.put, List.setIfInBounds_toArray, List.set_cons_zero, List.set_cons_succ])
        refine wpAnyH_ready (rs := [19]) (by kernel_rfl) (by simp) ?_
        refine AllReadyH.cons rfl (fun K hK => ?_) AllReadyH.nil
        go_simp
        go_at_call 16
        refine (fold6_any a.t m _ W2.out hm6.out).mono ?_
        rintro e w' ⟨r2, hr2, rfl, rfl⟩
        refine hK.out _ _ (by assumption) (fun hHeld => ?_)
        clear hK K
        (try simp only [Act.put, List.setIfInBounds_toArray, List.set_cons_zero, List.set_cons_succ])
        refine wpAnyH_take (i := 29) (v := ?_) rfl (by kernel_rfl) (by kernel_rfl) (by kernel_rfl) (fun _ _ _ h => h) (Or.inl ⟨by rfl, ?_⟩) (by assumption) ?_; rotate_left 1; (· intro wz hSw; (try dsimp only at hSw); go_simp; try with_reducible rfl); (try simp only [Act.put, List.setIfInBounds_toArray, List.set_cons_zero, List.set_cons_succ])
        have HBA : Hid (∀ o, Below (w.heap.size + 3) wc (wc.alloc o).drew) := Lib.hid fun o => ((Below.refl _ _).alloc HLS _).drew
        refine wpAnyH_ready (rs := [30]) (by kernel_rfl) (by simp) ?_
        refine AllReadyH.cons rfl (fun K hK => ?_) AllReadyH.nil
        go_simp
        refine hK.out _ _ (HR.out.go m1 (HBA.out _)) (fun hHeld => ?_)
        clear hK K
        (try simp only [Act.put, List.setIfInBounds_toArray, List.set_cons_zero, List.set_cons_succ])
        refine wpAnyH_ready (rs := [31]) (by kernel_rfl) (by simp) ?_
        refine AllReadyH.cons rfl (fun K hK => ?_) AllReadyH.nil
        refine step_aapp (by rfl) _ _ (by rfl) (w.heap.size + 3) v l [⟨(r1 : Nat), (r2 : Nat), a.d.tmod 1001⟩] (some ⟨wc.heap.size, 0, none⟩) 1 1 (by rfl) (by rfl) (HS.out.own.alloc _) rfl (arcs_one wc _ _ _) (by have := HL.out; simp; omega) (by have := HLS; simp; omega) ?_
        intro v5 w5 ho5 hg5 hat5
        have hb5 : Below (w.heap.size + 3) wc w5 := (HBA.out _).grown hg5 (by have := HLS; simp; omega) (fun k hk => (HS.out.own.base k hk).1)
        have HN5 := Lib.hid (HS.out.next hg5 ho5)
        have HR5 := Lib.hid (HR.out.go m1 hb5)
        have f15 : w5.frozen? ⟨g, 1, none⟩ = false := (hb5.frozen (p := ⟨g, 1, none⟩) (by have := HS.out.eg; show g < _; omega)).trans (HS.out.net.frozen 1)
        obtain ⟨A5, c5, rfl, -, -, -⟩ := ho5.slice
        clear hg5 hat5 hb5 ho5
        refine hK.out _ _ HR5.out (fun hHeld => ?_)
        clear hK K
        (try simp only [Act.put, List.setIfInBounds_toArray, List.set_cons_zero, List.set_cons_succ])
        refine wpAnyH_done (by kernel_rfl) ?_ _
        refine ql2 (ops := #[]) rfl rfl ?_
        obtain ⟨-, -, -, -, m15, -⟩ := HR5.out
        go_wp2_with fail
        refine NoPanic.normal ?_
        have hok := HOK.out.snoc hr1 hr2 HD.out
        have hlen : (l ++ [(⟨(r1 : Nat), (r2 : Nat), a.d.tmod 1001⟩ : Arc)]).length = l.length + 1 := by simp
        have HLEN := Lib.hid hlen
        have HOK2 := Lib.hid hok
        rw [hlen] at HN5
        clear hlen hok
        go_wp2_with fail
        exact ⟨⟨j + 1, _, _, by omega, by go_num, by rw [HLEN.out, HL.out], HOK2.out, HN5.out⟩, by simp [intOf]; omega⟩
      · rw [decide_eq_false hlt]
        have HL40 : Hid (l.length ≤ 40) := Lib.hid (by have := HL.out; omega)
        clear hlt HL hj k0 k1 m0 m1
        go_wp2_with fail
        go_loopw [9, 10] (fun i _ wr => ∃ (k : Nat) (v : Value) (l : List Arc), k ≤ m ∧ i = .int .i64 k ∧ l.length ≤ 40 + k ∧ MdOk m l ∧ ringTo m k l ∧ MdS w g gn A n c m v l wr) (fun i _ _ => m - (intOf i).toNat)
        case atStart => exact ⟨0, v, l, by omega, rfl, HL40.out, HOK.out, fun i hi => by omega, HS.out⟩
        case round =>
          clear HL40 HOK HS
          obtain ⟨k, v, l, hk, rfl, hl, hok, hring, hS⟩ := hrel
          have HS := Lib.hid hS
          have HOK := Lib.hid hok
          have HL := Lib.hid hl
          have HRG := Lib.hid hring
          obtain ⟨k0, k1, m0, m1⟩ := HS.out.cells
          clear hS hok hl hring
          by_cases hlt : k < m
          · go_upto_if 73 with (fail)
            go_cut [10] from 74 to 95 (fun s wx => ∃ d : Int, s = .int .i64 d ∧ -1000 ≤ d ∧ d ≤ 1000 ∧ wx = wr)
            case first =>
              by_cases hkn : k < n
              · have hlk : k < l0.length := by rw [HN.out]; exact hkn
                obtain ⟨b, off, rfl, hbw, hcells⟩ := HA.out (by intro e; rw [e] at hlk; cases hlk)
                obtain ⟨-, -, c2⟩ := hcells k l0[k] (List.getElem?_eq_getElem hlk)
                have hc2 := (HS.out.below.cell (p := ⟨b, _, none⟩) hbw).trans c2
                generalize l0[k] = a at *
                have HD : Hid (-1000 ≤ a.d.tmod 1001 ∧ a.d.tmod 1001 ≤ 1000) := Lib.hid (by
                  have x := Int.tmod_lt_of_pos a.d (b := 1001) (by omega)
                  have y := Int.lt_tmod_of_pos a.d (b := 1001) (by omega)
                  omega)
                have hw2b : IntKind.i64.wrap 1001 = 1001 := by decide
                have hw2 : IntKind.i64.wrap (1000 + 1) = 1001 := by decide
                have hw3 : IntKind.i64.wrap (a.d.tmod 1001) = a.d.tmod 1001 := IntWalk.i64_in _ (by have := HD.out; omega)
                clear hcells c2
                go_wp2_with fail
                go_meet
                exact ⟨_, rfl, HD.out.1, HD.out.2, rfl⟩
              · go_wp2_with fail
                go_meet
                exact ⟨0, rfl, by omega, by omega, rfl⟩
            case rest =>
              obtain ⟨d, rfl, hd1, hd2, rfl⟩ := hcut
              have HLS := HS.out.lt
              have hw1 : IntKind.i64.wrap ((k : Int) + 1) = (k : Int) + 1 := IntWalk.i64_in _ (by omega)
              obtain ⟨q, hqq⟩ : ∃ q : Nat, (k + 1) % m = q := ⟨_, rfl⟩
              have hml : q < m := by rw [← hqq]; exact Nat.mod_lt _ (by omega)
              have hmod : ((k : Int) + 1).tmod (m : Int) = (q : Int) := by
                rw [Int.tmod_eq_emod_of_nonneg (by omega), ← hqq]; norm_cast
              have hmodE : ((k : Int) + 1) % (m : Int) = (q : Int) := by rw [← hqq]; norm_cast
              have hw4 : IntKind.i64.wrap (q : Int) = (q : Int) := IntWalk.i64_in _ (by omega)
              have HQQ := Lib.hid hqq
              clear hqq
              have hm0 : (m : Int) ≠ 0 := by omega
              have hm0n : m ≠ 0 := by omega
              go_upto_region 12 with (fail)
              have H1 := HS.out.go2 (Below.refl _ _).drew
              refine wp_region_peel2 (S := (fun w' => w'.cell? ⟨g, 0, none⟩ = some (.int .i64 m) ∧ w'.cell? ⟨g, 1, none⟩ = some v)) 12 (by kernel_rfl) rfl (by kernel_rfl) (by kernel_rfl) H1 (fun hHeld => ?_)
              simp only [List.take_succ_cons, List.take_zero]
              refine wpAnyH_take (i := 0) (v := ?_) rfl (by kernel_rfl) (by kernel_rfl) (by kernel_rfl) (fun _ _ _ h => h) (Or.inl ⟨by rfl, ?_⟩) (by assumption) ?_; rotate_left 1; (· intro wz hSw; (try dsimp only at hSw); go_simp; try with_reducible rfl); (try simp only [Act.put, List.setIfInBounds_toArray, List.set_cons_zero, List.set_cons_succ])
              refine wpAnyH_take (i := 1) (v := ?_) rfl (by kernel_rfl) (by kernel_rfl) (by kernel_rfl) (fun _ _ _ h => h) (Or.inl ⟨by rfl, ?_⟩) (by assumption) ?_; rotate_left 1; (· intro wz hSw; (try dsimp only at hSw); go_simp; try with_reducible rfl); (try simp only [Act.put, List.setIfInBounds_toArray, List.set_cons_zero, List.set_cons_succ])
              refine wpAnyH_take (i := 2) (v := ?_) rfl (by kernel_rfl) (by kernel_rfl) (by kernel_rfl) (fun _ _ _ h => h) (Or.inl ⟨by rfl, ?_⟩) (by assumption) ?_; rotate_left 1; (· intro wz hSw; (try dsimp only at hSw); go_simp; try with_reducible rfl); (try simp only [Act.put, List.setIfInBounds_toArray, List.set_cons_zero, List.set_cons_succ])
              refine wpAnyH_take (i := 3) (v := ?_) rfl (by kernel_rfl) (by kernel_rfl) (by kernel_rfl) (fun _ _ _ h => h) (Or.inl ⟨by rfl, ?_⟩) (by assumption) ?_; rotate_left 1; (· intro wz hSw; (try dsimp only at hSw); go_simp; try with_reducible rfl); (try simp only [Act.put, List.setIfInBounds_toArray, List.set_cons_zero, List.set_cons_succ])
              refine wpAnyH_take (i := 4) (v := ?_) rfl (by kernel_rfl) (by kernel_rfl) (by kernel_rfl) (fun _ _ _ h => h) (Or.inl ⟨by rfl, ?_⟩) (by assumption) ?_; rotate_left 1; (· intro wz hSw; (try dsimp only at hSw); go_simp; try with_reducible rfl); (try simp only [Act.put, List.setIfInBounds_toArray, List.set_cons_zero, List.set_cons_succ])
              refine wpAnyH_take (i := 5) (v := ?_) rfl (by kernel_rfl) (by kernel_rfl) (by kernel_rfl) (fun _ _ _ h => h) (Or.inl ⟨by rfl, ?_⟩) (by assumption) ?_; rotate_left 1; (· intro wz hSw; (try dsimp only at hSw); go_simp; try with_reducible rfl); (try simp only [Act.put, List.setIfInBounds_toArray, List.set_cons_zero, List.set_cons_succ])
              refine wpAnyH_take (i := 6) (v := ?_) rfl (by kernel_rfl) (by kernel_rfl) (by kernel_rfl) (fun _ _ _ h => h) (Or.inl ⟨by rfl, ?_⟩) (by assumption) ?_; rotate_left 1; (· intro wz hSw; (try dsimp only at hSw); go_simp; try with_reducible rfl); (try simp only [Act.put, List.setIfInBounds_toArray, List.set_cons_zero, List.set_cons_succ])
              refine wpAnyH_take (i := 7) (v := ?_) rfl (by kernel_rfl) (by kernel_rfl) (by kernel_rfl) (fun _ _ _ h => h) (Or.inl ⟨by rfl, ?_⟩) (by assumption) ?_; rotate_left 1; (· intro wz hSw; (try dsimp only at hSw); go_simp; try with_reducible rfl); (try simp only [Act.put, List.setIfInBounds_toArray, List.set_cons_zero, List.set_cons_succ])
              refine wpAnyH_take (i := 8) (v := ?_) rfl (by kernel_rfl) (by kernel_rfl) (by kernel_rfl) (fun _ _ _ h => h) (Or.inl ⟨by rfl, ?_⟩) (by assumption) ?_; rotate_left 1; (· intro wz hSw; (try dsimp only at hSw); go_simp; try with_reducible rfl); (try simp only [Act.put, List.setIfInBounds_toArray, List.set_cons_zero, List.set_cons_succ])
              refine wpAnyH_take (i := 9) (v := ?_) rfl (by kernel_rfl) (by kernel_rfl) (by kernel_rfl) (fun _ _ _ h => h) (Or.inl ⟨by rfl, ?_⟩) (by assumption) ?_; rotate_left 1; (· intro wz hSw; (try dsimp only at hSw); go_simp; try with_reducible rfl); (try simp only [Act.put, List.setIfInBounds_toArray, List.set_cons_zero, List.set_cons_succ])
              have HBA : Hid (∀ o, Below (w.heap.size + 3) wc (wc.alloc o).drew) := Lib.hid fun o => ((Below.refl _ _).alloc HLS _).drew
              clear hw1 hmod hmodE hw4 hm0 hm0n
              refine wpAnyH_ready (rs := [10]) (by kernel_rfl) (by simp) ?_
              refine AllReadyH.cons rfl (fun K hK => ?_) AllReadyH.nil
              go_simp
              refine hK.out _ _ (HS.out.go2 (HBA.out _)) (fun hHeld => ?_)
              clear hK K
              (try simp only [Act.put, List.setIfInBounds_toArray, List.set_cons_zero, List.set_cons_succ])
              refine wpAnyH_ready (rs := [11]) (by kernel_rfl) (by simp) ?_
              refine AllReadyH.cons rfl (fun K hK => ?_) AllReadyH.nil
              refine step_aapp (by rfl) _ _ (by rfl) (w.heap.size + 3) v l [⟨(k : Nat), (q : Nat), d⟩] (some ⟨wc.heap.size, 0, none⟩) 1 1 (by rfl) (by rfl) (HS.out.own.alloc _) rfl (arcs_one wc _ _ _) (by have := HL.out; simp; omega) (by have := HLS; simp; omega) ?_
              intro v5 w5 ho5 hg5 hat5
              have hb5 : Below (w.heap.size + 3) wc w5 := (HBA.out _).grown hg5 (by have := HLS; simp; omega) (fun k hk => (HS.out.own.base k hk).1)
              have HN5 := HS.out.next hg5 ho5
              have HR5 := HS.out.go2 hb5
              have f15 : w5.frozen? ⟨g, 1, none⟩ = false := (hb5.frozen (p := ⟨g, 1, none⟩) (by have := HS.out.eg; show g < _; omega)).trans (HS.out.net.frozen 1)
              obtain ⟨A5, c5, rfl, -, -, -⟩ := ho5.slice
              have hok := HOK.out.snoc hlt hml ⟨hd1, hd2⟩
              have hring := HRG.out.snoc (f := (k : Nat)) (d := d)
              rw [HQQ.out] at hring
              have hlen : (l ++ [(⟨(k : Nat), (q : Nat), d⟩ : Arc)]).length = l.length + 1 := by simp
              have HOK2 := Lib.hid hok
              have HRG2 := Lib.hid hring
              have HLEN := Lib.hid hlen
              rw [hlen] at HN5
              have HN6 := Lib.hid HN5
              clear hg5 hat5 hb5 ho5 hok hring hlen HN5
              refine hK.out _ _ HR5 (fun hHeld => ?_)
              clear hK K
              (try simp only [Act.put, List.setIfInBounds_toArray, List.set_cons_zero, List.set_cons_succ])
              refine wpAnyH_done (by kernel_rfl) ?_ _
              refine ql2 (ops := #[]) rfl rfl ?_
              obtain ⟨-, m15⟩ := HR5
              go_wp2_with fail
              refine NoPanic.normal ?_
              go_wp2_with fail
              exact ⟨⟨k + 1, _, _, by omega, by go_num, by rw [HLEN.out]; have := HL.out; omega, HOK2.out, HRG2.out, HN6.out⟩, by simp [intOf]; omega⟩
          · obtain rfl : k = m := by omega
            obtain ⟨A5, c5, rfl, hcc, hat, -⟩ := HS.out.own.slice
            have r0 := (HS.out.res.cell 0).trans (show _ = some (Value.int .i64 0) from rfl)
            have r1 := (HS.out.res.cell 1).trans (show _ = some (Value.slice none 0 0) from rfl)
            have q0 := HS.out.res.frozen 0
            have q1 := HS.out.res.frozen 1
            clear hcc hat
            go_wp2_with fail
            have HWB : Hid (Blk ((wr.setCell ⟨w.heap.size + 1, 0, none⟩ (.int .i64 k)).setCell ⟨w.heap.size + 1, 1, none⟩ (.slice A5 l.length c5)) (w.heap.size + 1) 24 #[.int .i64 k, .slice A5 l.length c5]) := Lib.hid ((HS.out.res.set_ 0 _).set_ 1 _)
            have hfar : (Value.slice A5 l.length c5).ownBlock ≠ some (w.heap.size + 1) := fun e => by have := (HS.out.own.base _ e).1; omega
            have HWO : Hid (ArcsOwn ((wr.setCell ⟨w.heap.size + 1, 0, none⟩ (.int .i64 k)).setCell ⟨w.heap.size + 1, 1, none⟩ (.slice A5 l.length c5)) w.heap.size (.slice A5 l.length c5) l) := Lib.hid (((HS.out.own.less (by omega)).far hfar fun k hk => Below.heap_setCell _ _ _ k hk).far hfar fun k hk => Below.heap_setCell _ _ _ k hk)
            have HWL : Hid (Below w.heap.size w ((wr.setCell ⟨w.heap.size + 1, 0, none⟩ (.int .i64 k)).setCell ⟨w.heap.size + 1, 1, none⟩ (.slice A5 l.length c5))) := Lib.hid ((HS.out.below.setCell (p := ⟨w.heap.size + 1, 0, none⟩) (Nat.le_succ _) _).setCell (p := ⟨w.heap.size + 1, 1, none⟩) (Nat.le_succ _) _)
            have HLV := Lib.hid (live_ring HRG.out)
            clear hfar
            generalize ((wr.setCell ⟨w.heap.size + 1, 0, none⟩ (.int .i64 k)).setCell ⟨w.heap.size + 1, 1, none⟩ (.slice A5 l.length c5)) = W at *
            have p0 := (HWB.out.cell 0).trans (show _ = some (Value.int .i64 k) from rfl)
            have p1 := (HWB.out.cell 1).trans (show _ = some (Value.slice A5 l.length c5) from rfl)
            refine bodyPost_ret (v := .agg #[.int .i64 k, .slice A5 l.length c5]) (by simp [results, Tryz.results14, go_sem, p0, p1]) rfl ?_
            exact ⟨k, _, l, rfl, hm1.1, hm1.2, by have := HL.out; omega, HOK.out, HLV.out, HWO.out, HWL.out⟩
end Go.Proofs.YtddejjilfmphbaaGreatDoor
