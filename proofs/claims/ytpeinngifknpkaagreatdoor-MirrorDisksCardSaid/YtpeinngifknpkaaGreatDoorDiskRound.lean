/- MirrorDisks: what a round of the law keeps. -/
import Derived.Test.YtpeinngifknpkaaGreatDoorDiskRel
import Derived.Lib.SlBytesConst
import Derived.Test.YtpeinngifknpkaaGreatDoorByteZeros
namespace Go.Proofs.YtpeinngifknpkaaGreatDoor
open Go.RowKit Go.Sort

/-- The cells of the document's disk. -/
def Rk.cells (r : Rk) : Array Value := #[.string r.s, .int .i64 r.safe, .bool r.down, .bool r.lost, .bool r.armed, .int .i64 r.left]
theorem Rk.val_cells (r : Rk) : r.val = .agg r.cells := rfl

/-- A disk as the law has it: its blocks are none of those from a to b. -/
structure Both (w : World) (a b gr gd : Nat) (wx : World) (v : Value) (d : Dk) (r : Rk) : Prop where
  disk : DiskAt wx w.heap.size gd v d
  rel : Rel r d
  ref : wx.heap[gr]? = some (.cells r.cells 26 (0, 0))
  below : Below w.heap.size w wx
  row : ∀ k, rowOf v = some k → (k < a ∨ b ≤ k) ∧ k ≠ gr
  size : b ≤ wx.heap.size
/-- The copy: its blocks are those from a to b. -/
structure Copy (a b gc : Nat) (wx : World) (vc : Value) (dc : Dk) : Prop where
  disk : DiskAt wx a gc vc dc
  lt : gc < b
  row : ∀ k, rowOf vc = some k → k < b
def After (w : World) (a m b gr gd gc : Nat) (wx : World) : Prop := (∃ v d r, Both w a b gr gd wx v d r) ∧ ∃ vc dc, Copy m b gc wx vc dc

/-- Who else's turn changes nothing of a disk. -/
theorem DiskAt.turn {w w' : World} {base g : Nat} {v : Value} {d : Dk} (h : DiskAt w base g v d) {j : Nat} {row : Option Nat} (t : Turn w w' j row) (h1 : g ≠ j) (h2 : some g ≠ row) (h3 : ∀ k, rowOf v = some k → k ≠ j ∧ some k ≠ row) : DiskAt w' base g v d :=
  ⟨h.low, (t.block g h.lt h1 h2).trans h.obj, h.own.kept fun k hk => t.block k (h.own.row hk).2.1 (h3 k hk).1 (h3 k hk).2, h.safe, h.most, h.left⟩

theorem Both.step {w w7 w8 w9 w10 : World} {a gr gd : Nat} {v v' : Value} {d d' : Dk} {r r' : Rk} (h : Both w a w7.heap.size gr gd w7 v d r)
    (hgr : w.heap.size ≤ gr) (hgl : gr < a) (hgd : gd < a) (hne : gr ≠ gd)
    (hD : DiskAt w8 w.heap.size gd v' d') (hrow : rowOf v' = rowOf v ∨ ∀ k, rowOf v' = some k → w7.heap.size ≤ k) (hT : Turn w7 w8 gd (rowOf v)) (hb : Below w8.heap.size w8 w9)
    (hR : Rel r' d') (h1 : w10.heap[gr]? = some (.cells r'.cells 26 (0, 0))) (h2 : Turn w9 w10 gr none) (ha : a ≤ w7.heap.size) : Both w a w7.heap.size gr gd w10 v' d' r' := by
  have hrow' : ∀ k, rowOf v' = some k → (k < a ∨ w7.heap.size ≤ k) ∧ k ≠ gr := fun k hk => by
    rcases hrow with e | e
    · exact h.row k (e ▸ hk)
    · have := e k hk; omega
  have hs := h.below.size
  have hlow := hD.low
  refine ⟨(hD.below hb (Nat.le_refl _)).turn h2 (fun e => hne e.symm) (fun e => by cases e) (fun k hk => ⟨(hrow' k hk).2, fun e => by cases e⟩), hR, h1, ?_, hrow', ?_⟩
  · have t1 := hT.below (base := w.heap.size) hlow (fun k hk => (h.disk.own.row hk).1) hs
    have t2 := t1.trans (hb.mono (Nat.le_trans hs t1.size))
    exact h.below.trans (t2.trans (h2.below (base := w.heap.size) hgr (fun k hk => by cases hk) (Nat.le_trans hs t2.size)))
  · exact Nat.le_trans hT.size (Nat.le_trans hb.size h2.size)

/-- The copy stays through the disk's act. -/
theorem Copy.step {w7 w8 w9 w10 : World} {a m gr gd gc : Nat} {v vc : Value} {dc : Dk} (h : Copy m w7.heap.size gc w7 vc dc) (ham : a ≤ m) (hgl : gr < a) (hgd : gd < a)
    (hT : Turn w7 w8 gd (rowOf v)) (hv : ∀ k, rowOf v = some k → k < a) (hb : Below w8.heap.size w8 w9) (h2 : Turn w9 w10 gr none) : Copy m w7.heap.size gc w10 vc dc := by
  have hl := h.disk.low
  have hr : ∀ k, rowOf vc = some k → m ≤ k := fun k hk => (h.disk.own.row hk).1
  refine ⟨((h.disk.turn hT (by omega) (fun e => by have := hv _ e.symm; omega) (fun k hk => ⟨by have := hr k hk; omega, fun e => by have := hv _ e.symm; have := hr k hk; omega⟩)).below hb (Nat.le_refl _)).turn h2 (by omega) (fun e => by cases e) (fun k hk => ⟨by have := hr k hk; omega, fun e => by cases e⟩), h.lt, h.row⟩

/-- Bytes of the law's own may turn. -/
theorem After.turn {w wx wy : World} {a m b gr gd gc j : Nat} (h : After w a m b gr gd gc wx) (t : Turn wx wy j none) (h1 : a ≤ j) (h2 : j < m) (hmb : m ≤ b) (hgl : gr < a) (hgd : gd < a) (hw : w.heap.size ≤ a) : After w a m b gr gd gc wy := by
  obtain ⟨⟨v, d, r, hB⟩, vc, dc, hC⟩ := h
  have hl := hC.disk.low
  refine ⟨⟨v, d, r, hB.disk.turn t (by omega) (fun e => by cases e) (fun k hk => ⟨by have := (hB.row k hk).1; omega, fun e => by cases e⟩), hB.rel, ?_, ?_, hB.row, Nat.le_trans hB.size t.size⟩, vc, dc, hC.disk.turn t (by omega) (fun e => by cases e) (fun k hk => ⟨by have := (hC.disk.own.row hk).1; omega, fun e => by cases e⟩), hC.lt, hC.row⟩
  · have hlt : gr < wx.heap.size := (Array.getElem?_eq_some_iff.1 hB.ref).1
    exact (t.block gr hlt (by omega) (fun e => by cases e)).trans hB.ref
  · exact hB.below.trans (t.below (by omega) (fun k hk => by cases hk) hB.below.size)

/-- What the law's loop keeps, at round i: the disk gd, the document's in block gr. -/
def Kept (w : World) (gr : Nat) (wr : World) (gd : Nat) : Prop :=
  ∃ v d r, Both w wr.heap.size wr.heap.size gr gd wr v d r ∧ w.heap.size ≤ gr ∧ gr < wr.heap.size ∧ gr ≠ gd
theorem Both.below_ {w wx wy : World} {a b gr gd : Nat} {v : Value} {d : Dk} {r : Rk} (h : Both w a b gr gd wx v d r) (hb : Below wx.heap.size wx wy) : Both w a b gr gd wy v d r :=
  ⟨h.disk.below hb (Nat.le_refl _), h.rel, (hb.block gr (Array.getElem?_eq_some_iff.1 h.ref).1).trans h.ref, h.below.trans (hb.mono h.below.size), h.row, Nat.le_trans h.size hb.size⟩
theorem Both.low {w wx : World} {a b a' b' gr gd : Nat} {v : Value} {d : Dk} {r : Rk} (h : Both w a b gr gd wx v d r) (hk : ∀ k, rowOf v = some k → k < a' ∨ b' ≤ k) (hb : b' ≤ wx.heap.size) : Both w a' b' gr gd wx v d r :=
  ⟨h.disk, h.rel, h.ref, h.below, fun k e => ⟨hk k e, (h.row k e).2⟩, hb⟩
theorem Copy.below_ {wx wy : World} {m b gc : Nat} {vc : Value} {dc : Dk} (h : Copy m b gc wx vc dc) (hb : Below wx.heap.size wx wy) : Copy m b gc wy vc dc := ⟨h.disk.below hb (Nat.le_refl _), h.lt, h.row⟩

/-- A disk's act, as the law needs it. -/
def Moved (w : World) (base g : Nat) (v : Value) (d : Dk) (w' : World) : Prop := ∃ v', (rowOf v' = rowOf v ∨ ∀ k, rowOf v' = some k → w.heap.size ≤ k) ∧ DiskAt w' base g v' d ∧ Turn w w' g (rowOf v)
theorem Turn.more {w w' : World} {g : Nat} (h : Turn w w' g none) (row : Option Nat) : Turn w w' g row := ⟨h.os, h.tape, h.output, h.size, fun k hk h1 _ => h.block k hk h1 (fun e => by cases e)⟩
theorem ByTo.moved {w w' : World} {base g : Nat} {v : Value} {d : Dk} {r : Int} {e : Ending} (h : ByTo w base g v d r e w') : e = .returned (.int .i64 r) ∧ Moved w base g v d w' := ⟨h.1, h.2⟩
theorem ActTo.moved {w w' : World} {base g : Nat} {v : Value} {d : Dk} {r : Int} {e : Ending} (h : ActTo w base g v d r e w') : e = .returned (.int .i64 r) ∧ Moved w base g v d w' := ⟨h.1, v, .inl rfl, h.2.1, h.2.2.more _⟩
theorem TurnTo.moved {w w' : World} {base g : Nat} {v : Value} {d : Dk} {e : Ending} (h : TurnTo w base g v d e w') : e = .returned (.tuple #[]) ∧ Moved w base g v d w' := by
  obtain ⟨h1, v', h2, h3, h4⟩ := h
  refine ⟨h1, v', ?_, h3, h4.more _⟩
  rcases h2 with h2 | h2
  · exact .inl h2
  · exact .inr (fun k hk => by rw [h2] at hk; cases hk)

/-- What the round knows ahead of its act. -/
structure Ahead (w : World) (a m : Nat) (w7 : World) (gr gd gc : Nat) (v vc : Value) (d dc : Dk) (r : Rk) : Prop where
  both : Both w a w7.heap.size gr gd w7 v d r
  copy : Copy m w7.heap.size gc w7 vc dc
  gr0 : w.heap.size ≤ gr
  gra : gr < a
  gda : gd < a
  ne : gr ≠ gd
  va : ∀ k, rowOf v = some k → k < a
  am : a ≤ m
  m7 : m ≤ w7.heap.size

theorem Ahead.ref8 {w w7 w8 : World} {a m gr gd gc : Nat} {v vc : Value} {d dc d' : Dk} {r : Rk} (h : Ahead w a m w7 gr gd gc v vc d dc r) (hM : Moved w7 w.heap.size gd v d' w8) :
    w8.heap[gr]? = some (.cells #[.string r.s, .int .i64 r.safe, .bool r.down, .bool r.lost, .bool r.armed, .int .i64 r.left] 26 (0, 0)) := by
  obtain ⟨-, -, -, hT⟩ := hM
  exact (hT.block gr (Nat.lt_of_lt_of_le h.gra (Nat.le_trans h.am h.m7)) h.ne (fun e => (h.both.row gr e.symm).2 rfl)).trans h.both.ref
theorem Ahead.six {w w7 w8 : World} {a m gr gd gc : Nat} {v vc : Value} {d dc d' : Dk} {r : Rk} (h : Ahead w a m w7 gr gd gc v vc d dc r) (hM : Moved w7 w.heap.size gd v d' w8) :
    w8.cell? ⟨gr, 0, none⟩ = some (.string r.s) ∧ w8.cell? ⟨gr, 1, none⟩ = some (.int .i64 r.safe) ∧ w8.cell? ⟨gr, 2, none⟩ = some (.bool r.down) ∧ w8.cell? ⟨gr, 3, none⟩ = some (.bool r.lost) ∧ w8.cell? ⟨gr, 4, none⟩ = some (.bool r.armed) ∧ w8.cell? ⟨gr, 5, none⟩ = some (.int .i64 r.left) := (six_of (h.ref8 hM)).1
theorem Ahead.after {w w7 w8 w9 w10 : World} {a m gr gd gc : Nat} {v vc : Value} {d dc d' : Dk} {r r' : Rk} (h : Ahead w a m w7 gr gd gc v vc d dc r) (hM : Moved w7 w.heap.size gd v d' w8) (hb : Below w8.heap.size w8 w9)
    (hR : Rel r' d') (h1 : w10.heap[gr]? = some (.cells r'.cells 26 (0, 0))) (h2 : Turn w9 w10 gr none) : After w a m w7.heap.size gr gd gc w10 := by
  obtain ⟨v', hrow, hD, hT⟩ := hM
  have h3 := h.am
  have h4 := h.m7
  exact ⟨⟨v', d', r', h.both.step h.gr0 h.gra h.gda h.ne hD hrow hT hb hR h1 h2 (by omega)⟩, vc, dc, h.copy.step h.am h.gra h.gda hT h.va hb h2⟩
theorem Ahead.same {w w7 : World} {a m gr gd gc : Nat} {v vc : Value} {d dc : Dk} {r : Rk} (h : Ahead w a m w7 gr gd gc v vc d dc r) : After w a m w7.heap.size gr gd gc w7 := ⟨⟨v, d, r, h.both⟩, vc, dc, h.copy⟩
theorem Ahead.hl {w w7 : World} {a m gr gd gc : Nat} {v vc : Value} {d dc : Dk} {r : Rk} (h : Ahead w a m w7 gr gd gc v vc d dc r) : r.off = 0 → 1 ≤ r.left ∧ r.left ≤ 9223372036854775807 ∨ r.armed = false := h.both.rel.hl h.both.disk.left

/-- A row of bytes that the law itself turns, one by one. -/
def Buf (w0 : World) (kb n : Nat) (w : World) : Prop := (∃ cur, w.heap[kb]? = some (.cells cur 5 (0, 0)) ∧ ∀ j, j < n → ∃ z : Nat, z < 256 ∧ cur[j]? = some (.int .u8 (z : Int))) ∧ Turn w0 w kb none
theorem Buf.at_ {w0 w : World} {kb n q : Nat} (h : Buf w0 kb n w) (hq : q < n) : ∃ z : Nat, z < 256 ∧ w.cell? ⟨kb, q, none⟩ = some (.int .u8 (z : Int)) ∧ w.frozen? ⟨kb, q, none⟩ = false := by
  obtain ⟨⟨cur, hc, hz⟩, -⟩ := h
  obtain ⟨z, h1, h2⟩ := hz q hq
  exact ⟨z, h1, (cell_of_row w kb q cur _ (0, 0) hc).trans h2, by simp [World.frozen?, hc]⟩
theorem Buf.set {w0 w : World} {kb n : Nat} (h : Buf w0 kb n w) (q z : Nat) (hz : z < 256) : Buf w0 kb n (w.setCell ⟨kb, q, none⟩ (.int .u8 (z : Int))) := by
  obtain ⟨⟨cur, hc, hx⟩, hT⟩ := h
  refine ⟨⟨cur.setIfInBounds q (.int .u8 (z : Int)), by simp [World.setCell, Array.getElem?_modify, hc], fun j hj => ?_⟩, hT.trans (Turn.set _ _ _ _ none) (fun _ h => by cases h)⟩
  obtain ⟨y, h1, h2⟩ := hx j hj
  by_cases e : q = j
  · subst e
    have hl : q < cur.size := (Array.getElem?_eq_some_iff.1 h2).1
    exact ⟨z, hz, by rw [Array.getElem?_setIfInBounds]; simp [hl]⟩
  · exact ⟨y, h1, by rw [Array.getElem?_setIfInBounds]; simp [e, h2]⟩
theorem ByOwn.buf {w : World} {base : Nat} {A : Option Addr} {n c : Nat} {xs : List UInt8} (h : ByOwn w base (.slice A n c) xs) (hn : 0 < n) (hx : xs.length = n) :
    ∃ kb, A = some ⟨kb, 0, none⟩ ∧ base ≤ kb ∧ rowOf (.slice A n c) = some kb ∧ Buf w kb n w := by
  rcases h with h | ⟨rfl, a, e⟩
  · rcases h.2 with ⟨e, -⟩ | ⟨g, cap, cur, e, hg, hc, h1, h2, h3, h4⟩
    · simp only [Value.slice.injEq] at e; omega
    · simp only [Value.slice.injEq] at e
      obtain ⟨rfl, -, rfl⟩ := e
      obtain ⟨m, rfl⟩ : ∃ m, c = m + 1 := ⟨c - 1, by omega⟩
      refine ⟨g, rfl, hg, rfl, ⟨cur, hc, fun j hj => ?_⟩, Turn.refl _ _ _⟩
      have h4' : cur.toList.take xs.length = bV xs := by simpa using h4
      have hj' : j < xs.length := by omega
      refine ⟨xs[j].toNat, xs[j].toNat_lt, ?_⟩
      have h5 : (bV xs)[j]? = some (.int .u8 (xs[j].toNat : Int)) := by rw [bV_get, List.getElem?_eq_getElem hj']; rfl
      rw [← h4', List.getElem?_take, if_pos hj'] at h5
      simpa using h5
  · simp only [Value.slice.injEq] at e
    simp at hx; omega

/-- The law's own bytes stay through the disk's act. -/
theorem Ahead.own {w w7 w8 w9 w10 : World} {a m gr gd gc : Nat} {v vc : Value} {d dc d' : Dk} {r : Rk} (h : Ahead w a m w7 gr gd gc v vc d dc r) (hM : Moved w7 w.heap.size gd v d' w8) {bv : Value} {ys : List UInt8} (ho : ByOwn w7 a bv ys) : ByOwn w8 a bv ys := by
  obtain ⟨-, -, -, hT⟩ := hM
  refine ho.kept fun k hk => hT.block k (ho.row hk).2.1 (by have := (ho.row hk).1; have := h.gda; omega) (fun e => ?_)
  have := h.va k e.symm
  have := (ho.row hk).1
  omega

/-- What the law's inner loop keeps. -/
def Bump (w0 : World) (A : Option Addr) (a m n : Nat) (wx : World) : Prop := (n = 0 ∧ wx = w0) ∨ ∃ kb, A = some ⟨kb, 0, none⟩ ∧ a ≤ kb ∧ kb < m ∧ Buf w0 kb n wx
theorem Bump.after {w w0 wx : World} {A : Option Addr} {a m n b gr gd gc : Nat} (h : Bump w0 A a m n wx) (hA : After w a m b gr gd gc w0) (hmb : m ≤ b) (hgl : gr < a) (hgd : gd < a) (hw : w.heap.size ≤ a) : After w a m b gr gd gc wx := by
  rcases h with ⟨-, rfl⟩ | ⟨kb, -, h1, h2, h3⟩
  · exact hA
  · exact hA.turn h3.2 h1 h2 hmb hgl hgd hw
theorem ByOwn.bump {w : World} {a m : Nat} {A : Option Addr} {n c : Nat} {xs : List UInt8} (h : ByOwn w a (.slice A n c) xs) (hx : xs.length = n) (hm : ∀ k, rowOf (.slice A n c) = some k → k < m) : Bump w A a m n w := by
  rcases Nat.eq_zero_or_pos n with h0 | h0
  · exact .inl ⟨h0, rfl⟩
  · obtain ⟨kb, h1, h2, h3, h4⟩ := h.buf h0 hx
    exact .inr ⟨kb, h1, h2, hm kb h3, h4⟩
theorem ByOwn.on {w8 w9 w10 : World} {a gr : Nat} {v : Value} {xs : List UInt8} (h : ByOwn w8 a v xs) (hb : Below w8.heap.size w8 w9) (h2 : Turn w9 w10 gr none) (hgl : gr < a) : ByOwn w10 a v xs := by
  refine h.kept fun k hk => ?_
  have h1 := (h.row hk).2.1
  have h3 := (h.row hk).1
  exact (h2.block k (Nat.lt_of_lt_of_le h1 hb.size) (by omega) (fun e => by cases e)).trans (hb.block k h1)

/-- The law's comparison of the two. -/
theorem same_both {w wx : World} {a b gr gd : Nat} {v : Value} {d : Dk} {r : Rk} (h : Both w a b gr gd wx v d r) :
    Calls Tryz.prog 28 #[.pointer (some ⟨gd, 0, none⟩), r.val] wx fun e w' => e = .returned (.bool true) ∧ Below wx.heap.size wx w' := by
  have := same_any h.disk r.safe r.armed r.left
  have e : r = ⟨ofL d.bytes, r.safe, d.down, d.lost, r.armed, r.left⟩ := by
    have h1 := h.rel.s
    have h2 := h.rel.down
    have h3 := h.rel.lost
    clear this h
    obtain ⟨s, safe, down, lost, armed, left⟩ := r
    dsimp only at h1 h2 h3
    subst h1 h2 h3
    rfl
  rw [e]
  exact this
theorem byAt_new (w : World) (xs : List UInt8) (mk : Nat × Nat) : ByAt (w.alloc (.cells (bV xs).toArray 5 mk)) (some ⟨w.heap.size, 0, none⟩) xs := fun _ => by
  refine ⟨w.heap.size, 0, rfl, by simp, fun i x hx => ?_⟩
  rw [cell_of_row _ w.heap.size (0 + i) (bV xs).toArray 5 mk (by show (w.heap.push _)[w.heap.size]? = _; exact Array.getElem?_push_size)]
  have := bV_get xs i
  rw [hx] at this
  simpa using this
theorem byAt_other (w : World) : ByAt (w.alloc (.cells #[.int .u8 111, .int .u8 116, .int .u8 104, .int .u8 101, .int .u8 114] 5 (5, 6))) (some ⟨w.heap.size, 0, none⟩) [111, 116, 104, 101, 114] := byAt_new w [111, 116, 104, 101, 114] (5, 6)
/-- The copy may be turned: the disk stays. -/
theorem Both.turn {w wx wy : World} {a m b gr gd gc : Nat} {v vc : Value} {d dc : Dk} {r : Rk} (h : Both w a b gr gd wx v d r) (hc : Copy m b gc wx vc dc) (ham : a ≤ m) (hgl : gr < a) (hgd : gd < a) (hw : w.heap.size ≤ a) (t : Turn wx wy gc (rowOf vc)) : Both w a b gr gd wy v d r := by
  have hl := hc.disk.low
  have hlt := hc.lt
  have hr : ∀ k, some k = rowOf vc → m ≤ k ∧ k < b := fun k e => ⟨(hc.disk.own.row e.symm).1, hc.row k e.symm⟩
  refine ⟨h.disk.turn t (by omega) (fun e => by have := hr _ e; omega) (fun k hk => ⟨by have := (h.row k hk).1; omega, fun e => by have := hr _ e; have := (h.row k hk).1; omega⟩), h.rel, ?_, ?_, h.row, Nat.le_trans h.size t.size⟩
  · exact (t.block gr (Array.getElem?_eq_some_iff.1 h.ref).1 (by omega) (fun e => by have := hr _ e; omega)).trans h.ref
  · exact h.below.trans (t.below (by omega) (fun k hk => by have := hr k hk.symm; omega) h.below.size)
/-- The copy behind an act of its own. -/
theorem Copy.moved {wx wy : World} {m b gc : Nat} {vc : Value} {dc dc' : Dk} (h : Copy m b gc wx vc dc) (hM : Moved wx m gc vc dc' wy) : ∃ vc', (rowOf vc' = rowOf vc ∨ ∀ k, rowOf vc' = some k → wx.heap.size ≤ k) ∧ DiskAt wy m gc vc' dc' ∧ Turn wx wy gc (rowOf vc) := hM
/-- Two acts of the copy, behind each other: the disk stays. -/
theorem After.copied {w wx wy : World} {a m b gr gd gc : Nat} {v vc : Value} {d dc d1 : Dk} {r : Rk} (h : Both w a b gr gd wx v d r) (hc : Copy m b gc wx vc dc) (ham : a ≤ m) (hgl : gr < a) (hgd : gd < a) (hw : w.heap.size ≤ a)
    (h1 : TurnTo wx m gc vc d1 (.returned (.tuple #[])) wy) : Both w a b gr gd wy v d r ∧ ∃ vc', Copy m b gc wy vc' d1 := by
  obtain ⟨-, vc', h2, h3, h4⟩ := h1
  refine ⟨h.turn hc ham hgl hgd hw (h4.more _), vc', h3, hc.lt, fun k hk => ?_⟩
  rcases h2 with h2 | h2
  · exact hc.row k (h2 ▸ hk)
  · rw [h2] at hk; cases hk
theorem Both.kept {w wx : World} {a b gr gd : Nat} {v : Value} {d : Dk} {r : Rk} (h : Both w a b gr gd wx v d r) (h0 : w.heap.size ≤ gr) (hne : gr ≠ gd) : Kept w gr wx gd :=
  ⟨v, d, r, ⟨h.disk, h.rel, h.ref, h.below, fun k hk => ⟨.inl (h.disk.own.row hk).2.1, (h.row k hk).2⟩, Nat.le_refl _⟩, h0, (Array.getElem?_eq_some_iff.1 h.ref).1, hne⟩
theorem Both.cloned {w wx wy : World} {a b gr gd g2 : Nat} {v v2 : Value} {d : Dk} {r : Rk} (h : Both w a b gr gd wx v d r) (h0 : w.heap.size ≤ gr) (hD : DiskAt wy wx.heap.size g2 v2 d) (hb : Below wx.heap.size wx wy) : Kept w gr wy g2 := by
  have hlt := (Array.getElem?_eq_some_iff.1 h.ref).1
  have hlow := hD.low
  have hs := h.below.size
  refine ⟨v2, d, r, ⟨⟨by omega, hD.obj, hD.own.low hs, hD.safe, hD.most, hD.left⟩, h.rel, (hb.block gr hlt).trans h.ref, h.below.trans (hb.mono hs), fun k hk => ⟨.inl (hD.own.row hk).2.1, by have := (hD.own.row hk).1; omega⟩, Nat.le_refl _⟩, h0, Nat.lt_of_lt_of_le hlt hb.size, by omega⟩

/-- The law's acts in memory. -/
structure ActAt (w : World) (b o : Nat) (k : Nat) (x : Int) (A : Option Addr) (m c : Nat) (xs : List UInt8) : Prop where
  kind : w.cell? ⟨b, o, none⟩ = some (.int .u8 (k : Int))
  num : w.cell? ⟨b, o + 1, none⟩ = some (.int .i64 x)
  bytes : w.cell? ⟨b, o + 2, none⟩ = some (.slice A m c)
  len : xs.length = m
  cap : m ≤ c
  at_ : ByAt w A xs
  klt : k < 256
  low : -9223372036854775808 ≤ x
  high : x ≤ 9223372036854775807
def ActsAt (w : World) (A : Option Addr) (n : Nat) : Prop := 0 < n → ∃ b off, A = some ⟨b, off, none⟩ ∧ b < w.heap.size ∧ ∀ i, i < n → ∃ k x A' m c xs, ActAt w b (off + i * 3) k x A' m c xs
theorem ActAt.below {w w' : World} {b o k : Nat} {x : Int} {A : Option Addr} {m c : Nat} {xs : List UInt8} (h : ActAt w b o k x A m c xs) (hlt : b < w.heap.size) (hb : Below w.heap.size w w') : ActAt w' b o k x A m c xs :=
  ⟨(hb.cell (p := ⟨b, _, none⟩) hlt).trans h.kind, (hb.cell (p := ⟨b, _, none⟩) hlt).trans h.num, (hb.cell (p := ⟨b, _, none⟩) hlt).trans h.bytes, h.len, h.cap, h.at_.below hb, h.klt, h.low, h.high⟩
end Go.Proofs.YtpeinngifknpkaaGreatDoor
