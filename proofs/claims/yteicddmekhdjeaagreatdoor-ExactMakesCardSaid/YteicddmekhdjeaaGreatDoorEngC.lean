/- The evaluator, part C of 4: it computes what the model's programs do at given arguments; its answers hold on every tape. -/
import Derived.Laws.BytesString
import Derived.Laws.BytesArg
import Derived.RangeFuncRecord
import Derived.WideKeyRuns
import Derived.Maps.RangeRun
import Derived.RangeFuncIn
import Derived.TacticsIn
import Derived.OrdersIn
import Derived.LoopNIn
import Derived.Scope
import Derived.Test.YteicddmekhdjeaaGreatDoorEngB
set_option linter.unusedSectionVars false
/- Reading memory, making blocks. -/
namespace Go.Proofs.YteicddmekhdjeaaGreatDoor.Eng
variable [Syms]
open Go.RowKit (Below)

section
variable {P : Program} {σ : Names} {ro : Lo} {N nx : Nat} {h : Heap} {w : World}

theorem choose_list {σ : Names} : ∀ (l : List V) (Q : Nat → Value → Prop), (∀ k v, l[k]? = some v → ∃ x, Q k x ∧ v.rel σ x) → ∃ xs, relL σ l xs ∧ ∀ k x, xs[k]? = some x → Q k x
  | [], _, _ => ⟨[], relL_nil, fun k x hx => by simp at hx⟩
  | v :: vs, Q, hq => by
    obtain ⟨x, hx, hr⟩ := hq 0 v (by simp)
    obtain ⟨xs, hxs, hall⟩ := choose_list vs (fun k => Q (k + 1)) (fun k u hu => hq (k + 1) u (by simpa using hu))
    refine ⟨x :: xs, relL_cons hr hxs, fun k y hy => ?_⟩
    cases k with
    | zero => simp at hy; subst hy; exact hx
    | succ k => exact hall k y (by simpa using hy)

theorem loads_run (a : Addr) (w : World) : ∀ (xs : List Value) (i : Nat) (acc : Array Value), (∀ k x, xs[k]? = some x → w.cell? (a.add (i + k)) = some x) →
    (loadCellsFrom a i xs.length acc).run P w = .ok (acc ++ xs.toArray) w
  | [], i, acc, _ => by simp [loadCellsFrom]
  | x :: xs, i, acc, hx => by
    have h0 : w.cell? (a.add i) = some x := by simpa using hx 0 x (by simp)
    simp only [List.length_cons, loadCellsFrom, Sem.run_bind, run_load, h0, Result.andThen_ok]
    rw [loads_run a w xs (i + 1) (acc.push x) (fun k y hy => by
      have := hx (k + 1) y (by simpa using hy)
      rw [show i + 1 + k = i + (k + 1) by omega]; exact this)]
    simp

/-- n cells from off on of a named block. -/
theorem HRel.loads (H : HRel σ ro N h nx w) {i off n : Nat} {blk : T V} {b : BI} {l : List V} (hi : h.get i = some blk) (hb : σ i = some b) (hl : T.gets blk n off = some l) :
    ∃ xs : List Value, xs.length = n ∧ relL σ l xs ∧ (loadCells ⟨b.block, b.base + off, none⟩ n).run P w = .ok xs.toArray w ∧ ∀ k x, xs[k]? = some x → w.cell? ⟨b.block, b.base + off + k, none⟩ = some x := by
  obtain ⟨hlen, hget⟩ := T.gets_some blk n off l hl
  obtain ⟨xs, hr, hq⟩ := choose_list (σ := σ) l (fun k x => w.cell? ⟨b.block, b.base + (off + k), none⟩ = some x) (fun k v hk => by
    have hk' : k < n := by
      have := (List.getElem?_eq_some_iff.1 hk).1; omega
    exact H.cell i blk b hi hb (off + k) v (by rw [hget k hk', hk]))
  have hxl : xs.length = n := by rw [hr.length, hlen]
  refine ⟨xs, hxl, hr, ?_, fun k x hx => by have := hq k x hx; rw [Nat.add_assoc]; exact this⟩
  unfold loadCells
  have := loads_run (P := P) ⟨b.block, b.base + off, none⟩ w xs 0 #[] (fun k x hx => by
    rw [addr_add, Nat.zero_add, Nat.add_assoc]; exact hq k x hx)
  rw [hxl] at this
  rw [this]; simp

theorem load_run {t : TypeId} (H : HRel σ ro N h nx w) {x : V} {X : Value} (hx : x.rel σ X) {u : V} (hv : loadV h (szOf P t) x = some u) : ∃ Y, (Instr.loadAt t X).run P w = .ok Y w ∧ u.rel σ Y := by
  obtain ⟨i, off, rfl, h2⟩ := onPtr_some hv
  obtain ⟨blk, hi, h3⟩ := O_some' h2
  simp only [V.rel] at hx
  obtain ⟨b, hb, rfl⟩ := hx
  cases hs : szOf P t with
  | agg n =>
    obtain ⟨e1, e2⟩ := szOf_agg hs
    rw [hs] at h3
    have h3 : T.getsK blk n off (fun l => some (V.agg l)) none = some u := h3
    rw [T.getsK_eq] at h3
    cases hl : T.gets blk n off with
    | none => rw [hl] at h3; cases h3
    | some l =>
      rw [hl] at h3
      obtain rfl := Option.some.inj h3
      obtain ⟨xs, -, hr, hrun, -⟩ := H.loads (P := P) hi hb hl
      refine ⟨.agg xs.toArray, by simp [Instr.loadAt, Instr.sureAddr, loadVar, isAgg_run e1, sizeOf_run e2, hrun], ?_⟩
      simp only [V.rel]
      exact ⟨_, rfl, by simpa using hr⟩
  | one =>
    have e1 := szOf_one hs
    rw [hs] at h3
    have h3 : blk.get off = some u := h3
    obtain ⟨y, hy, hr⟩ := H.cell i blk b hi hb off u h3
    exact ⟨y, by simp [Instr.loadAt, Instr.sureAddr, loadVar, isAgg_run e1, hy], hr⟩
  | bad => rw [hs] at h3; cases h3

theorem bytesK_some : ∀ {l : List V} {c : List UInt8 → Option V} {u : V}, bytesK l c none = some u → ∃ ns : List Nat, l = ns.map (fun (n : Nat) => V.int .u8 (n : Int)) ∧ c (ns.map UInt8.ofNat) = some u
  | [], c, u, h => ⟨[], rfl, h⟩
  | v :: vs, c, u, h => by
    simp only [bytesK] at h
    obtain ⟨b, hb, h2⟩ := O_some' h
    obtain ⟨ns, h3, h4⟩ := bytesK_some (c := fun l => c (b :: l)) h2
    unfold byteOfV at hb
    obtain ⟨kd, n, rfl, h6⟩ := onInt_some hb
    obtain ⟨hk, h7⟩ := B_some h6
    obtain ⟨m, rfl, h8⟩ := Z_some h7
    obtain rfl := Option.some.inj h8
    obtain rfl := kindEq_true hk
    exact ⟨m :: ns, by simp [h3], by simpa using h4⟩

theorem ints_rel {σ : Names} {k : IntKind} : ∀ {ns : List Nat} {xs : List Value}, relL σ (ns.map fun (n : Nat) => V.int k (n : Int)) xs → xs = (ns.map fun (n : Nat) => (n : Int)).map (Value.int k)
  | [], xs, h => by simpa only [List.map_nil, relL] using h
  | n :: ns, xs, h => by
    simp only [List.map_cons, relL] at h
    obtain ⟨y, ys, rfl, hy, hs⟩ := h
    simp only [V.rel] at hy
    rw [hy, ints_rel hs]; rfl

theorem bytes_run {t d : TypeId} {e : TypeId} (hu : P.underlying t = some (.slice e)) (hd : P.underlying d = some .string) (he : P.underlying e = some (.int .u8)) (H : HRel σ ro N h nx w) {x : V} {X : Value} (hx : x.rel σ X) {u : V}
    (hv : bytesV h x = some u) : ∃ Y, (convert t d X).run P w = .ok Y w ∧ u.rel σ Y := by
  have e0 : ∀ a n c, (convert t d (.slice a n c)).run P w = (Conv.bytesToString (.slice a n c)).run P w := by
    intro a n c
    cases a <;> simp [convert, under_run hu, under_run hd, under_run he]
  rcases onSlice_some hv with ⟨rfl, h2⟩ | ⟨i, off, len, cap, es, rfl, h2⟩
  · obtain rfl := Option.some.inj h2
    simp only [V.rel] at hx; subst hx
    exact ⟨.string .empty, by rw [e0]; rfl, by simp only [V.rel]; exact ⟨_, rfl, rfl⟩⟩
  · obtain ⟨blk, hi, h3⟩ := O_some' h2
    rw [T.getsK_eq] at h3
    cases hl : T.gets blk len off with
    | none => rw [hl] at h3; cases h3
    | some l =>
      rw [hl] at h3
      obtain ⟨ns, rfl, h4⟩ := bytesK_some h3
      obtain rfl := Option.some.inj h4
      simp only [V.rel] at hx
      obtain ⟨b, hb, hx⟩ := hx
      have key : ∀ o c, (0 < len → o = b.base + off) → ∃ Y, (Conv.bytesToString (.slice (some ⟨b.block, o, none⟩) len c)).run P w = .ok Y w ∧ (V.str (ns.map UInt8.ofNat)).rel σ Y := by
        intro o c ho
        obtain ⟨xs, hxl, hr, hrun, -⟩ := H.loads (P := P) hi hb hl
        have hrun' : (loadCells ⟨b.block, o, none⟩ len).run P w = .ok xs.toArray w := by
          by_cases hz : len = 0
          · subst hz
            have : xs = [] := List.eq_nil_of_length_eq_zero hxl
            subst this; rfl
          · rw [ho (by omega)]; exact hrun
        rw [ints_rel hr] at hrun'
        refine ⟨_, run_bytesToString w _ _ c _ hrun', ?_⟩
        simp only [V.rel]
        refine ⟨_, rfl, ?_⟩
        rw [foldl_push_bytes]
        simp [Function.comp_def]
      rcases hx with ⟨-, -, rfl⟩ | ⟨-, o, c, hlc, ho, -, rfl⟩
      · rw [e0]; exact key _ _ (fun _ => rfl)
      · rw [e0]; exact key _ _ (fun hp => ho (by omega))

end
end Go.Proofs.YteicddmekhdjeaaGreatDoor.Eng

/- Making blocks. -/
namespace Go.Proofs.YteicddmekhdjeaaGreatDoor.Eng
variable [Syms]
open Go.RowKit (Below)

/-- w' is w with one block more, of the cells C, which may be written. -/
structure Made (w w' : World) (C : Array Value) : Prop where
  size : w'.heap.size = w.heap.size + 1
  old : ∀ k, k < w.heap.size → w'.heap[k]? = w.heap[k]?
  cell : ∀ o, w'.cell? ⟨w.heap.size, o, none⟩ = C[o]?
  free : ∀ o, o < C.size → w'.frozen? ⟨w.heap.size, o, none⟩ = false
  plain : (∃ (o : Nat) (x : Value), C[o]? = some x ∧ ∀ n, x ≠ Value.int .u8 n) → ∀ p, w'.frozen? ⟨w.heap.size, p, none⟩ = false
  whole : ∀ (c : Array Value) (e : TypeId) (lo hi : Nat), w'.heap[w.heap.size]? = some (Obj.cells c e (lo, hi)) → lo = hi ∨ c.size ≤ lo
  os : w'.os = w.os
  tape : w'.tape = w.tape
  output : w'.output = w.output

theorem made_push (w : World) (C : Array Value) (e : TypeId) : Made w { w with heap := w.heap.push (.cells C e) } C where
  size := by simp
  old := fun k hk => by simp [Array.getElem?_push, Nat.ne_of_lt hk]
  cell := fun o => by simp [World.cell?]
  free := fun o ho => by simp [World.frozen?]
  plain := fun _ p => by simp [World.frozen?]
  whole := fun c e' lo hi hc => by
    simp only [Array.getElem?_push_size, Option.some.injEq, Obj.cells.injEq, Prod.mk.injEq] at hc
    exact .inl (by rw [← hc.2.2.1, ← hc.2.2.2])
  os := rfl
  tape := rfl
  output := rfl

theorem rel_notByte {σ : Names} {v : V} {x : Value} (h : v.rel σ x) (hv : isByte v = false) : ∀ n, x ≠ Value.int .u8 n := by
  rintro n rfl
  cases v with
  | int k m =>
    simp only [V.rel, Value.int.injEq] at h
    obtain ⟨rfl, -⟩ := h
    cases hv
  | sym i => cases hv
  | any => cases hv
  | slice i off len cap es =>
    simp only [V.rel] at h
    obtain ⟨b, _, h⟩ := h
    rcases h with ⟨_, _, h⟩ | ⟨_, o, c, _, _, _, h⟩ <;> cases h
  | _ =>
    simp only [V.rel] at h
    first
      | (cases h; done)
      | (obtain ⟨_, h, _⟩ := h; cases h; done)
      | (obtain ⟨_, _, h⟩ := h; cases h; done)
      | (obtain ⟨_, _, h, _⟩ := h; cases h; done)

/-- What a made block is good for. -/
structure MadeOk (σ : Names) (i : Nat) (v : V) (l : List V) (Y : Value) (w w' : World) : Prop where
  out : ∃ C, Made w w' C ∧ (∀ τ : Names, More σ τ → τ i = some ⟨w.heap.size, 0, C.size, .no⟩ → v.rel τ Y) ∧ ∀ (k : Nat) (u : V), l[k]? = some u → ∃ x, C[k]? = some x ∧ u.rel σ x

section
variable {P : Program} {σ : Names} {ro : Lo}

theorem repl_length (z : List V) : ∀ n, (repl z n).length = n * z.length
  | 0 => by simp [repl]
  | n + 1 => by simp only [repl, List.length_append, repl_length z n]; rw [Nat.add_mul]; omega
theorem repl_get (z : List V) : ∀ n k, k < n * z.length → (repl z n)[k]? = z[k % z.length]?
  | 0, k, h => by simp at h
  | n + 1, k, h => by
    simp only [repl]
    by_cases hk : k < z.length
    · rw [List.getElem?_append_left hk, Nat.mod_eq_of_lt hk]
    · rw [List.getElem?_append_right (by omega), repl_get z n (k - z.length) (by rw [Nat.add_mul] at h; omega), Nat.mod_eq_sub_mod (by omega : z.length ≤ k)]

theorem repl_rel {z : List V} {zx : Array Value} (h : relL σ z zx.toList) (hs : 0 < z.length) (n : Nat) : relL σ (repl z n) ((Array.range (n * z.length)).map (zx[· % zx.size]!)).toList := by
  have hz : zx.size = z.length := by rw [← Array.length_toList, h.length]
  refine relL.of_get (by simp [repl_length]) fun k v hk => ?_
  have hlt : k < n * z.length := by
    have := (List.getElem?_eq_some_iff.1 hk).1
    rw [repl_length] at this; exact this
  rw [repl_get z n k hlt] at hk
  obtain ⟨x, hx, hr⟩ := h.get hk
  refine ⟨x, ?_, hr⟩
  rw [hz]
  have hm : k % z.length < zx.size := by rw [hz]; exact Nat.mod_lt _ hs
  have hx' : zx[k % z.length]? = some x := by simpa using hx
  simp [hlt]
  rw [getElem!_pos zx (k % z.length) hm]
  have := Array.getElem?_eq_getElem hm
  rw [this] at hx'
  exact Option.some.inj hx'

theorem get_of_relL {l : List V} {C : Array Value} (h : relL σ l C.toList) : ∀ (k : Nat) (u : V), l[k]? = some u → ∃ x, C[k]? = some x ∧ u.rel σ x := fun k u hk => by
  obtain ⟨x, hx, hr⟩ := h.get hk
  exact ⟨x, by simpa using hx, hr⟩

theorem new_run (w : World) (C : Array Value) (e : TypeId) : (newRow e C).run P w = .ok ⟨w.heap.size, 0, none⟩ { w with heap := w.heap.push (.cells C e) } := by
  simp [newRow]

theorem ptr_ok {i : Nat} {w : World} (n : Nat) : ∀ τ : Names, More σ τ → τ i = some ⟨w.heap.size, 0, n, .no⟩ → (V.ptr i 0).rel τ (.pointer (some ⟨w.heap.size, 0, none⟩)) := fun τ _ ht => by
  simp only [V.rel]; exact ⟨_, ht, rfl⟩
theorem slice_ok {i l c : Nat} {w : World} (n : Nat) (h : l ≤ c) : ∀ τ : Names, More σ τ → τ i = some ⟨w.heap.size, 0, n, .no⟩ → (V.slice i 0 l c 0).rel τ (.slice (some ⟨w.heap.size, 0, none⟩) l c) := fun τ _ ht => by
  simp only [V.rel]; exact ⟨_, ht, .inl ⟨by trivial, h, rfl⟩⟩

theorem info_run {t : TypeId} {i : TypeInfo} (h : P.info? t = some i) (w : World) : (typeInfo t).run P w = .ok i w := by simp [typeInfo, h]

theorem stringBytes_run {s d e : TypeId} (hs : P.underlying s = some .string) (hd : P.underlying d = some (.slice e)) (he : P.underlying e = some (.int .u8)) (b : ByteArray) (w : World) :
    ∃ (cap : Nat) (w3 : World) (C : Array Value), b.size ≤ cap ∧ C.size = cap ∧ (convert s d (.string b)).run P w = .ok (.slice (some ⟨w.heap.size, 0, none⟩) b.size cap) w3 ∧ Made w w3 C ∧ ∀ (k : Nat) (c : UInt8), b.data[k]? = some c → C[k]? = some (Value.int .u8 c.toNat) := by
  have hconv : (convert s d (.string b)).run P w = (Conv.stringToBytes e b).run P w := by simp [convert, under_run hs, under_run hd, under_run he]
  have hds : b.data.size = b.size := rfl
  let cap := (Question.appendCap b.size 0 e).cut (w.tape w.drawn (.appendCap b.size 0 e))
  have hcap : b.size ≤ cap := by simp only [cap, Question.cut]; omega
  let C : Array Value := (b.data.map fun c => Value.int .u8 c.toNat) ++ Array.replicate (cap - b.size) (.int .u8 0)
  have hC : C.size = cap := by simp only [C, Array.size_append, Array.size_map, Array.size_replicate, hds]; omega
  let w1 : World := { w with drawn := w.drawn + 1 }
  let w2 : World := { w1 with heap := w1.heap.push (.cells C e) }
  let w3 : World := w2.freeze ⟨w.heap.size, C.size, none⟩ 1
  refine ⟨cap, w3, C, hcap, hC, ?_, ?_, ?_⟩
  · rw [hconv]
    unfold Conv.stringToBytes
    have hch : (choose (.appendCap b.size 0 e)).run P w = .ok cap w1 := by simp [run_choose, Question.forced, cap, w1]
    simp only [Sem.run_bind, hch, Result.andThen_ok]
    have hnew : (newRow e ((b.data.map fun c => Value.int .u8 c.toNat) ++ Array.replicate (cap - b.size) (.int .u8 0))).run P w1 = .ok ⟨w.heap.size, 0, none⟩ w2 := new_run w1 _ e
    simp only [hnew, Result.andThen_ok]
    have hm : (markStringish ⟨w.heap.size, 0, none⟩).run P w2 = .ok () w3 := by
      have : w2.shape? w.heap.size = some (e, C.size) := by simp [World.shape?, w2, w1]
      simp [markStringish, this, w3]
    simp only [hm, Result.andThen_ok, Sem.run_pure]
  · have hheap : w3.heap = w.heap.push (.cells C e (C.size, C.size + 1)) := by
      simp only [w3, World.freeze, w2, w1]
      rw [if_neg (by decide)]
      apply Array.ext_getElem?
      intro k
      simp only [Array.getElem?_modify, Array.getElem?_push]
      by_cases hk : k = w.heap.size
      · subst hk; simp
      · by_cases hk2 : w.heap.size = k
        · exact absurd hk2.symm hk
        · simp [hk, hk2]
    exact
      { size := by rw [hheap]; simp
        old := fun k hk => by rw [hheap]; simp [Array.getElem?_push, Nat.ne_of_lt hk]
        cell := fun o => by simp [World.cell?, hheap]
        free := fun o ho => by simp [World.frozen?, hheap]; omega
        plain := fun ⟨o, x, hx, hn⟩ => by
          exfalso
          have hm := Array.mem_of_getElem? hx
          simp only [C, Array.mem_append, Array.mem_map, Array.mem_replicate] at hm
          rcases hm with ⟨c, -, rfl⟩ | ⟨-, rfl⟩
          · exact hn _ rfl
          · exact hn _ rfl
        whole := fun c e' lo hi hc => by
          rw [hheap] at hc
          simp only [Array.getElem?_push_size, Option.some.injEq, Obj.cells.injEq, Prod.mk.injEq] at hc
          exact .inr (by rw [← hc.1, ← hc.2.2.1]; exact Nat.le_refl _)
        os := by simp only [w3, World.freeze]; rw [if_neg (by decide)]
        tape := by simp only [w3, World.freeze]; rw [if_neg (by decide)]
        output := by simp only [w3, World.freeze]; rw [if_neg (by decide)] }
  · intro k c hc
    have hlt := (Array.getElem?_eq_some_iff.1 hc).1
    simp only [C]
    rw [Array.getElem?_append_left (by simp; exact hlt)]
    simp [hc]

theorem bytesMake_run {s d e : TypeId} (hs : P.underlying s = some .string) (hd : P.underlying d = some (.slice e)) (he : P.underlying e = some (.int .u8)) {tm : T V} {x : E} {i : Nat} {v : V} {l : List V}
    (h : bytesMake tm x i = some (v, l)) {X : Value} (hx : ∀ u, x.run tm = some u → u.rel σ X) (w : World) : ∃ Y w', (convert s d X).run P w = .ok Y w' ∧ MadeOk σ i v l Y w w' := by
  obtain ⟨u, hu, h2⟩ := O_some' h
  have hX := hx _ hu
  cases u with
  | str bs =>
    have h2 : O (mkSlice i 0 bs.length 0 1) none (fun v => forceL (bs.map fun b => V.int .u8 (Int.ofNat b.toNat)) fun cs => some (v, cs)) = some (v, l) := h2
    rw [mkSlice_eq, O_some, forceL_eq] at h2
    simp only [Option.some.injEq, Prod.mk.injEq] at h2
    obtain ⟨rfl, rfl⟩ := h2
    simp only [V.rel] at hX
    obtain ⟨b, rfl, hb⟩ := hX
    have hsz : b.size = bs.length := by rw [Lib.size_eq, hb]
    obtain ⟨cap, w3, C, h4, h5, h6, M, h7⟩ := stringBytes_run (P := P) hs hd he b w
    refine ⟨_, w3, h6, ⟨C, M, fun τ _ ht => ?_, fun k u hk => ?_⟩⟩
    · simp only [V.rel]
      refine ⟨_, ht, .inr ⟨by simp, 0, cap, by omega, fun _ => rfl, by show 0 + cap * 1 ≤ C.size; omega, by rw [hsz]⟩⟩
    · simp only [List.getElem?_map, Option.map_eq_some_iff] at hk
      obtain ⟨c, hc, rfl⟩ := hk
      exact ⟨.int .u8 c.toNat, h7 k c (by rw [← Array.getElem?_toList, hb, hc]), by simp only [V.rel]; rfl⟩
  | sym j =>
    have h2 : B (Nat.ble strSyms j) (some (V.any, [])) none = some (v, l) := h2
    obtain ⟨hj, h3⟩ := B_some h2
    obtain ⟨rfl, rfl⟩ := Prod.mk.inj (Option.some.inj h3)
    obtain ⟨b, hb⟩ := Syms.strs j (Nat.le_of_ble_eq_true hj)
    simp only [V.rel] at hX
    subst hX
    rw [hb]
    obtain ⟨cap, w3, C, h4, h5, h6, M, h7⟩ := stringBytes_run (P := P) hs hd he b w
    exact ⟨_, w3, h6, ⟨C, M, fun τ _ ht => by simp only [V.rel]; exact ⟨fun _ => by simp, fun _ => by simp⟩, fun k u hk => by cases hk⟩⟩
  | _ => cases h2

theorem make_sound {op : Op} {f : T V → Nat → Option (V × List V)} (hk : kind P ro op = .make f) {tm : T V} {i : Nat} {v : V} {l : List V} (hf : f tm i = some (v, l)) {ρ : Operand → Value}
    (hr : ∀ x ∈ op.operands.toList, ORel σ ro tm ρ x) (o : Oper) (ho : o.op = op) (w : World) : ∃ Y w', (execOp ρ o).run P w = .ok (.value Y) w' ∧ MadeOk σ i v l Y w w' := by
  have lift : ∀ {s : Sem Value}, (∃ Y w', s.run P w = .ok Y w' ∧ MadeOk σ i v l Y w w') → ∃ Y w', (do pure (.value (← s)) : Sem Next).run P w = .ok (.value Y) w' ∧ MadeOk σ i v l Y w w' := by
    rintro s ⟨Y, w', hY, hu⟩
    exact ⟨Y, w', by simp [hY], hu⟩
  unfold execOp
  rw [ho]
  cases op with
  | alloc t =>
    simp only [kind] at hk
    split at hk
    · rename_i z hz
      simp only [forceL_eq, Kind.make.injEq] at hk
      subst hk
      simp only [Option.some.injEq, Prod.mk.injEq] at hf
      obtain ⟨rfl, rfl⟩ := hf
      obtain ⟨zx, hzx, hzr⟩ := zero_cells (P := P) (σ := σ) hz w
      exact lift ⟨.pointer (some ⟨w.heap.size, 0, none⟩), _, by simp [Instr.alloc, hzx, newVar, new_run], ⟨zx.cells, made_push w _ t, ptr_ok _, get_of_relL hzr⟩⟩
    · cases hk
  | box t x =>
    simp only [kind, forceE_eq, Kind.make.injEq] at hk
    subst hk
    obtain ⟨u, hu, h2⟩ := O_some' hf
    simp only [Option.some.injEq, Prod.mk.injEq] at h2
    obtain ⟨rfl, rfl⟩ := h2
    have hx := hr x (by simp [Op.operands]) u hu
    exact lift ⟨.pointer (some ⟨w.heap.size, 0, none⟩), _, by simp [Instr.box, newVar, new_run], ⟨(ρ x).cells, made_push w _ t, ptr_ok _, get_of_relL (rel_cells hx)⟩⟩
  | buildSlice t len parts =>
    simp only [kind, kBuildSlice] at hk
    split at hk
    · rename_i e hu
      split at hk
      · rename_i z s hz hs
        split at hk
        · rename_i h1 h2 h3
          rw [forceL_eq] at hk
          rcases partsC_spec (ro := ro) (place := fun i => some (i * s, s)) (bad := Kind.bad) parts.toList (fun l => .make fun tm i => O (fillV tm (repl z.cells len) l) none fun l => some (.slice i 0 len len 0, l)) with hb | ⟨es, h4, h5, h6⟩
          · rw [hb] at hk; cases hk
          · rw [h4] at hk
            simp only [Kind.make.injEq] at hk
            subst hk
            obtain ⟨l', hl', h7⟩ := O_some' hf
            simp only [Option.some.injEq, Prod.mk.injEq] at h7
            obtain ⟨rfl, rfl⟩ := h7
            obtain ⟨zx, hzx, hzr⟩ := zero_cells (P := P) (σ := σ) hz w
            rw [beq_iff] at h1
            rw [blt_iff] at h2
            rw [ble_iff] at h3
            have h1 : z.cells.length = s := by simpa using h1
            have h2 : 0 < s := by simpa using h2
            have h3 : len * s ≤ 10000 := by simpa using h3
            subst h1
            have hrep := repl_rel hzr h2 len
            obtain ⟨D, hD, hrel⟩ := fill_run (σ := σ) (ro := ro) (place := fun i => some (i * z.cells.length, z.cells.length)) (ρ := ρ)
              (fun p hp => hr p.2 (by simp only [Op.operands]; exact List.mem_map.2 ⟨p, hp, rfl⟩)) (fun _ _ => trivial) h5 h6 hrep hl'
            have hD' : Instr.fill (fun i => some (i * z.cells.length, z.cells.length)) ((Array.range (len * z.cells.length)).map (zx.cells[· % zx.cells.size]!)) (parts.map fun x => (x.1, ρ x.2)).toList = some D := by
              rw [← hD]; simp
            refine lift ⟨.slice (some ⟨w.heap.size, 0, none⟩) len len, _, ?_, ⟨D, made_push w D e, slice_ok _ (Nat.le_refl _), get_of_relL hrel⟩⟩
            unfold Instr.buildSlice
            simp only [Sem.run_bind, under_run hu, Result.andThen_ok, sizeOf_run hs]
            rw [if_neg (by omega)]
            by_cases hz0 : len * z.cells.length = 0
            · have hl0 : len = 0 := by rcases Nat.mul_eq_zero.1 hz0 with h | h <;> omega
              rw [if_pos hz0]
              have e1 : (Array.range (len * z.cells.length)).map ((#[] : Array Value)[· % (#[] : Array Value).size]!) = (Array.range (len * z.cells.length)).map (zx.cells[· % zx.cells.size]!) := by rw [hz0]; simp
              simp only [Sem.run_bind, Sem.run_pure, Result.andThen_ok]
              rw [e1]
              simp only [hD', Sem.run_bind, new_run, Result.andThen_ok, Sem.run_pure]
            · rw [if_neg hz0]
              simp only [Sem.run_bind, hzx, Sem.run_pure, Result.andThen_ok]
              simp only [hD', Sem.run_bind, new_run, Result.andThen_ok, Sem.run_pure]
        · cases hk
      · cases hk
    · cases hk
  | makeSlice t a c =>
    simp only [kind, kMakeSlice] at hk
    split at hk
    · rename_i e hu
      split at hk
      · rename_i info z hi hz
        split at hk
        · rename_i h1 h2 h3
          simp only [forceE_eq, forceL_eq, Kind.make.injEq] at hk
          subst hk
          obtain ⟨va, hva, h4⟩ := O_some' hf
          obtain ⟨vc, hvc, h5⟩ := O_some' h4
          unfold makeSliceV at h5
          obtain ⟨ka, na, rfl, h6⟩ := onInt_some h5
          obtain ⟨kc, nc, rfl, h7⟩ := onInt_some h6
          obtain ⟨ma, rfl, h8⟩ := Z_some h7
          obtain ⟨mc, rfl, h9⟩ := Z_some h8
          obtain ⟨h10, h11⟩ := B_some h9
          obtain ⟨h12, h13⟩ := B_some h11
          rw [mkSlice_eq] at h13
          simp only [O_some, Option.some.injEq, Prod.mk.injEq] at h13
          obtain ⟨rfl, rfl⟩ := h13
          have ha := hr a (by simp [Op.operands]) _ hva
          have hc := hr c (by simp [Op.operands]) _ hvc
          simp only [V.rel] at ha hc
          obtain ⟨zx, hzx, hzr⟩ := zero_cells (P := P) (σ := σ) hz w
          rw [beq_iff] at h1
          rw [blt_iff] at h2
          rw [ble_iff] at h3 h10 h12
          have h1 : z.cells.length = info.size := by simpa using h1
          have h2 : 0 < info.size := by simpa using h2
          have h3 : info.bytes ≤ 100000 := by simpa using h3
          have h10 : ma ≤ mc := by simpa using h10
          have h12 : mc ≤ 100000 := by simpa using h12
          have hrep := repl_rel hzr (by omega) mc
          rw [h1] at hrep
          refine lift ⟨.slice (some ⟨w.heap.size, 0, none⟩) ma mc, _, ?_, ⟨_, made_push w _ e, slice_ok _ h10, get_of_relL hrep⟩⟩
          have hs : sizeOf? P e = some info.size := by simp [sizeOf?, hi]
          have w1 : IntKind.i64.wrap (ma : Int) = ma := wrap_small .i64 ma (by rw [lim_i64]; omega)
          have w2 : IntKind.i64.wrap (mc : Int) = mc := wrap_small .i64 mc (by rw [lim_i64]; omega)
          have hbig : ¬ ((mc : Int) < 0 ∨ (info.bytes : Int) * mc > 2 ^ 48) := by
            have : info.bytes * mc ≤ 100000 * 100000 := Nat.mul_le_mul h3 h12
            have h' : ((info.bytes * mc : Nat) : Int) ≤ 10000000000 := by omega
            rw [Int.natCast_mul] at h'
            omega
          unfold Instr.makeSlice
          rw [ha, hc]
          simp only [Sem.run_bind, under_run hu, Result.andThen_ok, asInt, asIntOf, Sem.run_pure, info_run hi, w1, w2]
          rw [if_neg (by simp only [Bool.or_eq_true, decide_eq_true_eq]; omega)]
          simp only [Sem.run_bind, run_askRoom, Result.andThen_ok, sizeOf_run hs, Int.toNat_natCast]
          by_cases hn : mc * info.size = 0
          · have hm0 : mc = 0 := by rcases Nat.mul_eq_zero.1 hn with h | h <;> omega
            rw [if_pos hn]
            have e1 : (Array.range (mc * info.size)).map ((#[] : Array Value)[· % (#[] : Array Value).size]!) = (Array.range (mc * info.size)).map (zx.cells[· % zx.cells.size]!) := by rw [hn]; simp
            simp only [Sem.run_bind, Sem.run_pure, Result.andThen_ok]
            rw [e1]
            simp only [new_run, Result.andThen_ok]
          · rw [if_neg hn]
            simp only [Sem.run_bind, hzx, Result.andThen_ok, Sem.run_pure, new_run]
        · cases hk
      · cases hk
    · cases hk
  | convert s d x =>
    simp only [kind, kConvert] at hk
    split at hk
    · simp at hk
    · simp at hk
    · rename_i e hs hd
      split at hk
      · rename_i he
        simp only [forceE_eq, Kind.make.injEq] at hk
        subst hk
        exact lift (bytesMake_run hs hd he hf (fun u hu => hr x (by simp [Op.operands]) u hu) w)
      · cases hk
    · split at hk <;> simp at hk
    · split at hk <;> simp at hk
    · cases hk
  | load t x => simp [kind] at hk
  | move x => simp [kind] at hk
  | assign x => simp [kind] at hk
  | pick a b c => simp [kind] at hk
  | build t parts =>
    simp only [kind, kBuild] at hk
    split at hk
    · cases hk
    · split at hk
      · split at hk
        · rcases partsC_spec (ro := ro) (place := _) (bad := Kind.bad) parts.toList _ with hb | ⟨es, h1, -, -⟩
          · rw [hb] at hk; cases hk
          · rw [h1, forceL_eq] at hk; cases hk
        · cases hk
      · split at hk
        · rcases partsC_spec (ro := ro) (place := _) (bad := Kind.bad) parts.toList _ with hb | ⟨es, h1, -, -⟩
          · rw [hb] at hk; cases hk
          · rw [h1, forceL_eq] at hk; cases hk
        · cases hk
      · cases hk
  | nilCheck x => simp [kind] at hk
  | binOp bop t x y yt =>
    simp only [kind, kBinOp, forceE_eq] at hk
    split at hk
    · cases hk
    · split at hk
      · cases hk
      · cases hb : binC bop <;> rw [hb] at hk <;> cases hk
  | unOp a b c => simp [kind] at hk
  | makeInterface t x => simp only [kind] at hk; split at hk <;> simp at hk
  | makeFunc a b c => simp [kind] at hk
  | slice t x lo hi mx =>
    simp only [kind, kSlice] at hk
    split at hk
    · unfold kSlice3 at hk
      split at hk
      · split at hk <;> simp at hk
      · cases hk
    · simp only [forceE_eq, optE_eq] at hk
      split at hk
      · cases hk
      · split at hk <;> simp at hk
      · split at hk <;> simp at hk
      · cases hk
  | fieldAddr t x f' =>
    simp only [kind, kFieldAddr] at hk
    split at hk
    · split at hk
      · split at hk <;> simp at hk
      · cases hk
    · cases hk
  | field t x f' =>
    simp only [kind, kField] at hk
    split at hk
    · split at hk <;> simp at hk
    · cases hk
  | indexAddr t x ix =>
    simp only [kind, kIndexAddr] at hk
    split at hk
    · split at hk <;> simp at hk
    · split at hk <;> simp at hk
    · cases hk
  | index t x ix =>
    simp only [kind, kIndex] at hk
    split at hk
    · split at hk <;> simp at hk
    · simp at hk
    · cases hk
  | extract x ix => simp [kind] at hk
  | typeAssert x xt a ok => simp only [kind] at hk; split at hk <;> simp at hk
  | store t a x => simp only [kind] at hk; split at hk <;> simp at hk
  | call c =>
    obtain ⟨callee, args, argTypes⟩ := c
    simp only [kind, kCall] at hk
    split at hk
    · unfold kBuiltin at hk
      split at hk
      · unfold kLen at hk
        split at hk
        · simp at hk
        · simp at hk
        · simp at hk
        · split at hk <;> simp at hk
        · simp at hk
        · cases hk
      · unfold kAppend at hk
        split at hk
        · split at hk
          · split at hk <;> simp at hk
          · cases hk
        · cases hk
      · unfold kCopy at hk
        split at hk
        · split at hk <;> simp at hk
        · cases hk
      · unfold kClear at hk
        split at hk
        · split at hk <;> simp at hk
        · cases hk
      · unfold kDelete at hk
        split at hk <;> simp at hk
      · simp at hk
      · simp at hk
      · cases hk
    · simp at hk
    · simp at hk
  | makeMap t r => cases r <;> cases hk
  | lookup t x k ok => simp only [kind, forceE_eq] at hk; split at hk <;> simp at hk
  | range t x => simp only [kind, kRange, forceE_eq] at hk; split at hk <;> simp at hk
  | mapUpdate t m k x => simp only [kind, forceE_eq] at hk; split at hk <;> simp at hk
  | sliceToArrayPointer t x => simp only [kind] at hk; split at hk <;> simp at hk
  | _ => simp [kind] at hk

end
end Go.Proofs.YteicddmekhdjeaaGreatDoor.Eng

/- Readings; what a named memory keeps. -/
namespace Go.Proofs.YteicddmekhdjeaaGreatDoor.Eng
variable [Syms]
open Go.RowKit (Below)

section
variable {P : Program} {σ : Names} {ro : Lo} {N nx : Nat} {h : Heap} {w : World}

theorem cellAt_ok {h : Heap} {i o : Nat} {f : V → Bool} (e : cellAt h i o f = true) : ∃ b v, h.get i = some b ∧ b.get o = some v ∧ f v = true := by
  unfold cellAt at e
  cases hi : h.get i with
  | none => rw [hi] at e; cases e
  | some b =>
    rw [hi, O_some] at e
    cases ho : b.get o with
    | none => rw [ho] at e; cases e
    | some v => rw [ho] at e; exact ⟨b, v, rfl, ho, e⟩

theorem shape_of_cell {w : World} {k o : Nat} {x : Value} (hx : w.cell? ⟨k, o, none⟩ = some x) : ∃ e n, w.shape? k = some (e, n + 1) := by
  unfold World.cell? at hx
  unfold World.shape?
  split at hx
  · rename_i c e fr hc
    have hx : c[o]? = some x := hx
    have := (Array.getElem?_eq_some_iff.1 hx).1
    have h1 : o < c.size := this
    exact ⟨e, c.size - 1, by rw [Nat.sub_add_cancel (by omega), show w.heap[k]? = _ from hc]⟩
  · cases hx

/-- Two addresses in unlike blocks, one of which bears no mark. -/
theorem sameAddr_apart {w : World} {k l o p : Nat} {x y : Value} (hne : k ≠ l) (hx : w.cell? ⟨k, o, none⟩ = some x) (hy : w.cell? ⟨l, p, none⟩ = some y) (hf : (∀ q, w.frozen? ⟨k, q, none⟩ = false) ∨ ∀ q, w.frozen? ⟨l, q, none⟩ = false) :
    (sameAddr ⟨k, o, none⟩ ⟨l, p, none⟩).run P w = .ok false w := by
  obtain ⟨e, n, h1⟩ := shape_of_cell hx
  obtain ⟨e', n', h2⟩ := shape_of_cell hy
  rcases hf with hf | hf
  · simp [sameAddr, hne, hf, noView, viewAt, h1, h2, mayBeOne, stringish]
  · simp [sameAddr, hne, hf, noView, viewAt, h1, h2, mayBeOne, stringish]

theorem eqp_run {bop : BinOp} {t : TypeId} (H : HRel σ ro N h nx w) {want : Bool} (hw : ptrWant P bop t = some want) {x y : V} {X Y : Value} (hx : x.rel σ X) (hy : y.rel σ Y) {u : V} (hv : rdV h (.eqp want ro.ro x y) = some u) (a b : Operand) :
    ∃ Z, (do eqGuard bop t a b X Y; binOp bop t X Y : Sem Value).run P w = .ok Z w ∧ u.rel σ Z := by
  unfold ptrWant at hw
  split at hw
  · rename_i e hu
    split at hw
    · rename_i m f g w0 hsz hb
      subst hw
      have hv : O (eqPtrV h ro.ro x y) none (fun b => mkBool (b == want)) = some u := hv
      obtain ⟨r, hr, h2⟩ := O_some' hv
      rw [mkBool_eq] at h2
      obtain rfl := Option.some.inj h2
      obtain ⟨i, hi, hs⟩ := O_some' (show O (P.info? e) none (fun i => some i.size) = some (m + 1) from hsz)
      have hs : i.size = m + 1 := Option.some.inj hs
      have hse : (sizeOf e).run P w = .ok (m + 1) w := by simp [sizeOf, typeInfo, hi, hs]
      have key : ∀ dp : Nat, (Op.equalIn (dp + 1) t X Y).run P w = .ok r w ∧ (∃ c d, X = .pointer c ∧ Y = .pointer d) := by
        intro dp
        unfold eqPtrV at hr
        split at hr <;> try (cases hr; done)
        all_goals simp only [V.rel] at hx hy
        · subst hx hy; obtain rfl := Option.some.inj hr; exact ⟨by simp [Op.equalIn, under_run hu], _, _, rfl, rfl⟩
        · subst hx; obtain ⟨b', -, rfl⟩ := hy; obtain rfl := Option.some.inj hr; exact ⟨by simp [Op.equalIn, under_run hu], _, _, rfl, rfl⟩
        · subst hy; obtain ⟨b', -, rfl⟩ := hx; obtain rfl := Option.some.inj hr; exact ⟨by simp [Op.equalIn, under_run hu], _, _, rfl, rfl⟩
        · rename_i i1 o1 j1 p1 _
          obtain ⟨b1, hb1, rfl⟩ := hx
          obtain ⟨b2, hb2, rfl⟩ := hy
          refine ⟨?_, _, _, rfl, rfl⟩
          have hgo : (Op.equalIn (dp + 1) t (.pointer (some ⟨b1.block, b1.base + o1, none⟩)) (.pointer (some ⟨b2.block, b2.base + p1, none⟩))).run P w = (sameAddr ⟨b1.block, b1.base + o1, none⟩ ⟨b2.block, b2.base + p1, none⟩).run P w := by
            simp [Op.equalIn, under_run hu, hse]
          rw [hgo]
          cases hij : Nat.beq i1 j1 with
          | true =>
            obtain rfl := Nat.eq_of_beq_eq_true hij
            rw [hb1] at hb2
            obtain rfl := Option.some.inj hb2
            rw [hij, B_true] at hr
            obtain rfl := Option.some.inj hr
            rw [beq_iff]
            by_cases ho : o1 = p1
            · subst ho; simp [sameAddr]
            · simp only [sameAddr, beq_self_eq_true, if_true, Sem.run_pure]
              rw [decide_eq_false ho]
              congr 1
              rw [beq_eq_false_iff_ne]
              intro e3
              injection e3 with _ e4
              omega
          | false =>
            rw [hij, B_false] at hr
            obtain ⟨hc, h3⟩ := B_some hr
            obtain rfl := Option.some.inj h3
            rw [andB_eq, Bool.and_eq_true, andB_eq, Bool.and_eq_true] at hc
            obtain ⟨⟨hn1, hn2⟩, hc⟩ := hc
            have hn1 := Nat.le_of_ble_eq_true hn1
            have hn2 := Nat.le_of_ble_eq_true hn2
            have hne : i1 ≠ j1 := Nat.ne_of_beq_eq_false hij
            cases hq : cellAt h i1 o1 (fun v => notB (isByte v)) with
            | true =>
              rw [hq, B_true] at hc
              obtain ⟨c1, v1, k1, k2, k3⟩ := cellAt_ok hq
              obtain ⟨c2, v2, k4, k5, -⟩ := cellAt_ok hc
              obtain ⟨x1, hx1, -⟩ := H.cell i1 c1 b1 k1 hb1 o1 v1 k2
              obtain ⟨x2, hx2, -⟩ := H.cell j1 c2 b2 k4 hb2 p1 v2 k5
              exact sameAddr_apart (H.apart i1 j1 b1 b2 c1 c2 k1 k4 hb1 hb2 hn1 hne) hx1 hx2 (.inl (H.plain i1 c1 b1 o1 v1 k1 hb1 hn1 k2 (by revert k3; cases isByte v1 <;> simp [notB])))
            | false =>
              rw [hq, B_false, andB_eq, Bool.and_eq_true] at hc
              obtain ⟨c1, v1, k1, k2, -⟩ := cellAt_ok hc.1
              obtain ⟨c2, v2, k4, k5, k3⟩ := cellAt_ok hc.2
              obtain ⟨x1, hx1, -⟩ := H.cell i1 c1 b1 k1 hb1 o1 v1 k2
              obtain ⟨x2, hx2, -⟩ := H.cell j1 c2 b2 k4 hb2 p1 v2 k5
              exact sameAddr_apart (H.apart i1 j1 b1 b2 c1 c2 k1 k4 hb1 hb2 hn1 hne) hx1 hx2 (.inr (H.plain j1 c2 b2 p1 v2 k4 hb2 hn2 k5 (by revert k3; cases isByte v2 <;> simp [notB])))
      obtain ⟨he, c, d, rfl, rfl⟩ := key 9999
      have he : (Op.equal t (.pointer c) (.pointer d)).run P w = .ok r w := he
      have hg : (eqGuard bop t a b (.pointer c) (.pointer d)).run P w = .ok () w := by unfold eqGuard; split <;> rfl
      cases bop <;> simp only [binC, Bin.mk.injEq, reduceCtorEq, and_false] at hb
      case eql =>
        obtain ⟨-, -, e⟩ := hb
        obtain rfl := Option.some.inj e
        exact ⟨.bool r, by simp [hg, binOp, he], by simp only [V.rel]; simp⟩
      case neq =>
        obtain ⟨-, -, e⟩ := hb
        obtain rfl := Option.some.inj e
        exact ⟨.bool !r, by simp [hg, binOp, he], by simp only [V.rel]; cases r <;> rfl⟩
    · cases hw
  · cases hw

theorem read_sound {op : Op} {f : T V → Option Rd} (hk : kind P ro op = .read f) {tm : T V} {r : Rd} (hf : f tm = some r) {ρ : Operand → Value}
    (hr : ∀ x ∈ op.operands.toList, ORel σ ro tm ρ x) (o : Oper) (ho : o.op = op) (H : HRel σ ro N h nx w) {u : V} (hv : rdV h r = some u) :
    ∃ Y, (execOp ρ o).run P w = .ok (.value Y) w ∧ u.rel σ Y := by
  have lift : ∀ {s : Sem Value}, (∃ Y, s.run P w = .ok Y w ∧ u.rel σ Y) → ∃ Y, (do pure (.value (← s)) : Sem Next).run P w = .ok (.value Y) w ∧ u.rel σ Y := by
    rintro s ⟨Y, hY, hu⟩
    exact ⟨Y, by simp [hY], hu⟩
  unfold execOp
  rw [ho]
  cases op with
  | load t x =>
    simp only [kind, forceS_eq, forceE_eq, Kind.read.injEq] at hk
    subst hk
    obtain ⟨v, hv', h2⟩ := O_some' hf
    obtain rfl := Option.some.inj h2
    exact lift (load_run H (hr x (by simp [Op.operands]) v hv') hv)
  | convert s d x =>
    simp only [kind, kConvert] at hk
    split at hk
    · simp at hk
    · simp at hk
    · split at hk <;> simp at hk
    · rename_i e hs hd
      split at hk
      · rename_i he
        simp only [forceE_eq, Kind.read.injEq] at hk
        subst hk
        obtain ⟨v, hv', h2⟩ := O_some' hf
        obtain rfl := Option.some.inj h2
        exact lift (bytes_run hs hd he H (hr x (by simp [Op.operands]) v hv') hv)
      · cases hk
    · split at hk <;> simp at hk
    · cases hk
  | move x => simp [kind] at hk
  | assign x => simp [kind] at hk
  | pick a b c => simp [kind] at hk
  | build t parts =>
    simp only [kind, kBuild] at hk
    split at hk
    · cases hk
    · split at hk
      · split at hk
        · rcases partsC_spec (ro := ro) (place := _) (bad := Kind.bad) parts.toList _ with hb | ⟨es, h1, -, -⟩
          · rw [hb] at hk; cases hk
          · rw [h1, forceL_eq] at hk; cases hk
        · cases hk
      · split at hk
        · rcases partsC_spec (ro := ro) (place := _) (bad := Kind.bad) parts.toList _ with hb | ⟨es, h1, -, -⟩
          · rw [hb] at hk; cases hk
          · rw [h1, forceL_eq] at hk; cases hk
        · cases hk
      · cases hk
  | nilCheck x => simp [kind] at hk
  | binOp bop t x y yt =>
    simp only [kind, kBinOp, forceE_eq] at hk
    split at hk
    · rename_i want hpw
      simp only [Kind.read.injEq] at hk
      subst hk
      obtain ⟨v, hv', h2⟩ := O_some' hf
      obtain ⟨v2, hv2', h3⟩ := O_some' h2
      obtain rfl := Option.some.inj h3
      exact lift (eqp_run H hpw (hr x (by simp [Op.operands]) v hv') (hr y (by simp [Op.operands]) v2 hv2') hv x y)
    · split at hk
      · cases hk
      · cases hb : binC bop <;> rw [hb] at hk <;> cases hk
  | unOp a b c => simp [kind] at hk
  | makeInterface t x => simp only [kind] at hk; split at hk <;> simp at hk
  | makeFunc a b c => simp [kind] at hk
  | slice t x lo hi mx =>
    simp only [kind, kSlice] at hk
    split at hk
    · unfold kSlice3 at hk
      split at hk
      · split at hk <;> simp at hk
      · cases hk
    · simp only [forceE_eq, optE_eq] at hk
      split at hk
      · cases hk
      · split at hk <;> simp at hk
      · split at hk <;> simp at hk
      · cases hk
  | fieldAddr t x f' =>
    simp only [kind, kFieldAddr] at hk
    split at hk
    · split at hk
      · split at hk <;> simp at hk
      · cases hk
    · cases hk
  | field t x f' =>
    simp only [kind, kField] at hk
    split at hk
    · split at hk <;> simp at hk
    · cases hk
  | indexAddr t x ix =>
    simp only [kind, kIndexAddr] at hk
    split at hk
    · split at hk <;> simp at hk
    · split at hk <;> simp at hk
    · cases hk
  | index t x ix =>
    simp only [kind, kIndex] at hk
    split at hk
    · split at hk <;> simp at hk
    · simp at hk
    · cases hk
  | extract x ix => simp [kind] at hk
  | typeAssert x xt a ok => simp only [kind] at hk; split at hk <;> simp at hk
  | store t a x => simp only [kind] at hk; split at hk <;> simp at hk
  | alloc t => simp only [kind] at hk; split at hk <;> simp at hk
  | box t x => simp [kind] at hk
  | buildSlice t n parts =>
    simp only [kind, kBuildSlice] at hk
    split at hk
    · split at hk
      · split at hk
        · rcases partsC_spec (ro := ro) (place := _) (bad := Kind.bad) parts.toList _ with hb | ⟨es, h1, -, -⟩
          · rw [forceL_eq, hb] at hk; cases hk
          · rw [forceL_eq, h1] at hk; cases hk
        · cases hk
      · cases hk
    · cases hk
  | makeSlice t l c =>
    simp only [kind, kMakeSlice] at hk
    split at hk
    · split at hk
      · split at hk <;> simp at hk
      · cases hk
    · cases hk
  | call c =>
    obtain ⟨callee, args, argTypes⟩ := c
    simp only [kind, kCall] at hk
    split at hk
    · unfold kBuiltin at hk
      split at hk
      · unfold kLen at hk
        split at hk
        · simp at hk
        · simp at hk
        · simp at hk
        · split at hk <;> simp at hk
        · simp at hk
        · cases hk
      · unfold kAppend at hk
        split at hk
        · split at hk
          · split at hk <;> simp at hk
          · cases hk
        · cases hk
      · unfold kCopy at hk
        split at hk
        · split at hk <;> simp at hk
        · cases hk
      · unfold kClear at hk
        split at hk
        · split at hk <;> simp at hk
        · cases hk
      · unfold kDelete at hk
        split at hk <;> simp at hk
      · simp at hk
      · simp at hk
      · cases hk
    · simp at hk
    · simp at hk
  | makeMap t r => cases r <;> cases hk
  | lookup t x k ok => simp only [kind, forceE_eq] at hk; split at hk <;> simp at hk
  | range t x => simp only [kind, kRange, forceE_eq] at hk; split at hk <;> simp at hk
  | mapUpdate t m k x => simp only [kind, forceE_eq] at hk; split at hk <;> simp at hk
  | sliceToArrayPointer t x => simp only [kind] at hk; split at hk <;> simp at hk
  | _ => simp [kind] at hk

/-- Fewer cells are known of fewer blocks. -/
theorem HRel.fewer (H : HRel σ ro N h nx w) {h' : Heap} {nx' : Nat} (hn : nx ≤ nx')
    (hh : ∀ i blk', (∃ b, σ i = some b) → h'.get i = some blk' → ∃ blk, h.get i = some blk ∧ ∀ o v, blk'.get o = some v → blk.get o = some v)
    (hb : nx' ≤ big → ∀ i blk, h'.get (i + big) = some blk → h.get (i + big) = some blk) : HRel σ ro N h' nx' w where
  old := fun i b hb => Nat.lt_of_lt_of_le (H.old i b hb) hn
  cell := fun i blk' b hi hb o v ho => by
    obtain ⟨blk, h1, h2⟩ := hh i blk' ⟨b, hb⟩ hi
    exact H.cell i blk b h1 hb o v (h2 o v ho)
  own := fun i blk' b hi hb hr => by
    obtain ⟨blk, h1, -⟩ := hh i blk' ⟨b, hb⟩ hi
    exact H.own i blk b h1 hb hr
  apart := fun i j bi bj ci cj hi hj hbi hbj hr hne => by
    obtain ⟨b1, h1, -⟩ := hh i ci ⟨bi, hbi⟩ hi
    obtain ⟨b2, h2, -⟩ := hh j cj ⟨bj, hbj⟩ hj
    exact H.apart i j bi bj b1 b2 h1 h2 hbi hbj hr hne
  globals := H.globals
  low := H.low
  lows := fun i blk' b hi hb hr => by
    obtain ⟨blk, h1, -⟩ := hh i blk' ⟨b, hb⟩ hi
    exact H.lows i blk b h1 hb hr
  whole := fun i blk' b hi hb hr => by
    obtain ⟨blk, h1, -⟩ := hh i blk' ⟨b, hb⟩ hi
    exact H.whole i blk b h1 hb hr
  plain := fun i blk' b o v hi hb hr ho hv => by
    obtain ⟨blk, h1, h2⟩ := hh i blk' ⟨b, hb⟩ hi
    exact H.plain i blk b o v h1 hb hr (h2 o v ho) hv
  odd := fun i b hs ho => by
    obtain ⟨h1, h2, h3⟩ := H.odd i b hs ho
    refine ⟨?_, h2, fun hr => ⟨(h3 hr).1, fun hx blk hi => (h3 hr).2 (by omega) blk (hb hx i blk hi)⟩⟩
    cases hc : h'.get i with
    | none => rfl
    | some c =>
      obtain ⟨blk, h4, -⟩ := hh i c ⟨b, hs⟩ hc
      rw [h1] at h4; cases h4
  oddApart := fun i j bi bj hi hj hr hne ho hc => H.oddApart i j bi bj hi hj hr hne ho (hc.imp id fun ⟨cj, hcj⟩ => by
    obtain ⟨blk, h4, -⟩ := hh j cj ⟨bj, hj⟩ hcj
    exact ⟨blk, h4⟩)

/-- A block that has no name yet. -/
theorem HRel.unnamed (H : HRel σ ro N h nx w) (blk : T V) : HRel σ ro N (h.set (some blk) nx) (nx + 1) w :=
  H.fewer (Nat.le_succ nx) (fun i blk' ⟨b, hb⟩ hi => by
    have := H.old i b hb
    rw [T.get_set, if_neg (by omega)] at hi
    exact ⟨blk', hi, fun _ _ h => h⟩)
    fun hx i blk' hi => by
      rw [T.get_set, if_neg (by omega)] at hi
      exact hi

theorem HRel.ge (H : HRel σ ro N h nx w) {i : Nat} {blk : T V} {b : BI} (hi : h.get i = some blk) (hb : σ i = some b) : b.block < w.heap.size := by
  by_cases hr : ro.ro ≤ i
  · exact (H.own i blk b hi hb hr).2.1
  · have := H.lows i blk b hi hb (by omega)
    have := H.low
    omega

/-- One name more. -/
def upd (σ : Names) (i : Nat) (b : BI) : Names := fun j => if j = i then some b else σ j
theorem upd_same (σ : Names) (i : Nat) (b : BI) : upd σ i b i = some b := by simp [upd]
theorem upd_more {σ : Names} {i : Nat} {b : BI} (h : σ i = none) : More σ (upd σ i b) := fun j c hj => by
  unfold upd
  by_cases e : j = i
  · subst e; rw [h] at hj; cases hj
  · rw [if_neg e]; exact hj

theorem cell_of_block {w w' : World} {k o : Nat} (h : w'.heap[k]? = w.heap[k]?) : w'.cell? ⟨k, o, none⟩ = w.cell? ⟨k, o, none⟩ := by simp [World.cell?, h]
theorem frozen_of_block {w w' : World} {k o : Nat} (h : w'.heap[k]? = w.heap[k]?) : w'.frozen? ⟨k, o, none⟩ = w.frozen? ⟨k, o, none⟩ := by simp [World.frozen?, h]

/-- A block that was made now gets its name. -/
theorem HRel.named (H : HRel σ ro N h nx w) {i : Nat} {blk : T V} {w' : World} {C : Array Value} (hn : i < nx) (hr : ro.ro ≤ i) (hs : σ i = none) (hi : h.get i = some blk) (M : Made w w' C)
    (hc : ∀ (o : Nat) (v : V), blk.get o = some v → ∃ x, C[o]? = some x ∧ v.rel σ x) : HRel (upd σ i ⟨w.heap.size, 0, C.size, .no⟩) ro N h nx w' where
  old := fun j b hb => by
    unfold upd at hb
    by_cases e : j = i
    · subst e; exact hn
    · rw [if_neg e] at hb; exact H.old j b hb
  cell := fun j cj b hj hb o v ho => by
    unfold upd at hb
    by_cases e : j = i
    · subst e
      rw [if_pos rfl] at hb
      obtain rfl := Option.some.inj hb
      rw [hi] at hj
      obtain rfl := Option.some.inj hj
      obtain ⟨x, hx, hv⟩ := hc o v ho
      exact ⟨x, by simp only [Nat.zero_add]; rw [M.cell, hx], hv.more (upd_more hs)⟩
    · rw [if_neg e] at hb
      obtain ⟨x, hx, hv⟩ := H.cell j cj b hj hb o v ho
      exact ⟨x, by rw [cell_of_block (M.old _ (H.ge hj hb))]; exact hx, hv.more (upd_more hs)⟩
  own := fun j cj b hj hb hrj => by
    unfold upd at hb
    by_cases e : j = i
    · subst e
      rw [if_pos rfl] at hb
      obtain rfl := Option.some.inj hb
      refine ⟨H.low, by rw [M.size]; exact Nat.lt_succ_self _, fun o ho => ?_, fun o x hx => ?_⟩
      · simp only at ho
        simp only [Nat.zero_add, M.cell]
        exact ⟨C[o], by simp [ho]⟩
      · simp only [Nat.zero_add] at hx ⊢
        rw [M.cell] at hx
        exact M.free o (Array.getElem?_eq_some_iff.1 hx).1
    · rw [if_neg e] at hb
      obtain ⟨h1, h2, h3, h4⟩ := H.own j cj b hj hb hrj
      refine ⟨h1, by rw [M.size]; omega, fun o ho => ?_, fun o x hx => ?_⟩
      · obtain ⟨x, hx⟩ := h3 o ho
        exact ⟨x, by rw [cell_of_block (M.old _ h2)]; exact hx⟩
      · rw [cell_of_block (M.old _ h2)] at hx
        rw [frozen_of_block (M.old _ h2)]
        exact h4 o x hx
  apart := fun j k bj bk cj ck hj hk hbj hbk hrj hne => by
    unfold upd at hbj hbk
    by_cases e : j = i
    · subst e
      rw [if_pos rfl] at hbj
      obtain rfl := Option.some.inj hbj
      rw [if_neg (fun e => hne e.symm)] at hbk
      have := H.ge hk hbk
      simp only; omega
    · rw [if_neg e] at hbj
      by_cases e2 : k = i
      · subst e2
        rw [if_pos rfl] at hbk
        obtain rfl := Option.some.inj hbk
        have := H.ge hj hbj
        simp only; omega
      · rw [if_neg e2] at hbk
        exact H.apart j k bj bk cj ck hj hk hbj hbk hrj hne
  globals := fun g hg => by
    obtain ⟨b, h1, h2⟩ := H.globals g hg
    exact ⟨b, upd_more hs g b h1, h2⟩
  low := by rw [M.size]; exact Nat.le_succ_of_le H.low
  lows := fun j cj b hj hb hr' => by
    unfold upd at hb
    rw [if_neg (by omega)] at hb
    exact H.lows j cj b hj hb hr'
  whole := fun j cj b hj hb hrj c e' lo hi2 hc' => by
    unfold upd at hb
    by_cases e : j = i
    · subst e
      rw [if_pos rfl] at hb
      obtain rfl := Option.some.inj hb
      exact M.whole c e' lo hi2 hc'
    · rw [if_neg e] at hb
      rw [M.old _ (H.own j cj b hj hb hrj).2.1] at hc'
      exact H.whole j cj b hj hb hrj c e' lo hi2 hc'
  plain := fun j cj b o v hj hb hrj ho hv p => by
    unfold upd at hb
    by_cases e : j = i
    · subst e
      rw [if_pos rfl] at hb
      obtain rfl := Option.some.inj hb
      rw [hi] at hj
      obtain rfl := Option.some.inj hj
      obtain ⟨x, hx, hvx⟩ := hc o v ho
      exact M.plain ⟨o, x, hx, rel_notByte hvx hv⟩ p
    · rw [if_neg e] at hb
      rw [frozen_of_block (M.old _ (H.own j cj b hj hb hrj).2.1)]
      exact H.plain j cj b o v hj hb hrj ho hv p
  odd := fun j b hb ho => by
    unfold upd at hb
    by_cases e : j = i
    · subst e
      rw [if_pos rfl] at hb
      obtain rfl := Option.some.inj hb
      cases ho
    · rw [if_neg e] at hb
      obtain ⟨h1, h2, h3⟩ := H.odd j b hb ho
      refine ⟨h1, by rw [M.size]; omega, fun hr' => ⟨(h3 hr').1, fun hx blk hi' => ?_⟩⟩
      rw [M.old _ h2]
      exact ((h3 hr').2 hx blk hi').more (upd_more hs)
  oddApart := fun j k bj bk hbj hbk hrj hne ho hc => by
    unfold upd at hbj hbk
    by_cases e : j = i
    · subst e
      rw [if_pos rfl] at hbj
      obtain rfl := Option.some.inj hbj
      cases ho
    · rw [if_neg e] at hbj
      by_cases e2 : k = i
      · subst e2
        rw [if_pos rfl] at hbk
        obtain rfl := Option.some.inj hbk
        have := (H.odd j bj hbj ho).2.1
        simp only; omega
      · rw [if_neg e2] at hbk
        exact H.oddApart j k bj bk hbj hbk hrj hne ho hc

theorem Made.below {w w' : World} {C : Array Value} (M : Made w w' C) {N : Nat} (hN : N ≤ w.heap.size) : Keep N w w' :=
  ⟨⟨M.os, M.tape, M.output, by rw [M.size]; exact Nat.le_succ _, fun k hk => M.old k (by omega)⟩, fun k ds hk => by
    rw [M.old k (Array.getElem?_eq_some_iff.1 hk).1]; exact hk, fun k r hk => ⟨r, by
    rw [M.old k (Array.getElem?_eq_some_iff.1 hk).1]; exact hk⟩⟩

end
end Go.Proofs.YteicddmekhdjeaaGreatDoor.Eng

/- Writing memory. -/
namespace Go.Proofs.YteicddmekhdjeaaGreatDoor.Eng
variable [Syms]
open Go.RowKit (Below)

/-- w' is w, with xs in block k from cell `start` on. -/
structure Wrote (w w' : World) (k start : Nat) (xs : List Value) : Prop where
  size : w'.heap.size = w.heap.size
  old : ∀ j, j ≠ k → w'.heap[j]? = w.heap[j]?
  cell : ∀ p, w'.cell? ⟨k, p, none⟩ = if start ≤ p ∧ p < start + xs.length then xs[p - start]? else w.cell? ⟨k, p, none⟩
  there : ∀ p, start ≤ p → p < start + xs.length → ∃ y, w.cell? ⟨k, p, none⟩ = some y
  frozen : ∀ a, w'.frozen? a = w.frozen? a
  obj : ∀ (j : Nat) (c : Array Value) (e : TypeId) (fr : Nat × Nat), w'.heap[j]? = some (Obj.cells c e fr) → ∃ c0, w.heap[j]? = some (Obj.cells c0 e fr) ∧ c0.size = c.size
  os : w'.os = w.os
  tape : w'.tape = w.tape
  output : w'.output = w.output
  marks : ∀ (j : Nat) (ds : Option (List Deferred)), w.heap[j]? = some (Obj.deferred ds) → w'.heap[j]? = some (Obj.deferred ds)
  loops : ∀ (j : Nat) (r : Loop), w.heap[j]? = some (Obj.loop r) → w'.heap[j]? = some (Obj.loop r)

theorem Wrote.below {w w' : World} {k start N : Nat} {xs : List Value} (W : Wrote w w' k start xs) (hk : N ≤ k) : Keep N w w' :=
  ⟨⟨W.os, W.tape, W.output, by rw [W.size]; exact Nat.le_refl _, fun j hj => W.old j (by omega)⟩, W.marks, fun k r hk => ⟨r, W.loops k r hk⟩⟩

section
variable {P : Program} {σ : Names} {ro : Lo} {N nx : Nat} {h : Heap} {w : World}

theorem wrote_run (k : Nat) : ∀ (xs : List Value) (w : World) (a start j : Nat), start = a + j → (∀ x ∈ xs, (∀ c, x ≠ .agg c) ∧ ∀ c, x ≠ .tuple c) →
    (∀ p, start ≤ p → p < start + xs.length → (∃ y, w.cell? ⟨k, p, none⟩ = some y) ∧ w.frozen? ⟨k, p, none⟩ = false) →
    ∃ w', (storeCells ⟨k, a, none⟩ xs j).run P w = .ok () w' ∧ Wrote w w' k start xs
  | [], w, a, start, j, _, _, _ => ⟨w, rfl, ⟨rfl, fun _ _ => rfl, fun p => by simp; intro h1 h2; omega, fun p h1 h2 => by simp at h2; omega, fun _ => rfl, fun _ c _ _ h => ⟨c, h, rfl⟩, rfl, rfl, rfl, fun _ _ h => h, fun _ _ h => h⟩⟩
  | x :: xs, w, a, start, j, hs, hx, hp => by
    subst hs
    obtain ⟨⟨y, hy⟩, hf⟩ := hp (a + j) (Nat.le_refl _) (by simp)
    have hone : x.oneCell' = true := by
      have := hx x (by simp)
      cases x <;> first | rfl | exact absurd rfl (this.1 _) | exact absurd rfl (this.2 _)
    have hrun : (store ((⟨k, a, none⟩ : Addr).add j) x).run P w = .ok () (w.setCell ⟨k, a + j, none⟩ x) := by
      rw [addr_add, run_store P w _ _ _ hone, hy]
      simp [hf]
    obtain ⟨w', hw', W⟩ := wrote_run k xs (w.setCell ⟨k, a + j, none⟩ x) a (a + (j + 1)) (j + 1) rfl (fun z hz => hx z (by simp [hz])) (fun p h1 h2 => by
      obtain ⟨⟨z, hz⟩, hfz⟩ := hp p (by omega) (by simp; omega)
      refine ⟨⟨z, ?_⟩, by rw [World.frozen?_setCell]; exact hfz⟩
      rw [World.cell?_setCell_other _ _ _ _ (by intro e; injection e with e1 e2; omega)]
      exact hz)
    refine ⟨w', ?_, ?_⟩
    · simp only [storeCells, Sem.run_bind, hrun, Result.andThen_ok]
      exact hw'
    · exact
        { size := by rw [W.size]; simp
          old := fun i hi => by rw [W.old i hi]; exact Go.RowKit.Below.heap_setCell _ _ _ _ hi
          cell := fun p => by
            rw [W.cell p]
            by_cases e : p = a + j
            · subst e
              rw [if_neg (by omega), if_pos (by simp)]
              simp [World.cell?_setCell_same _ _ _ hy]
            · by_cases h1 : a + (j + 1) ≤ p ∧ p < a + (j + 1) + xs.length
              · rw [if_pos h1, if_pos (by simp; omega)]
                rw [show p - (a + j) = (p - (a + (j + 1))) + 1 by omega]
                simp
              · rw [if_neg h1, if_neg (by simp; omega)]
                exact World.cell?_setCell_other _ _ _ _ (by intro e3; injection e3 with e4 e5; omega)
          there := fun p h1 h2 => (hp p h1 h2).1
          frozen := fun b => by rw [W.frozen, World.frozen?_setCell]
          obj := fun j' c e fr hc => by
            obtain ⟨c1, h1, h2⟩ := W.obj j' c e fr hc
            simp only [World.setCell, Array.getElem?_modify] at h1
            by_cases hj : k = j'
            · subst hj
              rw [if_pos rfl] at h1
              cases hw : w.heap[k]? with
              | none => rw [hw] at h1; cases h1
              | some o =>
                rw [hw] at h1
                simp only [Option.map_some, Option.some.injEq] at h1
                cases o with
                | cells c2 e2 f2 =>
                  simp only [Obj.cells.injEq] at h1
                  obtain ⟨h3, rfl, rfl⟩ := h1
                  exact ⟨c2, rfl, by rw [← h2, ← h3]; simp⟩
                | _ => cases h1
            · rw [if_neg hj] at h1
              exact ⟨c1, h1, h2⟩
          os := W.os
          tape := W.tape
          output := W.output
          marks := fun i ds hi => W.marks i ds (by
            rw [Go.RowKit.Below.heap_setCell _ _ _ _ (fun e => by subst e; simp [World.cell?, hi] at hy)]; exact hi)
          loops := fun i r hi => W.loops i r (by
            rw [Go.RowKit.Below.heap_setCell _ _ _ _ (fun e => by subst e; simp [World.cell?, hi] at hy)]; exact hi) }

/-- A named block's cells are written. -/
theorem HRel.wrote (H : HRel σ ro N h nx w) {i off : Nat} {blk : T V} {b : BI} {w' : World} {vs : List V} {xs : List Value} (hr : ro.ro ≤ i) (hi : h.get i = some blk) (hb : σ i = some b)
    (W : Wrote w w' b.block (b.base + off) xs) (hv : relL σ vs xs) (hk : vs.all isByte = true ∨ ∃ q u, blk.get q = some u ∧ isByte u = false) :
    HRel σ ro N (h.set (some (T.sets vs blk off)) i) nx w' := by
  have hlen := hv.length
  have get : ∀ m cm, (h.set (some (T.sets vs blk off)) i).get m = some cm → ∃ c0, h.get m = some c0 := by
    intro m cm hm
    rw [T.get_set] at hm
    by_cases e : m = i
    · subst e; exact ⟨blk, hi⟩
    · rw [if_neg e] at hm; exact ⟨cm, hm⟩
  exact
    { old := H.old
      cell := fun j cj bj hj hbj p u hp => by
        rw [T.get_set] at hj
        by_cases e : j = i
        · subst e
          rw [if_pos rfl] at hj
          obtain rfl := Option.some.inj hj
          rw [hb] at hbj
          obtain rfl := Option.some.inj hbj
          rw [T.get_sets] at hp
          rw [W.cell]
          by_cases h1 : off ≤ p ∧ p < off + vs.length
          · rw [if_pos h1] at hp
            obtain ⟨x, hx, hu⟩ := hv.get hp
            refine ⟨x, ?_, hu⟩
            rw [if_pos (by omega), show b.base + p - (b.base + off) = p - off by omega, hx]
          · rw [if_neg h1] at hp
            obtain ⟨x, hx, hu⟩ := H.cell j blk b hi hb p u hp
            exact ⟨x, by rw [if_neg (by omega)]; exact hx, hu⟩
        · rw [if_neg e] at hj
          obtain ⟨z, hz, hu⟩ := H.cell j cj bj hj hbj p u hp
          have hne : bj.block ≠ b.block := fun e3 => H.apart i j b bj blk cj hi hj hb hbj hr (fun e4 => e e4.symm) e3.symm
          exact ⟨z, by rw [cell_of_block (W.old _ hne)]; exact hz, hu⟩
      own := fun j cj bj hj hbj hrj => by
        obtain ⟨c0, hc0⟩ := get j cj hj
        obtain ⟨h1, h2, h3, h4⟩ := H.own j c0 bj hc0 hbj hrj
        refine ⟨h1, by rw [W.size]; exact h2, fun p hp => ?_, fun p z hz => ?_⟩
        · by_cases e : j = i
          · subst e
            rw [hb] at hbj
            obtain rfl := Option.some.inj hbj
            rw [W.cell]
            by_cases h5 : b.base + off ≤ b.base + p ∧ b.base + p < b.base + off + xs.length
            · rw [if_pos h5]
              exact ⟨xs[b.base + p - (b.base + off)]'(by omega), List.getElem?_eq_getElem _⟩
            · rw [if_neg h5]; exact h3 p hp
          · obtain ⟨z, hz⟩ := h3 p hp
            have hne : bj.block ≠ b.block := fun e3 => H.apart i j b bj blk c0 hi hc0 hb hbj hr (fun e4 => e e4.symm) e3.symm
            exact ⟨z, by rw [cell_of_block (W.old _ hne)]; exact hz⟩
        · rw [W.frozen]
          by_cases e : j = i
          · subst e
            rw [hb] at hbj
            obtain rfl := Option.some.inj hbj
            rw [W.cell] at hz
            by_cases h5 : b.base + off ≤ b.base + p ∧ b.base + p < b.base + off + xs.length
            · obtain ⟨y, hy⟩ := W.there _ h5.1 h5.2
              exact h4 p y hy
            · rw [if_neg h5] at hz
              exact h4 p z hz
          · have hne : bj.block ≠ b.block := fun e3 => H.apart i j b bj blk c0 hi hc0 hb hbj hr (fun e4 => e e4.symm) e3.symm
            rw [cell_of_block (W.old _ hne)] at hz
            exact h4 p z hz
      apart := fun j k bj bk cj ck hj hk hbj hbk hrj hne => by
        obtain ⟨c1, h1⟩ := get j cj hj
        obtain ⟨c2, h2⟩ := get k ck hk
        exact H.apart j k bj bk c1 c2 h1 h2 hbj hbk hrj hne
      globals := H.globals
      low := by rw [W.size]; exact H.low
      lows := fun j cj bj hj hbj hr' => by
        obtain ⟨c0, hc0⟩ := get j cj hj
        exact H.lows j c0 bj hc0 hbj hr'
      whole := fun j cj bj hj hbj hrj c e' lo hi' hc' => by
        obtain ⟨c0, hc0⟩ := get j cj hj
        obtain ⟨c1, h1, h2⟩ := W.obj _ c e' _ hc'
        rw [← h2]
        exact H.whole j c0 bj hc0 hbj hrj c1 e' lo hi' h1
      plain := fun j cj bj p u hj hbj hrj hp hu z => by
        rw [W.frozen]
        rw [T.get_set] at hj
        by_cases e : j = i
        · subst e
          rw [if_pos rfl] at hj
          obtain rfl := Option.some.inj hj
          rw [hb] at hbj
          obtain rfl := Option.some.inj hbj
          rw [T.get_sets] at hp
          by_cases h1 : off ≤ p ∧ p < off + vs.length
          · rw [if_pos h1] at hp
            rcases hk with hk | ⟨q, u', hq, hu'⟩
            · have := List.all_eq_true.1 hk u (List.mem_of_getElem? hp)
              rw [hu] at this; cases this
            · exact H.plain j blk b q u' hi hb hr hq hu' z
          · rw [if_neg h1] at hp
            exact H.plain j blk b p u hi hb hr hp hu z
        · rw [if_neg e] at hj
          exact H.plain j cj bj p u hj hbj hrj hp hu z
      odd := fun j bj hbj hod => by
        obtain ⟨h1, h2, h3⟩ := H.odd j bj hbj hod
        have hne : j ≠ i := fun e => by subst e; rw [h1] at hi; cases hi
        refine ⟨by rw [T.get_set, if_neg hne]; exact h1, by rw [W.size]; exact h2, fun hr' => ⟨(h3 hr').1, fun hx c hc => ?_⟩⟩
        have hlt := H.old i b hb
        rw [T.get_set, if_neg (by omega)] at hc
        rw [W.old _ (H.oddApart j i bj b hbj hb hr' hne hod (.inr ⟨blk, hi⟩))]
        exact (h3 hr').2 hx c hc
      oddApart := fun j k bj bk hbj hbk hrj hne hod hc => H.oddApart j k bj bk hbj hbk hrj hne hod (hc.imp id fun ⟨ck, hk⟩ => get k ck hk) }

end
end Go.Proofs.YteicddmekhdjeaaGreatDoor.Eng

/- Stores, appends, copies. -/
namespace Go.Proofs.YteicddmekhdjeaaGreatDoor.Eng
variable [Syms]
open Go.RowKit (Below)

/-- What has become of names and memory behind an act that yields v. -/
def Post (σ : Names) (ro : Lo) (N : Nat) (w : World) (nx : Nat) (v : V) (h' : Heap) (nx' : Nat) (y : Value) (w' : World) : Prop :=
  nx ≤ nx' ∧ ∃ τ, More σ τ ∧ (∀ i, σ i = none → i < nx → τ i = none) ∧ v.rel τ y ∧ HRel τ ro N h' nx' w' ∧ Keep N w w'

section inv
variable {v : V} {u : V} {h : Heap} {n : Nat}
theorem O_ok {α : Type} {x : Option α} {why : List String} {c : α → CRes} (e : O x (.fail why) c = .ok u h n) : ∃ y, x = some y ∧ c y = .ok u h n := by
  cases x <;> first | exact ⟨_, rfl, e⟩ | cases e
theorem B_ok {b : Bool} {why : List String} {c : CRes} (e : B b c (.fail why) = .ok u h n) : b = true ∧ c = .ok u h n := by
  cases b <;> first | exact ⟨rfl, e⟩ | cases e
theorem onPtr_ok {why : List String} {c : Nat → Nat → CRes} (e : v.onPtr (.fail why) c = .ok u h n) : ∃ i o, v = .ptr i o ∧ c i o = .ok u h n := by
  cases v <;> first | exact ⟨_, _, rfl, e⟩ | cases e
theorem onSlice_ok {why : List String} {m : CRes} {c : Nat → Nat → Nat → Nat → Nat → CRes} (e : v.onSlice (.fail why) m c = .ok u h n) :
    (v = .nilslice ∧ m = .ok u h n) ∨ ∃ i o k p e', v = .slice i o k p e' ∧ c i o k p e' = .ok u h n := by
  cases v <;> first | exact .inl ⟨rfl, e⟩ | exact .inr ⟨_, _, _, _, _, rfl, e⟩ | cases e
theorem onFunc_ok {why : List String} {c : Fn → List V → List V → CRes} (e : v.onFunc (.fail why) c = .ok u h n) : ∃ f a b, v = .func f a b ∧ c f a b = .ok u h n := by
  cases v <;> first | exact ⟨_, _, _, rfl, e⟩ | cases e
theorem getsK_ok {b : T V} {m k : Nat} {why : List String} {c : List V → CRes} (e : T.getsK b m k c (.fail why) = .ok u h n) : ∃ l, T.gets b m k = some l ∧ c l = .ok u h n := by
  rw [T.getsK_eq] at e
  cases hl : T.gets b m k with
  | none => rw [hl] at e; cases e
  | some l => rw [hl] at e; exact ⟨l, rfl, e⟩
end inv

section
variable {P : Program} {σ : Names} {ro : Lo} {N nx : Nat} {h : Heap} {w : World}

theorem keeps_ok {b : T V} {m k : Nat} {l new : List V} (h : keeps l new = true) (hl : T.gets b m k = some l) : new.all isByte = true ∨ ∃ q u, b.get q = some u ∧ isByte u = false := by
  unfold keeps at h
  cases ha : new.all isByte with
  | true => exact .inl rfl
  | false =>
    rw [ha, B_false] at h
    have hf : l.all isByte = false := by cases hc : l.all isByte <;> simp_all
    rw [List.all_eq_false] at hf
    obtain ⟨u, hu, hb⟩ := hf
    obtain ⟨q, hq⟩ := List.getElem?_of_mem hu
    have hlt := (List.getElem?_eq_some_iff.1 hq).1
    obtain ⟨hll, hlg⟩ := T.gets_some b m k l hl
    exact .inr ⟨k + q, u, by rw [hlg q (by omega)]; exact hq, by simpa using hb⟩

theorem keepsB_ok {h : Heap} {i off : Nat} {old new : List V} {b : T V} (e : keepsB h i off old new = true) (hi : h.get i = some b) : keeps old new = true ∨ ∃ u, b.get off = some u ∧ isByte u = false := by
  unfold keepsB at e
  cases hk : keeps old new with
  | true => exact .inl rfl
  | false =>
    rw [hk, B_false, hi, O_some] at e
    cases hb : b.get off with
    | none => rw [hb] at e; cases e
    | some u =>
      rw [hb, O_some] at e
      refine .inr ⟨u, rfl, ?_⟩
      cases hu : isByte u with
      | false => rfl
      | true => rw [hu] at e; cases e

/-- A store through a named pointer. -/
theorem store_run {t : TypeId} {n : Nat} (hn : sizeOf? P t = some n) (H : HRel σ ro N h nx w) {a x u : V} {A X : Value} {h' : Heap} {nx' : Nat} (ha : a.rel σ A) (hx : x.rel σ X)
    (e : storeV ro n h nx a x = .ok u h' nx') : ∃ w', (Instr.storeAt t A X).run P w = .ok () w' ∧ Post σ ro N w nx u h' nx' undef w' := by
  obtain ⟨i, off, rfl, e2⟩ := onPtr_ok e
  obtain ⟨hro, e3⟩ := B_ok e2
  obtain ⟨blk, hi, e4⟩ := O_ok e3
  obtain ⟨hsz, e5⟩ := B_ok e4
  obtain ⟨hcells, e6⟩ := B_ok e5
  obtain ⟨l, hl, e7⟩ := getsK_ok e6
  obtain ⟨hkp, e7⟩ := B_ok e7
  rw [T.setsK_eq, T.setK_eq] at e7
  simp only [CRes.ok.injEq] at e7
  obtain ⟨rfl, rfl, rfl⟩ := e7
  rw [ble_iff] at hro
  rw [beq_iff] at hsz
  have hro : ro.ro ≤ i := by simpa using hro
  have hsz : x.cells.length = n := by simpa using hsz
  simp only [V.rel] at ha
  obtain ⟨b, hb, rfl⟩ := ha
  have hcl := rel_cells hx
  have hclen := hcl.length
  have hown := H.own i blk b hi hb hro
  obtain ⟨hll, hlg⟩ := T.gets_some blk n off l hl
  have hnot : ∀ z ∈ X.cells.toList, (∀ c, z ≠ .agg c) ∧ ∀ c, z ≠ .tuple c := by
    intro z hz
    obtain ⟨k, hk⟩ := List.getElem?_of_mem hz
    have hk' : k < x.cells.length := by
      have := (List.getElem?_eq_some_iff.1 hk).1; omega
    obtain ⟨y, hy, hr⟩ := hcl.get (List.getElem?_eq_getElem hk')
    rw [hk] at hy
    obtain rfl := Option.some.inj hy
    exact rel_isCell hr (List.all_eq_true.1 hcells _ (List.getElem_mem hk'))
  obtain ⟨w', hw', W⟩ := wrote_run (P := P) b.block X.cells.toList w (b.base + off) (b.base + off) 0 rfl hnot (fun p h1 h2 => by
    have hp : p - (b.base + off) < n := by omega
    have hg := hlg (p - (b.base + off)) hp
    obtain ⟨y, hy, -⟩ := H.cell i blk b hi hb (off + (p - (b.base + off))) _ (by rw [hg]; exact List.getElem?_eq_getElem (by omega))
    rw [show b.base + (off + (p - (b.base + off))) = p by omega] at hy
    refine ⟨⟨y, hy⟩, ?_⟩
    have := hown.2.2.2 (p - b.base) y (by rw [show b.base + (p - b.base) = p by omega]; exact hy)
    rwa [show b.base + (p - b.base) = p by omega] at this)
  refine ⟨w', ?_, Nat.le_refl _, σ, More.refl σ, fun _ hn _ => hn, by simp only [V.rel]; exact ⟨#[], rfl, relL_nil⟩, H.wrote hro hi hb W hcl (keeps_ok hkp hl), W.below hown.1⟩
  unfold Instr.storeAt
  simp only [Instr.sureAddr, Sem.run_bind, Sem.run_pure, Result.andThen_ok, storeVar, sizeOf_run hn]
  rw [if_neg (by rw [← Array.length_toList]; omega)]
  exact hw'

/-- The length that 'len' says of a slice or a string. -/
theorem lenOf_run {x : V} {X : Value} (hx : x.rel σ X) {n : Nat} (e : lenOf x = some n) (w : World) : (Builtin.lenOf X).run P w = .ok n w := by
  cases x with
  | nilslice => obtain rfl := Option.some.inj e; simp only [V.rel] at hx; subst hx; rfl
  | slice i off len cap es =>
    obtain rfl := Option.some.inj e
    simp only [V.rel] at hx
    obtain ⟨b, -, hx⟩ := hx
    rcases hx with ⟨-, -, rfl⟩ | ⟨-, o, c, -, -, -, rfl⟩ <;> rfl
  | str l =>
    obtain rfl := Option.some.inj e
    simp only [V.rel] at hx
    obtain ⟨s, rfl, hs⟩ := hx
    have : s.size = l.length := by rw [Lib.size_eq, hs]
    simp [Builtin.lenOf, this]
  | _ => cases e

theorem first_run (H : HRel σ ro N h nx w) {size n m : Nat} {x : V} {X : Value} (hx : x.rel σ X) (hm : lenOf x = some m) (hn : n ≤ m) {l : List V} (e : firstV h size n x = some l) :
    ∃ xs : List Value, (Builtin.firstCells size n X).run P w = .ok xs.toArray w ∧ relL σ l xs ∧ xs.length = n * size := by
  cases x with
  | nilslice =>
    obtain rfl := Option.some.inj e
    simp only [V.rel] at hx; subst hx
    obtain rfl := Option.some.inj hm
    have : n = 0 := by omega
    subst this
    exact ⟨[], rfl, relL_nil, by simp⟩
  | slice i off len cap es =>
    have e : O (h.get i) none (fun b => T.getsK b (Nat.mul n size) off some none) = some l := e
    obtain ⟨blk, hi, e2⟩ := O_some' e
    rw [T.getsK_eq] at e2
    obtain rfl := Option.some.inj hm
    cases hl : T.gets blk (Nat.mul n size) off with
    | none => rw [hl] at e2; cases e2
    | some l' =>
      rw [hl] at e2
      obtain rfl := Option.some.inj e2
      simp only [V.rel] at hx
      obtain ⟨b, hb, hx⟩ := hx
      obtain ⟨xs, hxl, hr, hrun, -⟩ := H.loads (P := P) hi hb hl
      have key : ∀ o, (0 < len → o = b.base + off) → (loadCells ⟨b.block, o, none⟩ (n * size)).run P w = .ok xs.toArray w := by
        intro o ho
        by_cases hz : n * size = 0
        · have hz' : Nat.mul n size = 0 := hz
          rw [hz'] at hxl
          have : xs = [] := List.eq_nil_of_length_eq_zero hxl
          subst this
          rw [hz]; rfl
        · have : 0 < n := Nat.pos_of_ne_zero (fun h0 => hz (by rw [h0, Nat.zero_mul]))
          rw [ho (by omega)]; exact hrun
      refine ⟨xs, ?_, hr, hxl⟩
      rcases hx with ⟨-, -, rfl⟩ | ⟨-, o, c, hlc, ho, -, rfl⟩
      · exact key _ (fun _ => rfl)
      · exact key _ (fun hp => ho (by omega))
  | str s =>
    have e : B (Nat.beq size 1) (forceL ((s.take n).map fun b => V.int .u8 (Int.ofNat b.toNat)) some) none = some l := e
    obtain ⟨e1, e2⟩ := B_some e
    rw [forceL_eq] at e2
    obtain rfl := Option.some.inj e2
    rw [beq_iff] at e1
    have e1 : size = 1 := by simpa using e1
    obtain rfl := Option.some.inj hm
    simp only [V.rel] at hx
    obtain ⟨B0, rfl, hs⟩ := hx
    refine ⟨(s.take n).map fun b => .int .u8 b.toNat, ?_, ?_, by simp [e1]; omega⟩
    · simp only [Builtin.firstCells, Sem.run_pure]
      congr 1
      apply Array.ext'
      rw [Array.toList_map, Lib.extract_data, hs]
      simp
    · generalize s.take n = s'
      induction s' with
      | nil => exact relL_nil
      | cons c cs ih => exact relL_cons (by simp only [V.rel]; rfl) ih
  | _ => cases e

theorem HRel.drew (H : HRel σ ro N h nx w) (d : Nat) : HRel σ ro N h nx { w with drawn := d } :=
  ⟨H.old, H.cell, H.own, H.apart, H.globals, H.low, H.lows, H.plain, H.whole, H.odd, H.oddApart⟩

theorem growBy_le (n : Nat) : ∀ (k c : Nat), Builtin.growBy n k c ≤ 3 ^ k * (c + 768)
  | 0, c => by simp [Builtin.growBy]
  | k + 1, c => by
    simp only [Builtin.growBy]
    split
    · have : 0 < 3 ^ (k + 1) := Nat.pow_pos (by decide)
      calc c ≤ c + 768 := by omega
        _ = 1 * (c + 768) := by omega
        _ ≤ 3 ^ (k + 1) * (c + 768) := Nat.mul_le_mul_right _ this
    · have h1 := growBy_le n k (c + (c + 768) / 4)
      have h2 : c + (c + 768) / 4 + 768 ≤ 3 * (c + 768) := by omega
      calc Builtin.growBy n k (c + (c + 768) / 4) ≤ 3 ^ k * (c + (c + 768) / 4 + 768) := h1
        _ ≤ 3 ^ k * (3 * (c + 768)) := Nat.mul_le_mul_left _ h2
        _ = 3 ^ (k + 1) * (c + 768) := by rw [Nat.pow_succ, Nat.mul_assoc]

theorem nextslicecap_le (need cap : Nat) (h1 : need ≤ 2000000) (h2 : cap < need) : Builtin.nextslicecap need cap ≤ 200000000 := by
  have h3 := growBy_le need 4 cap
  have h4 : (3 : Nat) ^ 4 * (cap + 768) ≤ 81 * 2000768 := Nat.mul_le_mul (by decide) (by omega)
  have key : ∀ k, k ≤ 162062208 → k ≤ 200000000 := fun k hk => Nat.le_trans hk (by decide)
  refine key _ ?_
  unfold Builtin.nextslicecap
  by_cases c1 : need > 2 * cap
  · rw [if_pos c1]; exact Nat.le_trans h1 (by decide)
  · rw [if_neg c1]
    by_cases c2 : cap < 256
    · rw [if_pos c2]; exact Nat.le_trans (Nat.mul_le_mul_left 2 (Nat.le_of_lt c2)) (by decide)
    · rw [if_neg c2]; exact Nat.le_trans h3 (Nat.le_trans h4 (by decide))

section append
variable {st xt e ty : TypeId} {ts : Array TypeId} {info : TypeInfo}

theorem append_fits (h0 : ts[0]? = some st) (h1 : ts[1]? = some xt) (hu : P.underlying st = some (.slice e)) (hx : isInt? P xt = some false) (hi : P.info? e = some info) {base : Option Addr} {sl sc n : Nat} {X : Value} {new : Array Value} {w w' : World}
    (hn : (Builtin.lenOf X).run P w = .ok n w) (hneed : sl + n ≤ sc) (hnew : (Builtin.firstCells info.size n X).run P w = .ok new w)
    (hst : ∀ a, base = some a → (storeCells (a.add (sl * info.size)) new.toList).run P w = .ok () w') (hnone : base = none → w' = w) :
    (Builtin.append_ ts ty #[.slice base sl sc, X]).run P w = .ok (.slice base (sl + n) sc) w' := by
  have hs : sizeOf? P e = some info.size := by simp [sizeOf?, hi]
  have hxt : ∃ d, P.underlying xt = some d ∧ ∀ k, d ≠ .int k := by
    unfold isInt? at hx
    split at hx
    · cases hx
    · rename_i d hne hd
      exact ⟨d, hd, fun k e => hne k e⟩
    · cases hx
  obtain ⟨d, hd, hne⟩ := hxt
  unfold Builtin.append_
  simp only [h0, h1, List.getElem?_toArray, List.getElem?_cons_zero, List.getElem?_cons_succ, Sem.run_bind, under_run hu, Result.andThen_ok, sizeOf_run hs, under_run hd]
  have hm : (match d with | .int _ => true | _ => false) = false := by cases d <;> first | rfl | exact absurd rfl (hne _)
  simp only [Sem.run_pure, Result.andThen_ok, Bool.false_eq_true, if_false, hn, Bool.not_false, if_true, Sem.run_bind]
  rw [if_pos hneed]
  cases base with
  | none =>
    obtain rfl := hnone rfl
    simp only [Sem.run_bind, hnew, Result.andThen_ok, Sem.run_pure]
  | some a =>
    simp only [Sem.run_bind, hnew, Result.andThen_ok, hst a rfl, Sem.run_pure]

theorem append_grows (h0 : ts[0]? = some st) (h1 : ts[1]? = some xt) (hu : P.underlying st = some (.slice e)) (hx : isInt? P xt = some false) (hi : P.info? e = some info) (hb : info.bytes ≤ 100000) {base : Option Addr} {sl sc n : Nat} {X : Value} {old new : Array Value} {z : Value} {w : World}
    (hn : (Builtin.lenOf X).run P w = .ok n w) (hneed : sc < sl + n) (hmax : sl + n ≤ 2000000) (hz : ∀ w, (zeroValue e).run P w = .ok z w)
    (hold : (Builtin.firstCells info.size sl (.slice base sl sc)).run P { w with drawn := w.drawn + 1 } = .ok old { w with drawn := w.drawn + 1 })
    (hnew : (Builtin.firstCells info.size n X).run P { w with drawn := w.drawn + 1 } = .ok new { w with drawn := w.drawn + 1 }) :
    ∃ c, sl + n ≤ c ∧ (Builtin.append_ ts ty #[.slice base sl sc, X]).run P w =
      .ok (.slice (some ⟨w.heap.size, 0, none⟩) (sl + n) c) { w with drawn := w.drawn + 1, heap := w.heap.push (.cells (old ++ new ++ Builtin.zeroCells z.cells (c - (sl + n))) e) } := by
  have hs : sizeOf? P e = some info.size := by simp [sizeOf?, hi]
  have hxt : ∃ d, P.underlying xt = some d ∧ ∀ k, d ≠ .int k := by
    unfold isInt? at hx
    split at hx
    · cases hx
    · rename_i d hne hd
      exact ⟨d, hd, fun k e => hne k e⟩
    · cases hx
  obtain ⟨d, hd, hne⟩ := hxt
  have hm : (match d with | .int _ => true | _ => false) = false := by cases d <;> first | rfl | exact absurd rfl (hne _)
  refine ⟨(Question.appendCap (sl + n) sc e).cut (w.tape w.drawn (.appendCap (sl + n) sc e)), by simp only [Question.cut]; omega, ?_⟩
  generalize hc : (Question.appendCap (sl + n) sc e).cut (w.tape w.drawn (.appendCap (sl + n) sc e)) = c
  have hch : (choose (.appendCap (sl + n) sc e)).run P w = .ok c { w with drawn := w.drawn + 1 } := by
    rw [run_choose]
    simp only [Question.forced, Bool.false_eq_true, if_false, hc]
  have hlim : ¬ (Builtin.nextslicecap (sl + n) sc * info.bytes > 2 ^ 48) := by
    have := nextslicecap_le (sl + n) sc hmax hneed
    have : Builtin.nextslicecap (sl + n) sc * info.bytes ≤ 200000000 * 100000 := Nat.mul_le_mul this hb
    omega
  unfold Builtin.append_
  simp only [h0, h1, List.getElem?_toArray, List.getElem?_cons_zero, List.getElem?_cons_succ, Sem.run_bind, under_run hu, Result.andThen_ok, sizeOf_run hs, under_run hd]
  simp only [Sem.run_pure, Result.andThen_ok, Bool.false_eq_true, if_false, hn, Bool.not_false, if_true, Sem.run_bind]
  rw [if_neg (by omega)]
  simp only [Sem.run_bind, info_run hi, Result.andThen_ok]
  rw [if_neg (by
    have : IntKind.i64.max = 9223372036854775807 := rfl
    rw [this]; omega)]
  simp only [Sem.run_bind, info_run hi, Result.andThen_ok]
  rw [if_neg hlim]
  simp only [Sem.run_bind, hch, Result.andThen_ok, info_run hi, run_askRoom, hold, hnew, hz, new_run, Sem.run_pure]

end append

end
end Go.Proofs.YteicddmekhdjeaaGreatDoor.Eng

/- append and copy, all ways. -/
namespace Go.Proofs.YteicddmekhdjeaaGreatDoor.Eng
variable [Syms]
open Go.RowKit (Below)

section
variable {P : Program} {σ : Names} {ro : Lo} {N nx : Nat} {h : Heap} {w : World}

theorem sets_get (l : List V) {o : Nat} {v : V} (ho : (T.sets l .nil 0).get o = some v) : l[o]? = some v := by
  rw [T.get_sets] at ho
  by_cases h : 0 ≤ o ∧ o < 0 + l.length
  · rw [if_pos h] at ho; simpa using ho
  · rw [if_neg h, T.get_nil] at ho; cases ho

/-- The slice that lies in a new block. -/
theorem grown_post {e : TypeId} {size n c : Nat} {l : List V} {xs : List Value} {C : Array Value} {u : V} {h' h0 : Heap} {nx' : Nat}
    (H : HRel σ ro N h nx w) (hh : ∀ i blk, h0.get i = some blk → h.get i = some blk) (hrn : ro.ro ≤ nx)
    (eg : grown size n l h0 nx = .ok u h' nx') (hs : 0 < size) (hr : relL σ l xs) (hC : ∀ (k : Nat) (x : Value), xs[k]? = some x → C[k]? = some x) (hcs : c * size ≤ C.size) (hnc : n ≤ c)
    (d : Nat) : Post σ ro N w nx u h' nx' (.slice (some ⟨w.heap.size, 0, none⟩) n c) { w with drawn := d, heap := w.heap.push (.cells C e) } := by
  unfold grown at eg
  rw [T.setsK_eq, T.setK_eq, mkSlice_eq, O_some] at eg
  simp only [CRes.ok.injEq] at eg
  obtain ⟨rfl, rfl, rfl⟩ := eg
  have hnone : σ nx = none := by
    cases hc : σ nx with
    | none => rfl
    | some b => exact absurd (H.old nx b hc) (Nat.lt_irrefl _)
  have M : Made w { w with drawn := d, heap := w.heap.push (.cells C e) } C :=
    have m := made_push w C e
    ⟨m.size, m.old, m.cell, m.free, m.plain, m.whole, m.os, m.tape, m.output⟩
  have H1 : HRel σ ro N h0 nx w := H.fewer (Nat.le_refl _) (fun i blk _ hi => ⟨blk, hh i blk hi, fun _ _ h => h⟩) fun _ i blk hi => hh _ blk hi
  have H2 := H1.unnamed (T.sets l .nil 0)
  have H3 := H2.named (i := nx) (blk := T.sets l .nil 0) (Nat.lt_succ_self _) hrn hnone (by rw [T.get_set, if_pos rfl]) M (fun o v ho => by
    obtain ⟨x, hx, hv⟩ := hr.get (sets_get l ho)
    exact ⟨x, hC o x hx, hv⟩)
  refine ⟨Nat.le_succ _, _, upd_more hnone, fun i hi hlt => by unfold upd; rw [if_neg (by omega)]; exact hi, ?_, H3, M.below H.low⟩
  simp only [V.rel]
  exact ⟨_, upd_same _ _ _, .inr ⟨by omega, 0, c, hnc, fun _ => rfl, by show 0 + c * size ≤ C.size; omega, rfl⟩⟩

theorem zeroCells_size (z : Array Value) (n : Nat) : (Builtin.zeroCells z n).size = n * z.size := by simp [Builtin.zeroCells]

/-- A slice of unknown capacity is written behind its end: its cells have a new name. -/
theorem HRel.onto (H : HRel σ ro N h nx w) {i off m : Nat} {blk : T V} {b : BI} {w' : World} {vs : List V} {old ys xs : List Value} (hrn : ro.ro ≤ nx) (hr : ro.ro ≤ i) (hi : h.get i = some blk) (hb : σ i = some b)
    (W : Wrote w w' b.block (b.base + off + m) xs) (hm : old.length = m) (hcell : ∀ (k : Nat) (x : Value), old[k]? = some x → w.cell? ⟨b.block, b.base + off + k, none⟩ = some x)
    (hys : ys = old ++ xs) (hv : relL σ vs ys) (hkp : vs.all isByte = true ∨ ∃ q u, blk.get q = some u ∧ isByte u = false) :
    HRel (upd σ nx ⟨b.block, b.base + off, b.size - off, .no⟩) ro N ((h.set none i).set (some (T.sets vs .nil 0)) nx) (nx + 1) w' := by
  have hnone : σ nx = none := by
    cases hc : σ nx with
    | none => rfl
    | some b => exact absurd (H.old nx b hc) (Nat.lt_irrefl _)
  have hix : i < nx := H.old i b hb
  obtain ⟨hN, hlt, hsz, hfz⟩ := H.own i blk b hi hb hr
  have get : ∀ j cj, j ≠ nx → ((h.set none i).set (some (T.sets vs .nil 0)) nx).get j = some cj → j ≠ i ∧ h.get j = some cj := by
    intro j cj hj hg
    rw [T.get_set, if_neg hj, T.get_set] at hg
    by_cases e : j = i
    · rw [if_pos e] at hg; cases hg
    · rw [if_neg e] at hg; exact ⟨e, hg⟩
  have hself : ((h.set none i).set (some (T.sets vs .nil 0)) nx).get nx = some (T.sets vs .nil 0) := by rw [T.get_set, if_pos rfl]
  exact
    { old := fun j bj hbj => by
        unfold upd at hbj
        by_cases e : j = nx
        · omega
        · rw [if_neg e] at hbj; exact Nat.lt_succ_of_lt (H.old j bj hbj)
      cell := fun j cj bj hj hbj o v ho => by
        unfold upd at hbj
        by_cases e : j = nx
        · subst e
          rw [if_pos rfl] at hbj
          obtain rfl := Option.some.inj hbj
          rw [hself] at hj
          obtain rfl := Option.some.inj hj
          obtain ⟨x, hx, hr⟩ := hv.get (sets_get vs ho)
          refine ⟨x, ?_, hr.more (upd_more hnone)⟩
          show w'.cell? ⟨b.block, b.base + off + o, none⟩ = some x
          rw [W.cell]
          rw [hys] at hx
          by_cases hlo : o < m
          · rw [if_neg (by omega)]
            rw [List.getElem?_append_left (by omega)] at hx
            exact hcell o x hx
          · rw [List.getElem?_append_right (by omega)] at hx
            have : o - old.length < xs.length := (List.getElem?_eq_some_iff.1 hx).1
            rw [if_pos (by omega)]
            rw [show b.base + off + o - (b.base + off + m) = o - old.length by omega]
            exact hx
        · rw [if_neg e] at hbj
          obtain ⟨hne, hj'⟩ := get j cj e hj
          obtain ⟨x, hx, hr'⟩ := H.cell j cj bj hj' hbj o v ho
          have hnb : bj.block ≠ b.block := fun e3 => H.apart i j b bj blk cj hi hj' hb hbj hr (fun e4 => hne e4.symm) e3.symm
          exact ⟨x, by rw [cell_of_block (W.old _ hnb)]; exact hx, hr'.more (upd_more hnone)⟩
      own := fun j cj bj hj hbj hrj => by
        unfold upd at hbj
        by_cases e : j = nx
        · subst e
          rw [if_pos rfl] at hbj
          obtain rfl := Option.some.inj hbj
          refine ⟨hN, by rw [W.size]; exact hlt, fun o ho => ?_, fun o x hx => ?_⟩
          · simp only at ho ⊢
            rw [W.cell]
            by_cases h5 : b.base + off + m ≤ b.base + off + o ∧ b.base + off + o < b.base + off + m + xs.length
            · rw [if_pos h5]
              exact ⟨xs[b.base + off + o - (b.base + off + m)]'(by omega), List.getElem?_eq_getElem _⟩
            · rw [if_neg h5]
              have := hsz (off + o) (by omega)
              rwa [← Nat.add_assoc] at this
          · simp only at hx ⊢
            rw [W.frozen]
            rw [W.cell] at hx
            by_cases h5 : b.base + off + m ≤ b.base + off + o ∧ b.base + off + o < b.base + off + m + xs.length
            · obtain ⟨y, hy⟩ := W.there _ h5.1 h5.2
              have := hfz (off + o) y (by rw [← Nat.add_assoc]; exact hy)
              rwa [← Nat.add_assoc] at this
            · rw [if_neg h5] at hx
              have := hfz (off + o) x (by rw [← Nat.add_assoc]; exact hx)
              rwa [← Nat.add_assoc] at this
        · rw [if_neg e] at hbj
          obtain ⟨hne, hj'⟩ := get j cj e hj
          obtain ⟨h1, h2, h3, h4⟩ := H.own j cj bj hj' hbj hrj
          have hnb : bj.block ≠ b.block := fun e3 => H.apart i j b bj blk cj hi hj' hb hbj hr (fun e4 => hne e4.symm) e3.symm
          refine ⟨h1, by rw [W.size]; exact h2, fun o ho => ?_, fun o x hx => ?_⟩
          · obtain ⟨x, hx⟩ := h3 o ho
            exact ⟨x, by rw [cell_of_block (W.old _ hnb)]; exact hx⟩
          · rw [W.frozen]
            rw [cell_of_block (W.old _ hnb)] at hx
            exact h4 o x hx
      apart := fun j k bj bk cj ck hj hk hbj hbk hrj hne => by
        unfold upd at hbj hbk
        by_cases e : j = nx
        · subst e
          rw [if_pos rfl] at hbj
          obtain rfl := Option.some.inj hbj
          rw [if_neg (fun e => hne e.symm)] at hbk
          obtain ⟨hni, hk'⟩ := get k ck (fun e => hne e.symm) hk
          exact H.apart i k b bk blk ck hi hk' hb hbk hr (fun e => hni e.symm)
        · rw [if_neg e] at hbj
          obtain ⟨hni, hj'⟩ := get j cj e hj
          by_cases e2 : k = nx
          · subst e2
            rw [if_pos rfl] at hbk
            obtain rfl := Option.some.inj hbk
            exact H.apart j i bj b cj blk hj' hi hbj hb hrj hni
          · rw [if_neg e2] at hbk
            obtain ⟨-, hk'⟩ := get k ck e2 hk
            exact H.apart j k bj bk cj ck hj' hk' hbj hbk hrj hne
      globals := fun g hg => by
        obtain ⟨b', h1, h2⟩ := H.globals g hg
        exact ⟨b', upd_more hnone g b' h1, h2⟩
      low := by rw [W.size]; exact H.low
      lows := fun j cj b' hj hb' hr' => by
        unfold upd at hb'
        rw [if_neg (by omega)] at hb'
        exact H.lows j cj b' (get j cj (by omega) hj).2 hb' hr'
      whole := fun j cj bj hj hbj hrj c e' lo hi' hc' => by
        obtain ⟨c1, h1, h2⟩ := W.obj _ c e' _ hc'
        rw [← h2]
        unfold upd at hbj
        by_cases e : j = nx
        · subst e
          rw [if_pos rfl] at hbj
          obtain rfl := Option.some.inj hbj
          exact H.whole i blk b hi hb hr c1 e' lo hi' h1
        · rw [if_neg e] at hbj
          exact H.whole j cj bj (get j cj e hj).2 hbj hrj c1 e' lo hi' h1
      plain := fun j cj bj o v hj hbj hrj ho hv' p => by
        rw [W.frozen]
        unfold upd at hbj
        by_cases e : j = nx
        · subst e
          rw [if_pos rfl] at hbj
          obtain rfl := Option.some.inj hbj
          rw [hself] at hj
          obtain rfl := Option.some.inj hj
          rcases hkp with hk | ⟨q, u', hq, hu'⟩
          · have := List.all_eq_true.1 hk v (List.mem_of_getElem? (sets_get vs ho))
            rw [hv'] at this; cases this
          · exact H.plain i blk b q u' hi hb hr hq hu' p
        · rw [if_neg e] at hbj
          exact H.plain j cj bj o v (get j cj e hj).2 hbj hrj ho hv' p
      odd := fun j bj hbj hod => by
        unfold upd at hbj
        by_cases e : j = nx
        · subst e
          rw [if_pos rfl] at hbj
          obtain rfl := Option.some.inj hbj
          cases hod
        · rw [if_neg e] at hbj
          obtain ⟨h1, h2, h3⟩ := H.odd j bj hbj hod
          have hne : j ≠ i := fun e => by subst e; rw [h1] at hi; cases hi
          refine ⟨by rw [T.get_set, if_neg e, T.get_set, if_neg hne]; exact h1, by rw [W.size]; exact h2, fun hr' => ⟨(h3 hr').1, fun hx c hc => ?_⟩⟩
          rw [T.get_set, if_neg (by omega), T.get_set, if_neg (by omega)] at hc
          rw [W.old _ (H.oddApart j i bj b hbj hb hr' hne hod (.inr ⟨blk, hi⟩))]
          exact ((h3 hr').2 (by omega) c hc).more (upd_more hnone)
      oddApart := fun j k bj bk hbj hbk hrj hne hod hc => by
        unfold upd at hbj hbk
        by_cases e : j = nx
        · subst e
          rw [if_pos rfl] at hbj
          obtain rfl := Option.some.inj hbj
          cases hod
        · rw [if_neg e] at hbj
          have hni : j ≠ i := fun e => by subst e; rw [(H.odd j bj hbj hod).1] at hi; cases hi
          by_cases e2 : k = nx
          · subst e2
            rw [if_pos rfl] at hbk
            obtain rfl := Option.some.inj hbk
            exact H.oddApart j i bj b hbj hb hrj hni hod (.inr ⟨blk, hi⟩)
          · rw [if_neg e2] at hbk
            exact H.oddApart j k bj bk hbj hbk hrj hne hod (hc.imp id fun ⟨ck, hk⟩ => ⟨ck, (get k ck e2 hk).2⟩) }

theorem not_agg {l : List V} {xs : List Value} (h : relL σ l xs) (hc : ∀ v ∈ l, V.isCell v = true) : ∀ z ∈ xs, (∀ c, z ≠ .agg c) ∧ ∀ c, z ≠ .tuple c := by
  intro z hz
  obtain ⟨k, hk⟩ := List.getElem?_of_mem hz
  have hk' : k < l.length := by
    have := (List.getElem?_eq_some_iff.1 hk).1
    rw [h.length] at this; exact this
  obtain ⟨y, hy, hr⟩ := h.get (List.getElem?_eq_getElem hk')
  rw [hk] at hy
  obtain rfl := Option.some.inj hy
  exact rel_isCell hr (hc _ (List.getElem_mem hk'))

end
end Go.Proofs.YteicddmekhdjeaaGreatDoor.Eng

/- append, copy: all ways together. -/
namespace Go.Proofs.YteicddmekhdjeaaGreatDoor.Eng
variable [Syms]
open Go.RowKit (Below)

section
variable {P : Program} {σ : Names} {ro : Lo} {N nx : Nat} {h : Heap} {w : World}

theorem zero_any {e : TypeId} {z : V} (hz : zero? P e = some z) : ∃ x, (∀ w, (zeroValue e).run P w = .ok x w) ∧ relL σ z.cells x.cells.toList := by
  unfold zero? at hz
  obtain ⟨i, hi, h1⟩ := O_some' hz
  obtain ⟨x, hx, h2⟩ := O_some' h1
  exact ⟨x, fun w => by simp [zeroValue, typeInfo, hi, hx], rel_cells (constV_rel h2)⟩

theorem append_run {st xt e ty : TypeId} {ts : Array TypeId} {info : TypeInfo} {z : V} (h0 : ts[0]? = some st) (h1 : ts[1]? = some xt) (hu : P.underlying st = some (.slice e)) (hx' : isInt? P xt = some false) (hi : P.info? e = some info) (hzz : zero? P e = some z)
    (hs0 : 0 < info.size) (hb0 : info.bytes ≤ 100000) (hz0 : z.cells.length = info.size) (hrn : ro.ro ≤ nx) (H : HRel σ ro N h nx w) {s x u : V} {S X : Value} {h' : Heap} {nx' : Nat} (hs : s.rel σ S) (hx : x.rel σ X)
    (ea : appendV ro info.size h nx s x = .ok u h' nx') : ∃ Y w', (Builtin.append_ ts ty #[S, X]).run P w = .ok Y w' ∧ Post σ ro N w nx u h' nx' Y w' := by
  unfold appendV at ea
  obtain ⟨n, hn, e1⟩ := O_ok ea
  obtain ⟨new, hnew, e2⟩ := O_ok e1
  obtain ⟨hc1, e3⟩ := B_ok e2
  rw [andB_eq, Bool.and_eq_true, ble_iff] at hc1
  obtain ⟨hn1, hcells⟩ := hc1
  have hn1 : n ≤ 1000000 := by simpa using hn1
  have hcells' : ∀ v ∈ new, V.isCell v = true := fun v hv => List.all_eq_true.1 hcells v hv
  obtain ⟨zx, hzx, hzr⟩ := zero_any (σ := σ) hzz
  have hzs : zx.cells.size = info.size := by rw [← Array.length_toList, hzr.length, hz0]
  have hlen := lenOf_run (P := P) hx hn w
  -- the new cells, here and behind a draw
  obtain ⟨xs, hxs, hxr, hxl⟩ := first_run (P := P) H hx hn (Nat.le_refl n) hnew
  obtain ⟨xs2, hxs2, hxr2, hxl2⟩ := first_run (P := P) (H.drew (w.drawn + 1)) hx hn (Nat.le_refl n) hnew
  have grow : ∀ {base : Option Addr} {sl sc : Nat} {old : List V} {os : List Value} {h0 : Heap} (l : List V), sc < sl + n → sl ≤ 1000000 →
      (Builtin.firstCells info.size sl (.slice base sl sc)).run P { w with drawn := w.drawn + 1 } = .ok os.toArray { w with drawn := w.drawn + 1 } → relL σ old os → os.length = sl * info.size → l = old ++ new →
      (∀ i blk, h0.get i = some blk → h.get i = some blk) → grown info.size (sl + n) l h0 nx = .ok u h' nx' →
      ∃ Y w', (Builtin.append_ ts ty #[.slice base sl sc, X]).run P w = .ok Y w' ∧ Post σ ro N w nx u h' nx' Y w' := by
    intro base sl sc old os h0' l hlt hsl hold hor hol hl hh eg
    obtain ⟨c, hc, hrun⟩ := append_grows (ty := ty) h0 h1 hu hx' hi hb0 (base := base) hlen hlt (by omega) hzx hold hxs2
    refine ⟨_, _, hrun, grown_post (xs := os ++ xs2) H hh hrn eg hs0 (by rw [hl]; exact hor.append hxr2) ?_ ?_ hc _⟩
    · intro k y hk
      have hk' : k < (os ++ xs2).length := (List.getElem?_eq_some_iff.1 hk).1
      rw [Array.getElem?_append_left (by simp at hk' ⊢; exact hk')]
      simpa using hk
    · have e5 : (c - (sl + n)) * info.size + (sl + n) * info.size = c * info.size := by rw [← Nat.add_mul]; congr 1; omega
      have e6 : (sl + n) * info.size = sl * info.size + n * info.size := Nat.add_mul _ _ _
      simp only [Array.size_append, zeroCells_size, hzs, List.size_toArray, hol, hxl2]
      omega
  rcases onSlice_ok e3 with ⟨rfl, e4⟩ | ⟨i, off, len, cap, es, rfl, e4⟩
  · simp only [V.rel] at hs
    subst hs
    cases n with
    | zero =>
      have e4 : CRes.ok V.nilslice h nx = .ok u h' nx' := e4
      simp only [CRes.ok.injEq] at e4
      obtain ⟨rfl, rfl, rfl⟩ := e4
      exact ⟨.slice none 0 0, w, append_fits (ty := ty) h0 h1 hu hx' hi hlen (Nat.le_refl 0) hxs (fun a ha => by cases ha) (fun _ => rfl), Nat.le_refl _, σ, More.refl σ, fun _ hh _ => hh, by simp only [V.rel], H, Keep.refl _ _⟩
    | succ n =>
      have e4 : grown info.size (n + 1) new h nx = .ok u h' nx' := e4
      exact grow (base := none) (sl := 0) (sc := 0) (old := []) (os := []) (h0 := h) new (by omega) (by omega) rfl relL_nil (by simp) rfl (fun _ _ hh => hh) (by simpa using e4)
  · obtain ⟨hl1, e5⟩ := B_ok e4
    rw [ble_iff] at hl1
    have hl1 : len ≤ 1000000 := by simpa using hl1
    have hs' := hs
    simp only [V.rel] at hs
    obtain ⟨b, hb, hs⟩ := hs
    cases es with
    | zero =>
      rcases hs with ⟨-, hlc, rfl⟩ | ⟨hne, -⟩
      · have e5 : B (Nat.ble (Nat.add len n) cap)
              (B (Nat.ble ro.ro i)
                (O (h.get i) (.fail ["append block"]) fun b =>
                  T.getsK b (Nat.mul n info.size) (Nat.add off (Nat.mul len info.size))
                    (fun l => B (keeps l new) (T.setsK new b (Nat.add off (Nat.mul len info.size)) fun b => h.setK (some b) i fun h =>
                      O (mkSlice i off (Nat.add len n) cap 0) (.fail ["append"]) fun v => CRes.ok v h nx) (.fail ["append kind"]))
                    (.fail ["append room"]))
                (.fail ["append not its own"]))
              (O (firstV h info.size len (.slice i off len cap 0)) (.fail ["append old"]) fun old => grown info.size (Nat.add len n) (old ++ new) h nx) = .ok u h' nx' := e5
        rw [ble_iff] at e5
        by_cases hfit : len + n ≤ cap
        · have hfit' : Nat.add len n ≤ cap := hfit
          rw [decide_eq_true hfit', B_true] at e5
          obtain ⟨hro, e6⟩ := B_ok e5
          obtain ⟨blk, hi', e7⟩ := O_ok e6
          obtain ⟨l, hl, e8⟩ := getsK_ok e7
          obtain ⟨hkp, e8⟩ := B_ok e8
          rw [T.setsK_eq, T.setK_eq, mkSlice_eq, O_some] at e8
          simp only [CRes.ok.injEq] at e8
          obtain ⟨rfl, rfl, rfl⟩ := e8
          rw [ble_iff] at hro
          have hro : ro.ro ≤ i := by simpa using hro
          have hown := H.own i blk b hi' hb hro
          obtain ⟨hll, hlg⟩ := T.gets_some blk _ _ l hl
          have hxl' : xs.length = n * info.size := hxl
          obtain ⟨w', hw', W⟩ := wrote_run (P := P) b.block xs w (b.base + off + len * info.size) (b.base + off + len * info.size) 0 rfl (not_agg hxr hcells') (fun p h1 h2 => by
            have hp : p - (b.base + off + len * info.size) < Nat.mul n info.size := by show _ < n * info.size; omega
            have hg := hlg (p - (b.base + off + len * info.size)) hp
            obtain ⟨y, hy, -⟩ := H.cell i blk b hi' hb (Nat.add off (Nat.mul len info.size) + (p - (b.base + off + len * info.size))) _ (by rw [hg]; exact List.getElem?_eq_getElem (by omega))
            rw [show b.base + (Nat.add off (Nat.mul len info.size) + (p - (b.base + off + len * info.size))) = p by show b.base + (off + len * info.size + _) = p; omega] at hy
            refine ⟨⟨y, hy⟩, ?_⟩
            have := hown.2.2.2 (p - b.base) y (by rw [show b.base + (p - b.base) = p by omega]; exact hy)
            rwa [show b.base + (p - b.base) = p by omega] at this)
          have W' : Wrote w w' b.block (b.base + Nat.add off (Nat.mul len info.size)) xs := by
            have : b.base + Nat.add off (Nat.mul len info.size) = b.base + off + len * info.size := by show b.base + (off + len * info.size) = _; omega
            rw [this]; exact W
          refine ⟨.slice (some ⟨b.block, b.base + off, none⟩) (len + n) cap, w', append_fits (ty := ty) h0 h1 hu hx' hi hlen hfit hxs (fun a ha => by
            obtain rfl := Option.some.inj ha
            rw [addr_add]; exact hw') (fun hc => by cases hc), Nat.le_refl _, σ, More.refl σ, fun _ hh _ => hh, ?_, H.wrote hro hi' hb W' hxr (keeps_ok hkp hl), W.below hown.1⟩
          simp only [V.rel]
          exact ⟨b, hb, .inl ⟨by trivial, hfit, rfl⟩⟩
        · have hfit' : ¬ Nat.add len n ≤ cap := hfit
          rw [decide_eq_false hfit', B_false] at e5
          obtain ⟨old, hold, e6⟩ := O_ok e5
          obtain ⟨os, hos, hor, hol⟩ := first_run (P := P) (H.drew (w.drawn + 1)) hs' (m := len) rfl (Nat.le_refl len) hold
          exact grow (h0 := h) (old ++ new) (by omega) hl1 hos hor hol rfl (fun _ _ hh => hh) e6
      · exact absurd rfl hne
    | succ es =>
      have e5 : Eng.N n (CRes.ok (.slice i off len cap (es + 1)) h nx) (fun _ =>
              B (Nat.beq (es + 1) info.size)
                (B (Nat.ble ro.ro i)
                  (O (firstV h info.size len (.slice i off len cap (es + 1))) (.fail ["append old"]) fun old => B (keepsB h i off old new) (h.setK none i fun h => grown info.size (Nat.add len n) (old ++ new) h nx) (.fail ["append kind"]))
                  (.fail ["append not its own"]))
                (.fail ["append size"])) = .ok u h' nx' := e5
      rcases hs with ⟨he, -⟩ | ⟨-, o, c, hlc, ho, hsz, rfl⟩
      · cases he
      · cases n with
        | zero =>
          have e6 : CRes.ok (.slice i off len cap (es + 1)) h nx = .ok u h' nx' := e5
          simp only [CRes.ok.injEq] at e6
          obtain ⟨rfl, rfl, rfl⟩ := e6
          have hxe : xs = [] := List.eq_nil_of_length_eq_zero (by rw [hxl]; simp)
          refine ⟨.slice (some ⟨b.block, o, none⟩) (len + 0) c, w, append_fits (ty := ty) h0 h1 hu hx' hi hlen (by omega) hxs (fun a _ => by subst hxe; rfl) (fun _ => rfl), Nat.le_refl _, σ, More.refl σ, fun _ hh _ => hh, hs', H, Keep.refl _ _⟩
        | succ n =>
          have e6 : B (Nat.beq (es + 1) info.size)
                (B (Nat.ble ro.ro i)
                  (O (firstV h info.size len (.slice i off len cap (es + 1))) (.fail ["append old"]) fun old => B (keepsB h i off old new) (h.setK none i fun h => grown info.size (Nat.add len (n + 1)) (old ++ new) h nx) (.fail ["append kind"]))
                  (.fail ["append not its own"]))
                (.fail ["append size"]) = .ok u h' nx' := e5
          obtain ⟨hes, e7⟩ := B_ok e6
          obtain ⟨hro, e8⟩ := B_ok e7
          obtain ⟨old, hold, e9⟩ := O_ok e8
          obtain ⟨hkp, e9⟩ := B_ok e9
          rw [T.setK_eq] at e9
          rw [beq_iff] at hes
          rw [ble_iff] at hro
          have hes : es + 1 = info.size := by simpa using hes
          have hro : ro.ro ≤ i := by simpa using hro
          by_cases hfit : len + (n + 1) ≤ c
          · -- there was room: the cells lie where they lay
            have hoff := ho (by omega)
            subst hoff
            obtain ⟨os, hos, hor, hol⟩ := first_run (P := P) H hs' (m := len) rfl (Nat.le_refl len) hold
            have hold' : O (h.get i) none (fun b => T.getsK b (Nat.mul len info.size) off some none) = some old := hold
            obtain ⟨blk, hi', hg'⟩ := O_some' hold'
            have hown := H.own i blk b hi' hb hro
            have hroom : len * info.size + (n + 1) * info.size ≤ c * info.size := by rw [← Nat.add_mul]; exact Nat.mul_le_mul_right _ hfit
            have hsz' : off + c * info.size ≤ b.size := by rw [← hes]; exact hsz
            obtain ⟨w', hw', W⟩ := wrote_run (P := P) b.block xs w (b.base + off + len * info.size) (b.base + off + len * info.size) 0 rfl (not_agg hxr hcells') (fun p h1 h2 => by
              obtain ⟨y, hy⟩ := hown.2.2.1 (p - b.base) (by omega)
              have hf := hown.2.2.2 (p - b.base) y hy
              rw [show b.base + (p - b.base) = p by omega] at hy hf
              exact ⟨⟨y, hy⟩, hf⟩)
            have hcell : ∀ (k : Nat) (y : Value), os[k]? = some y → w.cell? ⟨b.block, b.base + off + k, none⟩ = some y := by
              rw [T.getsK_eq] at hg'
              cases hl : T.gets blk (Nat.mul len info.size) off with
              | none => rw [hl] at hg'; cases hg'
              | some l =>
                rw [hl] at hg'
                obtain ⟨zs, hzl, hzr', hzrun, hzc⟩ := H.loads (P := P) hi' hb hl
                have hos' : (loadCells ⟨b.block, b.base + off, none⟩ (len * info.size)).run P w = .ok os.toArray w := hos
                have hzrun' : (loadCells ⟨b.block, b.base + off, none⟩ (len * info.size)).run P w = .ok zs.toArray w := hzrun
                rw [hos'] at hzrun'
                simp only [Result.ok.injEq, and_true] at hzrun'
                have : os = zs := by simpa using congrArg Array.toList hzrun'
                subst this
                exact hzc
            have hlen2 : old.length = len * info.size := by rw [← hor.length, hol]
            have hkp2 : (old ++ new).all isByte = true ∨ ∃ q u, blk.get q = some u ∧ isByte u = false := by
              have hgl : T.gets blk (Nat.mul len info.size) off = some old := by
                rw [T.getsK_eq] at hg'
                cases hl : T.gets blk (Nat.mul len info.size) off with
                | none => rw [hl] at hg'; cases hg'
                | some l => rw [hl] at hg'; exact hg'
              rcases keepsB_ok hkp hi' with hkp | ⟨y, hy, hyb⟩
              · rcases keeps_ok (show keeps old (old ++ new) = true by
                  unfold keeps at hkp ⊢
                  rw [List.all_append]
                  cases h1 : old.all isByte <;> cases h2 : new.all isByte <;> simp_all [notB, B]) hgl with h1 | h1
                · exact .inl h1
                · exact .inr h1
              · exact .inr ⟨off, y, hy, hyb⟩
            have Hn := H.onto (ys := os ++ xs) hrn hro hi' hb W hol hcell rfl (hor.append hxr) hkp2
            have hnone : σ nx = none := by
              cases hc : σ nx with
              | none => rfl
              | some b' => exact absurd (H.old nx b' hc) (Nat.lt_irrefl _)
            unfold grown at e9
            rw [T.setsK_eq, T.setK_eq, mkSlice_eq, O_some] at e9
            simp only [CRes.ok.injEq] at e9
            obtain ⟨rfl, rfl, rfl⟩ := e9
            refine ⟨.slice (some ⟨b.block, b.base + off, none⟩) (len + (n + 1)) c, w', append_fits (ty := ty) h0 h1 hu hx' hi hlen hfit hxs (fun a ha => by
              obtain rfl := Option.some.inj ha
              rw [addr_add]; exact hw') (fun hc => by cases hc), Nat.le_succ _, _, upd_more hnone, fun j hj hlt => by unfold upd; rw [if_neg (by omega)]; exact hj, ?_, Hn, W.below hown.1⟩
            simp only [V.rel]
            refine ⟨_, upd_same _ _ _, .inr ⟨by omega, b.base + off, c, hfit, fun _ => by simp, ?_, rfl⟩⟩
            show 0 + c * info.size ≤ b.size - off
            omega
          · obtain ⟨os, hos, hor, hol⟩ := first_run (P := P) (H.drew (w.drawn + 1)) hs' (m := len) rfl (Nat.le_refl len) hold
            exact grow (h0 := h.set none i) (old ++ new) (by omega) hl1 hos hor hol rfl (fun j blk hj => by
              rw [T.get_set] at hj
              by_cases e : j = i
              · rw [if_pos e] at hj; cases hj
              · rw [if_neg e] at hj; exact hj) e9

theorem copy_run {dt e ty : TypeId} {ts : Array TypeId} {size : Nat} (h0 : ts[0]? = some dt) (hu : P.underlying dt = some (.slice e)) (hs : sizeOf? P e = some size) (H : HRel σ ro N h nx w) {d x u : V} {D X : Value} {h' : Heap} {nx' : Nat}
    (hd : d.rel σ D) (hx : x.rel σ X) (ec : copyV ro size h nx d x = .ok u h' nx') : ∃ Y w', (Builtin.copy_ ts ty #[D, X]).run P w = .ok Y w' ∧ Post σ ro N w nx u h' nx' Y w' := by
  unfold copyV at ec
  obtain ⟨dl, hdl, e1⟩ := O_ok ec
  obtain ⟨xl, hxl, e2⟩ := O_ok e1
  obtain ⟨cells, hcells, e3⟩ := O_ok e2
  obtain ⟨r, hr, e4⟩ := O_ok e3
  rw [mkInt_eq] at hr
  obtain rfl := Option.some.inj hr
  obtain ⟨xs, hxs, hxr, hxlen⟩ := first_run (P := P) H hx hxl (Nat.min_le_left xl dl) hcells
  have hlen := lenOf_run (P := P) hx hxl w
  have hint : (V.int .i64 (Int.ofNat (Nat.min xl dl))).rel σ (goInt (Nat.min xl dl)) := by simp only [V.rel]; rfl
  have run : ∀ {base : Option Addr} {c : Nat} {w' : World}, (∀ a, base = some a → (storeCells a xs).run P w = .ok () w') → (base = none → w' = w) →
      (Builtin.copy_ ts ty #[.slice base dl c, X]).run P w = .ok (goInt (Nat.min xl dl)) w' := by
    intro base c w' hst hnone
    unfold Builtin.copy_
    simp only [h0, List.getElem?_toArray, List.getElem?_cons_zero, List.getElem?_cons_succ, Sem.run_bind, under_run hu, Result.andThen_ok, hlen, sizeOf_run hs, hxs]
    cases base with
    | none => obtain rfl := hnone rfl; rfl
    | some a => simp only [Sem.run_bind, hst a rfl, Result.andThen_ok, Sem.run_pure]
  rcases onSlice_ok e4 with ⟨rfl, e5⟩ | ⟨i, off, len, cap, es, rfl, e5⟩
  · simp only [V.rel] at hd; subst hd
    obtain rfl := Option.some.inj hdl
    simp only [CRes.ok.injEq] at e5
    obtain ⟨rfl, rfl, rfl⟩ := e5
    exact ⟨_, w, run (fun a ha => by cases ha) (fun _ => rfl), Nat.le_refl _, σ, More.refl σ, fun _ hh _ => hh, hint, H, Keep.refl _ _⟩
  · obtain rfl := Option.some.inj hdl
    simp only [V.rel] at hd
    obtain ⟨b, hb, hd⟩ := hd
    obtain ⟨o, c, ho, rfl⟩ : ∃ o c, (0 < len → o = b.base + off) ∧ D = .slice (some ⟨b.block, o, none⟩) len c := by
      rcases hd with ⟨-, -, rfl⟩ | ⟨-, o, c, hlc, ho, -, rfl⟩
      · exact ⟨_, _, fun _ => rfl, rfl⟩
      · exact ⟨o, c, fun hp => ho (by omega), rfl⟩
    cases hm : Nat.min xl len with
    | zero =>
      rw [hm] at e5
      have e5 : CRes.ok (V.int .i64 (Int.ofNat 0)) h nx = .ok u h' nx' := e5
      simp only [CRes.ok.injEq] at e5
      obtain ⟨rfl, rfl, rfl⟩ := e5
      have hxe : xs = [] := List.eq_nil_of_length_eq_zero (by rw [hxlen, show min xl len = 0 from hm]; simp)
      refine ⟨_, w, run (fun a _ => by subst hxe; rfl) (fun _ => rfl), Nat.le_refl _, σ, More.refl σ, fun _ hh _ => hh, ?_, H, Keep.refl _ _⟩
      rw [hm]; simp only [V.rel]; rfl
    | succ m =>
      rw [hm] at e5
      have e5 : B (andB (Nat.ble ro.ro i) (cells.all V.isCell))
          (O (h.get i) (.fail ["copy block"]) fun b =>
            T.getsK b (Nat.mul (m + 1) size) off (fun l => B (keeps l cells) (T.setsK cells b off fun b => h.setK (some b) i fun h => CRes.ok (V.int .i64 (Int.ofNat (m + 1))) h nx) (.fail ["copy kind"])) (.fail ["copy room"]))
          (.fail ["copy not its own"]) = .ok u h' nx' := e5
      obtain ⟨hc, e6⟩ := B_ok e5
      obtain ⟨blk, hi', e7⟩ := O_ok e6
      obtain ⟨l, hl, e8⟩ := getsK_ok e7
      obtain ⟨hkp, e8⟩ := B_ok e8
      rw [T.setsK_eq, T.setK_eq] at e8
      simp only [CRes.ok.injEq] at e8
      obtain ⟨rfl, rfl, rfl⟩ := e8
      rw [andB_eq, Bool.and_eq_true, ble_iff] at hc
      obtain ⟨hro, hcl⟩ := hc
      have hro : ro.ro ≤ i := by simpa using hro
      have hown := H.own i blk b hi' hb hro
      obtain ⟨hll, hlg⟩ := T.gets_some blk _ _ l hl
      have hml : m + 1 ≤ len := by rw [← hm]; exact Nat.min_le_right _ _
      have hoff := ho (by omega)
      subst hoff
      rw [show min xl len = m + 1 from hm] at hxlen
      obtain ⟨w', hw', W⟩ := wrote_run (P := P) b.block xs w (b.base + off) (b.base + off) 0 rfl (not_agg hxr (fun v hv => List.all_eq_true.1 hcl v hv)) (fun p h1 h2 => by
        have hp : p - (b.base + off) < Nat.mul (m + 1) size := by show _ < (m + 1) * size; omega
        have hg := hlg (p - (b.base + off)) hp
        obtain ⟨y, hy, -⟩ := H.cell i blk b hi' hb (off + (p - (b.base + off))) _ (by rw [hg]; exact List.getElem?_eq_getElem (by omega))
        rw [show b.base + (off + (p - (b.base + off))) = p by omega] at hy
        refine ⟨⟨y, hy⟩, ?_⟩
        have := hown.2.2.2 (p - b.base) y (by rw [show b.base + (p - b.base) = p by omega]; exact hy)
        rwa [show b.base + (p - b.base) = p by omega] at this)
      refine ⟨_, w', run (fun a ha => by obtain rfl := Option.some.inj ha; exact hw') (fun hc => by cases hc), Nat.le_refl _, σ, More.refl σ, fun _ hh _ => hh, ?_, H.wrote hro hi' hb W hxr (keeps_ok hkp hl), W.below hown.1⟩
      rw [hm]; simp only [V.rel]; rfl

theorem clear_run {dt e ty : TypeId} {ts : Array TypeId} {z : V} (h0 : ts[0]? = some dt) (hu : P.underlying dt = some (.slice e)) (hz : zero? P e = some z) (H : HRel σ ro N h nx w) {d u : V} {D : Value} {h' : Heap} {nx' : Nat}
    (hd : d.rel σ D) (ec : clearV ro z.cells h nx d = .ok u h' nx') : ∃ Y w', (Builtin.clear_ ts ty #[D]).run P w = .ok Y w' ∧ Post σ ro N w nx u h' nx' Y w' := by
  unfold clearV at ec
  have unit : (V.tuple []).rel σ (.tuple #[]) := by simp only [V.rel]; exact ⟨#[], rfl, by simp [relL]⟩
  obtain ⟨zx, hzx, hzr⟩ := zero_cells (P := P) (σ := σ) hz w
  rcases onSlice_ok ec with ⟨rfl, e5⟩ | ⟨i, off, len, cap, es, rfl, e5⟩
  · simp only [V.rel] at hd; subst hd
    simp only [CRes.ok.injEq] at e5
    obtain ⟨rfl, rfl, rfl⟩ := e5
    refine ⟨.tuple #[], w, ?_, Nat.le_refl _, σ, More.refl σ, fun _ hh _ => hh, unit, H, Keep.refl _ _⟩
    unfold Builtin.clear_
    simp [h0, under_run hu]
  · simp only [V.rel] at hd
    obtain ⟨b, hb, hd⟩ := hd
    obtain ⟨o, c, ho, rfl⟩ : ∃ o c, (0 < len → o = b.base + off) ∧ D = .slice (some ⟨b.block, o, none⟩) len c := by
      rcases hd with ⟨-, -, rfl⟩ | ⟨-, o, c, hlc, ho, -, rfl⟩
      · exact ⟨_, _, fun _ => rfl, rfl⟩
      · exact ⟨o, c, fun hp => ho (by omega), rfl⟩
    cases hm : len with
    | zero =>
      rw [hm] at e5
      have e5 : CRes.ok (V.tuple []) h nx = .ok u h' nx' := e5
      simp only [CRes.ok.injEq] at e5
      obtain ⟨rfl, rfl, rfl⟩ := e5
      refine ⟨.tuple #[], w, ?_, Nat.le_refl _, σ, More.refl σ, fun _ hh _ => hh, unit, H, Keep.refl _ _⟩
      unfold Builtin.clear_
      simp [h0, under_run hu]
    | succ m =>
      rw [hm] at e5
      have e5 : B (andB (Nat.ble ro.ro i) (andB (z.cells.all V.isCell) (Nat.blt 0 z.cells.length)))
          (O (h.get i) (.fail ["clear block"]) fun b =>
            T.getsK b (Nat.mul (m + 1) z.cells.length) off (fun l => B (keeps l (repl z.cells (m + 1))) (T.setsK (repl z.cells (m + 1)) b off fun b => h.setK (some b) i fun h => CRes.ok (V.tuple []) h nx) (.fail ["clear kind"])) (.fail ["clear room"]))
          (.fail ["clear not its own"]) = .ok u h' nx' := e5
      obtain ⟨hc, e6⟩ := B_ok e5
      obtain ⟨blk, hi', e7⟩ := O_ok e6
      obtain ⟨l, hl, e8⟩ := getsK_ok e7
      obtain ⟨hkp, e8⟩ := B_ok e8
      rw [T.setsK_eq, T.setK_eq] at e8
      simp only [CRes.ok.injEq] at e8
      obtain ⟨rfl, rfl, rfl⟩ := e8
      rw [andB_eq, Bool.and_eq_true, ble_iff, andB_eq, Bool.and_eq_true, blt_iff] at hc
      obtain ⟨hro, hcl, hzl⟩ := hc
      have hro : ro.ro ≤ i := by simpa using hro
      have hzl : 0 < z.cells.length := by simpa using hzl
      have hown := H.own i blk b hi' hb hro
      obtain ⟨hll, hlg⟩ := T.gets_some blk _ _ l hl
      have hoff := ho (by omega)
      subst hoff
      have hrep := repl_rel hzr hzl (m + 1)
      generalize hxs : ((Array.range ((m + 1) * z.cells.length)).map (zx.cells[· % zx.cells.size]!)).toList = xs at hrep
      have hxlen : xs.length = (m + 1) * z.cells.length := by rw [← hxs]; simp
      have hcl2 : ∀ v ∈ repl z.cells (m + 1), v.isCell = true := fun v hv => by
        obtain ⟨k, hk⟩ := List.mem_iff_getElem?.1 hv
        have hlt := (List.getElem?_eq_some_iff.1 hk).1
        rw [repl_length] at hlt
        rw [repl_get z.cells (m + 1) k hlt] at hk
        exact List.all_eq_true.1 hcl v (List.mem_of_getElem? hk)
      obtain ⟨w', hw', W⟩ := wrote_run (P := P) b.block xs w (b.base + off) (b.base + off) 0 rfl (not_agg hrep hcl2) (fun p h1 h2 => by
        have hp : p - (b.base + off) < Nat.mul (m + 1) z.cells.length := by show _ < (m + 1) * z.cells.length; omega
        have hg := hlg (p - (b.base + off)) hp
        obtain ⟨y, hy, -⟩ := H.cell i blk b hi' hb (off + (p - (b.base + off))) _ (by rw [hg]; exact List.getElem?_eq_getElem (by omega))
        rw [show b.base + (off + (p - (b.base + off))) = p by omega] at hy
        refine ⟨⟨y, hy⟩, ?_⟩
        have := hown.2.2.2 (p - b.base) y (by rw [show b.base + (p - b.base) = p by omega]; exact hy)
        rwa [show b.base + (p - b.base) = p by omega] at this)
      refine ⟨.tuple #[], w', ?_, Nat.le_refl _, σ, More.refl σ, fun _ hh _ => hh, unit, H.wrote hro hi' hb W hrep (keeps_ok hkp hl), W.below hown.1⟩
      have hzs : zx.cells.size = z.cells.length := by rw [← Array.length_toList]; exact hzr.length
      have hst : (storeCells ⟨b.block, b.base + off, none⟩ (Builtin.zeroCells zx.cells (m + 1)).toList).run P w = .ok () w' := by
        have : (Builtin.zeroCells zx.cells (m + 1)).toList = xs := by
          unfold Builtin.zeroCells
          rw [← hxs, hzs]
        rw [this]; exact hw'
      unfold Builtin.clear_
      simp only [h0, List.getElem?_toArray, List.getElem?_cons_zero, Sem.run_bind, under_run hu, Result.andThen_ok, hzx, hst, Sem.run_pure]

end
end Go.Proofs.YteicddmekhdjeaaGreatDoor.Eng

/- Blocks that are no cells: they are laid, they turn. -/
namespace Go.Proofs.YteicddmekhdjeaaGreatDoor.Eng
variable [Syms]
open Go.RowKit (Below)

section
variable {P : Program} {ro : Lo} {σ : Names} {N nx : Nat} {h : Heap} {w : World}

theorem cell_put {w : World} {k : Nat} {q q' : Loop} (h : w.heap[k]? = some (Obj.loop q)) (j o : Nat) : (w.putObj k (.loop q')).cell? ⟨j, o, none⟩ = w.cell? ⟨j, o, none⟩ := by
  have hlt := (Array.getElem?_eq_some_iff.1 h).1
  by_cases e : j = k
  · subst e; simp [World.cell?, World.putObj_heap_same hlt, h]
  · exact cell_of_block (World.putObj_heap_other e)
theorem frozen_put {w : World} {k : Nat} {q q' : Loop} (h : w.heap[k]? = some (Obj.loop q)) (j o : Nat) {x : Value} (hx : w.cell? ⟨j, o, none⟩ = some x) : (w.putObj k (.loop q')).frozen? ⟨j, o, none⟩ = w.frozen? ⟨j, o, none⟩ := by
  by_cases e : j = k
  · subst e; simp [World.cell?, h] at hx
  · exact frozen_of_block (World.putObj_heap_other e)

/-- A block that is no cells turns. -/
theorem HRel.turnedO (H : HRel σ ro N h nx w) {i : Nat} {b : BI} {q q' : Obj} (hr : ro.ro ≤ i) (hb : σ i = some b) (hno : b.odd.isNo = false) (hq : w.heap[b.block]? = some q) (hc0 : ∀ p, w.cell? ⟨b.block, p, none⟩ = none)
    (hc1 : ∀ p, (w.putObj b.block q').cell? ⟨b.block, p, none⟩ = none) (hm0 : ∀ ds, q ≠ Obj.deferred ds) (hl0 : ∀ l, q = Obj.loop l → ∃ l', q' = Obj.loop l') (hx : nx ≤ big)
    {blk : Option (T V)} (hn : ∀ c, blk = some c → OddRel σ b.odd c (some q')) :
    HRel σ ro N (h.set blk (i + big)) nx (w.putObj b.block q') ∧ Keep N w (w.putObj b.block q') := by
  have cell_put : ∀ j o, (w.putObj b.block q').cell? ⟨j, o, none⟩ = w.cell? ⟨j, o, none⟩ := fun j o => by
    by_cases e : j = b.block
    · subst e; rw [hc0, hc1]
    · exact cell_of_block (World.putObj_heap_other e)
  have frozen_put : ∀ j o x, w.cell? ⟨j, o, none⟩ = some x → (w.putObj b.block q').frozen? ⟨j, o, none⟩ = w.frozen? ⟨j, o, none⟩ := fun j o x hx => by
    by_cases e : j = b.block
    · subst e; rw [hc0] at hx; cases hx
    · exact frozen_of_block (World.putObj_heap_other e)
  have hN := ((H.odd i b hb hno).2.2 hr).1
  have get : ∀ j, j < nx → (h.set blk (i + big)).get j = h.get j := fun j hj => by rw [T.get_set, if_neg (by omega)]
  have hlt : b.block < w.heap.size := (H.odd i b hb hno).2.1
  refine ⟨?_, ⟨⟨rfl, rfl, rfl, by rw [World.putObj_size]; exact Nat.le_refl _, fun k hk => World.putObj_heap_other (by omega)⟩, fun k ds hk => ?_, fun k l hk => ?_⟩⟩
  · exact
    { old := H.old
      cell := fun j c bj hj hbj o v ho => by
        rw [get j (H.old j bj hbj)] at hj
        rw [cell_put]; exact H.cell j c bj hj hbj o v ho
      own := fun j c bj hj hbj hrj => by
        rw [get j (H.old j bj hbj)] at hj
        obtain ⟨k1, k2, k3, k4⟩ := H.own j c bj hj hbj hrj
        refine ⟨k1, by rw [World.putObj_size]; exact k2, fun o ho => by rw [cell_put]; exact k3 o ho, fun o x hx => ?_⟩
        rw [cell_put] at hx
        rw [frozen_put _ _ _ hx]; exact k4 o x hx
      apart := fun j k bj bk cj ck hj hk hbj hbk => by
        rw [get j (H.old j bj hbj)] at hj
        rw [get k (H.old k bk hbk)] at hk
        exact H.apart j k bj bk cj ck hj hk hbj hbk
      globals := H.globals
      low := by rw [World.putObj_size]; exact H.low
      lows := fun j c bj hj hbj => by
        rw [get j (H.old j bj hbj)] at hj
        exact H.lows j c bj hj hbj
      whole := fun j c bj hj hbj hrj c' e' lo hi hc' => by
        rw [get j (H.old j bj hbj)] at hj
        have hne : i ≠ j := fun e => by subst e; rw [(H.odd i b hb hno).1] at hj; cases hj
        rw [World.putObj_heap_other (fun e => H.oddApart i j b bj hb hbj hr hne hno (.inr ⟨c, hj⟩) e.symm)] at hc'
        exact H.whole j c bj hj hbj hrj c' e' lo hi hc'
      plain := fun j c bj o v hj hbj hrj ho hv p => by
        rw [get j (H.old j bj hbj)] at hj
        obtain ⟨x, hx, -⟩ := H.cell j c bj hj hbj o v ho
        have hne : bj.block ≠ b.block := fun e => by rw [e, hc0] at hx; cases hx
        rw [frozen_of_block (World.putObj_heap_other hne)]
        exact H.plain j c bj o v hj hbj hrj ho hv p
      odd := fun j bj hbj ho => by
        obtain ⟨k1, k2, k3⟩ := H.odd j bj hbj ho
        refine ⟨by rw [get j (H.old j bj hbj)]; exact k1, by rw [World.putObj_size]; exact k2, fun hr' => ⟨(k3 hr').1, fun hx' c hc => ?_⟩⟩
        by_cases e : j = i
        · subst e
          rw [hb] at hbj
          obtain rfl := Option.some.inj hbj
          rw [T.get_set, if_pos rfl] at hc
          rw [World.putObj_heap_same hlt]
          exact hn c hc
        · rw [T.get_set, if_neg (by omega)] at hc
          rw [World.putObj_heap_other (H.oddApart j i bj b hbj hb hr' e ho (.inl hno))]
          exact (k3 hr').2 hx' c hc
      oddApart := fun j k bj bk hbj hbk hrj hne ho hc => H.oddApart j k bj bk hbj hbk hrj hne ho (hc.imp id fun ⟨ck, hk⟩ => by
        rw [get k (H.old k bk hbk)] at hk
        exact ⟨ck, hk⟩) }
  · by_cases e : k = b.block
    · subst e; rw [hq] at hk; exact absurd (Option.some.inj hk) (hm0 ds)
    · rw [World.putObj_heap_other e]; exact hk
  · by_cases e : k = b.block
    · subst e
      rw [hq] at hk
      obtain ⟨l', rfl⟩ := hl0 l (Option.some.inj hk)
      exact ⟨l', World.putObj_heap_same hlt⟩
    · exact ⟨l, by rw [World.putObj_heap_other e]; exact hk⟩

/-- A loop's record turns. -/
theorem HRel.turned (H : HRel σ ro N h nx w) {i : Nat} {b : BI} {r q q' : Loop} (hr : ro.ro ≤ i) (hb : σ i = some b) (hod : b.odd = .loop r) (hq : w.heap[b.block]? = some (Obj.loop q)) (hx : nx ≤ big)
    {blk : Option (T V)} (hn : ∀ c, blk = some c → OddRel σ (.loop r) c (some (Obj.loop q'))) :
    HRel σ ro N (h.set blk (i + big)) nx (w.putObj b.block (.loop q')) ∧ Keep N w (w.putObj b.block (.loop q')) :=
  H.turnedO hr hb (by rw [hod]; rfl) hq (fun p => by simp [World.cell?, hq]) (fun p => by rw [cell_put hq]; simp [World.cell?, hq]) (fun ds e => by cases e) (fun l _ => ⟨q', rfl⟩) hx (fun c hc => by rw [hod]; exact hn c hc)

/-- A block that is no cells is laid. -/
theorem HRel.enterO (H : HRel σ ro N h nx w) {w1 : World} {l : Nat} {d : Odd} {blk0 : T V} (hd : d.isNo = false) (hrn : ro.ro ≤ nx) (hx : nx + 1 ≤ big) (hs : w.heap.size ≤ l) (hs1 : l < w1.heap.size) (hold : ∀ k, k < w.heap.size → w1.heap[k]? = w.heap[k]?)
    (hl : OddRel (upd σ nx ⟨l, 0, 0, d⟩) d blk0 w1.heap[l]?) : HRel (upd σ nx ⟨l, 0, 0, d⟩) ro N ((h.set none nx).set (some blk0) (nx + big)) (nx + 1) w1 := by
  have hnone : σ nx = none := by
    cases hc : σ nx with
    | none => rfl
    | some b => exact absurd (H.old nx b hc) (Nat.lt_irrefl _)
  have hno : ∀ j b, σ j = some b → j < nx := H.old
  have get : ∀ j, j < nx → ((h.set none nx).set (some blk0) (nx + big)).get j = h.get j := fun j hj => by rw [T.get_set, if_neg (by omega), T.get_set, if_neg (by omega)]
  have getn : ((h.set none nx).set (some blk0) (nx + big)).get nx = none := by rw [T.get_set, if_neg (by unfold big; omega), T.get_set, if_pos rfl]
  have name : ∀ j b, upd σ nx ⟨l, 0, 0, d⟩ j = some b → (j = nx ∧ b = ⟨l, 0, 0, d⟩) ∨ (j < nx ∧ σ j = some b) := fun j b hb => by
    unfold upd at hb
    by_cases e : j = nx
    · rw [if_pos e] at hb; exact .inl ⟨e, (Option.some.inj hb).symm⟩
    · rw [if_neg e] at hb; exact .inr ⟨H.old j b hb, hb⟩
  have hsz : w.heap.size ≤ w1.heap.size := by omega
  exact
    { old := fun j b hb => by rcases name j b hb with ⟨rfl, -⟩ | ⟨h1, -⟩ <;> omega
      cell := fun j c b hj hb o v ho => by
        rcases name j b hb with ⟨rfl, -⟩ | ⟨h1, h2⟩
        · rw [getn] at hj; cases hj
        · rw [get j h1] at hj
          obtain ⟨x, hx, hv⟩ := H.cell j c b hj h2 o v ho
          exact ⟨x, by rw [cell_of_block (hold _ (H.ge hj h2))]; exact hx, hv.more (upd_more hnone)⟩
      own := fun j c b hj hb hrj => by
        rcases name j b hb with ⟨rfl, -⟩ | ⟨h1, h2⟩
        · rw [getn] at hj; cases hj
        · rw [get j h1] at hj
          obtain ⟨k1, k2, k3, k4⟩ := H.own j c b hj h2 hrj
          exact ⟨k1, by omega, fun o ho => by rw [cell_of_block (hold _ k2)]; exact k3 o ho, fun o x hx => by rw [cell_of_block (hold _ k2)] at hx; rw [frozen_of_block (hold _ k2)]; exact k4 o x hx⟩
      apart := fun j k bj bk cj ck hj hk hbj hbk hrj hne => by
        rcases name j bj hbj with ⟨rfl, -⟩ | ⟨h1, h2⟩
        · rw [getn] at hj; cases hj
        · rcases name k bk hbk with ⟨rfl, -⟩ | ⟨h3, h4⟩
          · rw [getn] at hk; cases hk
          · rw [get j h1] at hj
            rw [get k h3] at hk
            exact H.apart j k bj bk cj ck hj hk h2 h4 hrj hne
      globals := fun g hg => by
        obtain ⟨b, h1, h2⟩ := H.globals g hg
        exact ⟨b, upd_more hnone g b h1, h2⟩
      low := Nat.le_trans H.low hsz
      lows := fun j c b hj hb hr' => by
        rcases name j b hb with ⟨rfl, -⟩ | ⟨h1, h2⟩
        · rw [getn] at hj; cases hj
        · rw [get j h1] at hj
          exact H.lows j c b hj h2 hr'
      whole := fun j c b hj hb hrj c' e' lo hi hc' => by
        rcases name j b hb with ⟨rfl, -⟩ | ⟨h1, h2⟩
        · rw [getn] at hj; cases hj
        · rw [get j h1] at hj
          rw [hold _ (H.ge hj h2)] at hc'
          exact H.whole j c b hj h2 hrj c' e' lo hi hc'
      plain := fun j c b o v hj hb hrj ho hv p => by
        rcases name j b hb with ⟨rfl, -⟩ | ⟨h1, h2⟩
        · rw [getn] at hj; cases hj
        · rw [get j h1] at hj
          rw [frozen_of_block (hold _ (H.ge hj h2))]
          exact H.plain j c b o v hj h2 hrj ho hv p
      odd := fun j b hb ho => by
        rcases name j b hb with ⟨rfl, rfl⟩ | ⟨h1, h2⟩
        · refine ⟨getn, hs1, fun _ => ⟨Nat.le_trans H.low hs, fun _ c hc => ?_⟩⟩
          rw [T.get_set, if_pos rfl] at hc
          obtain rfl := Option.some.inj hc
          exact hl
        · obtain ⟨k1, k2, k3⟩ := H.odd j b h2 ho
          refine ⟨by rw [get j h1]; exact k1, by omega, fun hr' => ⟨(k3 hr').1, fun hx' c hc => ?_⟩⟩
          rw [T.get_set, if_neg (by omega), T.get_set, if_neg (by omega)] at hc
          rw [hold _ k2]
          exact ((k3 hr').2 (by omega) c hc).more (upd_more hnone)
      oddApart := fun j k bj bk hbj hbk hrj hne ho hc => by
        rcases name j bj hbj with ⟨rfl, rfl⟩ | ⟨h1, h2⟩
        · rcases name k bk hbk with ⟨rfl, -⟩ | ⟨h3, h4⟩
          · exact absurd rfl hne
          · have : bk.block < w.heap.size := by
              rcases hc with h5 | ⟨ck, h5⟩
              · exact (H.odd k bk h4 h5).2.1
              · rw [get k h3] at h5; exact H.ge h5 h4
            simp only; omega
        · have h6 := (H.odd j bj h2 ho).2.1
          rcases name k bk hbk with ⟨rfl, rfl⟩ | ⟨h3, h4⟩
          · simp only; omega
          · exact H.oddApart j k bj bk h2 h4 hrj hne ho (hc.imp id fun ⟨ck, h5⟩ => by rw [get k h3] at h5; exact ⟨ck, h5⟩) }

/-- A loop's record is laid. -/
theorem HRel.enter (H : HRel σ ro N h nx w) {w1 : World} {l : Nat} {r : Loop} (hrn : ro.ro ≤ nx) (hx : nx + 1 ≤ big) (hs : w.heap.size ≤ l) (hs1 : l < w1.heap.size) (hold : ∀ k, k < w.heap.size → w1.heap[k]? = w.heap[k]?)
    (hl : w1.heap[l]? = some (loopAt r 0)) : HRel (upd σ nx ⟨l, 0, 0, .loop r⟩) ro N ((h.set none nx).set (some (T.sets [.int .u64 (Int.ofNat 0)] .nil 0)) (nx + big)) (nx + 1) w1 :=
  H.enterO rfl hrn hx hs hs1 hold (by
    intro n hn
    rw [T.get_sets] at hn
    simp at hn
    have hn0 : n = 0 := by omega
    subst hn0
    exact hl)

end
end Go.Proofs.YteicddmekhdjeaaGreatDoor.Eng

/- Maps: keys are found, entries are laid. -/
namespace Go.Proofs.YteicddmekhdjeaaGreatDoor.Eng
variable [Syms]
open Go.RowKit (Below)

section
variable {P : Program} {ro : Lo} {σ : Names}

theorem flat1_run {a b : V} (h : flat1 a b = true) {X Y : Value} (hx : a.rel σ X) (hy : b.rel σ Y) (n : Nat) : Instr.sameBits n X Y = true := by
  cases a with
  | bool x =>
    have h : b.onBool false (fun y => B x y (notB y)) = true := h
    cases b with
    | bool y =>
      simp only [V.rel] at hx hy
      subst hx hy
      have h : B x y (notB y) = true := h
      cases x <;> cases y <;> first | (cases h; done) | (simp [Instr.sameBits])
    | _ => cases h
  | int k x =>
    have h : b.onInt false (fun l y => andB (kindEq k l) (eqI x y)) = true := h
    cases b with
    | int l y =>
      simp only [V.rel] at hx hy
      subst hx hy
      have h : andB (kindEq k l) (eqI x y) = true := h
      rw [andB_eq, Bool.and_eq_true, eqI_eq] at h
      obtain rfl := kindEq_true h.1
      have h2 : x = y := by simpa using h.2
      subst h2
      simp [Instr.sameBits]
    | _ => cases h
  | str x =>
    have h : b.onStr false (fun y => eqBytes x y) = true := h
    cases b with
    | str y =>
      simp only [V.rel] at hx hy
      obtain ⟨s, rfl, rfl⟩ := hx
      obtain ⟨s', rfl, rfl⟩ := hy
      have h : eqBytes s.data.toList s'.data.toList = true := h
      rw [eqBytes_true, ← ByteArray.toList_eq, ← ByteArray.toList_eq] at h
      simp only [Instr.sameBits]
      rwa [beq_toListBytes]
    | _ => cases h
  | _ => cases h

theorem flatL_run : ∀ {l m : List V}, flatL l m = true → ∀ {xs ys : List Value}, relL σ l xs → relL σ m ys → ∀ n, xs.length = ys.length ∧ (xs.zip ys).all (fun (x, y) => Instr.sameBits n x y) = true
  | [], [], _, xs, ys, hx, hy, n => by
    simp only [relL] at hx hy
    subst hx hy
    exact ⟨rfl, rfl⟩
  | a :: l, b :: m, h, xs, ys, hx, hy, n => by
    simp only [relL] at hx hy
    obtain ⟨x, xs, rfl, hx1, hx2⟩ := hx
    obtain ⟨y, ys, rfl, hy1, hy2⟩ := hy
    have h : B (flat1 a b) (flatL l m) false = true := h
    cases h1 : flat1 a b with
    | false => rw [h1] at h; cases h
    | true =>
      rw [h1, B_true] at h
      obtain ⟨h2, h3⟩ := flatL_run h hx2 hy2 n
      refine ⟨by simp [h2], ?_⟩
      simp only [List.zip_cons_cons, List.all_cons, Bool.and_eq_true]
      exact ⟨flat1_run h1 hx1 hy1 n, h3⟩
  | [], _ :: _, h, _, _, _, _, _ => by cases h
  | _ :: _, [], h, _, _, _, _, _ => by cases h

theorem flat_run {a b : V} (h : flat a b = true) {X Y : Value} (hx : a.rel σ X) (hy : b.rel σ Y) (n : Nat) : Instr.sameBits (n + 1) X Y = true := by
  cases a with
  | agg l =>
    have h : b.onAgg false (fun m => flatL l m) = true := h
    cases b with
    | agg m =>
      simp only [V.rel] at hx hy
      obtain ⟨xs, rfl, hl⟩ := hx
      obtain ⟨ys, rfl, hm⟩ := hy
      obtain ⟨h1, h2⟩ := flatL_run h hl hm n
      simp only [Instr.sameBits, Bool.and_eq_true, beq_iff_eq]
      exact ⟨by simpa using h1, h2⟩
    | _ => cases h
  | tuple l => cases (h : false = true)
  | bool x => exact flat1_run (a := .bool x) h hx hy _
  | int k x => exact flat1_run (a := .int k x) h hx hy _
  | str x => exact flat1_run (a := .str x) h hx hy _
  | _ => cases (h : false = true)

theorem keyThatStays_run {a b : V} (h : flat a b = true) {X Y : Value} (hx : a.rel σ X) (hy : b.rel σ Y) (w : World) : (Instr.keyThatStays X Y).run P w = .ok Y w := by
  unfold Instr.keyThatStays
  rw [if_pos (flat_run (n := 9999) h hx hy)]
  rfl

/-- A leaf of a key. -/
theorem eqLeaf_check {t : TypeId} {d : TypeDesc} (hu : P.underlying t = some d) {x : V} {X : Value} (hx : x.rel σ X) {r : Bool} (h : eqLeaf d x x = some r) (em : Bool) (n : Nat) (w : World) :
    (Instr.checkKey em (n + 1) t X).run P w = .ok () w := by
  unfold eqLeaf at h
  split at h <;> try (cases h; done)
  all_goals simp only [V.rel] at hx
  case h_1 => subst hx; simp [Instr.checkKey, under_run hu]
  case h_2 => obtain ⟨s, rfl, -⟩ := hx; simp [Instr.checkKey, under_run hu]
  case h_3 => subst hx; simp [Instr.checkKey, under_run hu]

theorem eqLeaf_same {d : TypeDesc} {x y : V} {X Y : Value} (hx : x.rel σ X) (hy : y.rel σ Y) {r : Bool} (h : eqLeaf d x y = some r) : Instr.sameNow d X Y = some r := by
  unfold eqLeaf at h
  split at h <;> try (cases h; done)
  all_goals simp only [V.rel] at hx hy
  case h_1 =>
    obtain ⟨hk, h2⟩ := B_some h
    obtain rfl := kindEq_true hk
    obtain rfl := Option.some.inj h2
    subst hx hy
    rw [eqI_eq]
    simp [Instr.sameNow]
    rfl
  case h_2 =>
    obtain rfl := Option.some.inj h
    obtain ⟨s, rfl, rfl⟩ := hx
    obtain ⟨s', rfl, rfl⟩ := hy
    rw [eqBytes_true, ← ByteArray.toList_eq, ← ByteArray.toList_eq, ← beq_toListBytes]
    simp [Instr.sameNow]
  case h_3 =>
    obtain rfl := Option.some.inj h
    subst hx hy
    simp [Instr.sameNow]

theorem parts_check {l : List V} {a : Array Value} (hl : relL σ l a.toList) (em : Bool) (n : Nat) (w : World) : ∀ {fs : List Field}, eqParts P fs l l = some true →
    (forIn fs PUnit.unit fun f _ => (do
      if f.name ≠ "_" then Instr.checkKey em (n + 1) f.type (← part f.type a f.offset)
      pure (ForInStep.yield PUnit.unit) : Sem (ForInStep PUnit))).run P w = .ok PUnit.unit w
  | [], _ => by simp
  | f :: fs, h => by
    unfold eqParts at h
    cases hn : (f.name == "_") with
    | true =>
      rw [hn] at h
      have hn' : f.name = "_" := by simpa using hn
      have ih := parts_check hl em n w h
      simp only [List.forIn_cons, Sem.run_bind, hn', ne_eq, not_true_eq_false, if_false, Sem.run_pure, Result.andThen_ok]
      exact ih
    | false =>
      rw [hn] at h
      have hn' : f.name ≠ "_" := by simpa using hn
      simp only [B_false] at h
      obtain ⟨u, hu, h2⟩ := O_some' h
      obtain ⟨v, hv, h3⟩ := O_some' h2
      obtain ⟨d, hd, h4⟩ := O_some' h3
      obtain ⟨r1, hr1, h5⟩ := O_some' h4
      rw [hu] at hv
      obtain rfl := Option.some.inj hv
      obtain ⟨Y, hY, hrY⟩ := part_run (P := P) hl hu w
      have hc := eqLeaf_check (P := P) hd hrY hr1 em n w
      cases r1 with
      | false => simp only [B_false] at h5; cases h5
      | true =>
        simp only [B_true] at h5
        have ih := parts_check hl em n w h5
        simp only [List.forIn_cons, Sem.run_bind, hn', ne_eq, not_false_eq_true, if_true, Result.andThen_ok, hY, hc, Sem.run_pure]
        exact ih

theorem elems_check {e : TypeId} {d : TypeDesc} {info : TypeInfo} (hi : P.info? e = some info) (hd : P.underlying e = some d) {l : List V} {a : Array Value} (hl : relL σ l a.toList) (em : Bool) (n : Nat) (w : World) : ∀ {is : List Nat}, eqElems (szOf P e) (P.cellsOf e) d l l is = some true →
    (forIn is PUnit.unit fun i _ => (do
      Instr.checkKey em (n + 1) e (← part e a (i * (← sizeOf e)))
      pure (ForInStep.yield PUnit.unit) : Sem (ForInStep PUnit))).run P w = .ok PUnit.unit w
  | [], _ => by simp
  | i :: is, h => by
    unfold eqElems at h
    obtain ⟨u, hu, h2⟩ := O_some' h
    obtain ⟨v, hv, h3⟩ := O_some' h2
    obtain ⟨r1, hr1, h5⟩ := O_some' h3
    rw [hu] at hv
    obtain rfl := Option.some.inj hv
    obtain ⟨Y, hY, hrY⟩ := part_run (P := P) hl hu w
    have hc := eqLeaf_check (P := P) hd hrY hr1 em n w
    cases r1 with
    | false => simp only [B_false] at h5; cases h5
    | true =>
      simp only [B_true] at h5
      have ih := elems_check hi hd hl em n w h5
      simp only [List.forIn_cons, Sem.run_bind, run_sizeOf w hi, Result.andThen_ok, hY, hc, Sem.run_pure]
      exact ih

theorem eqAgg_check {t : TypeId} {l : List V} {a : Array Value} (hl : relL σ l a.toList) (h : eqAgg P t l l = some true) (em : Bool) (w : World) : (Instr.checkKey em 10000 t (.agg a)).run P w = .ok () w := by
  unfold eqAgg at h
  split at h
  · rename_i fs hd
    cases hg : (orB (P.stoodInHeld t) (P.eqGuardType P.depth t)) with
    | true => rw [hg] at h; cases h
    | false =>
      rw [hg] at h
      simp only [B_false] at h
      rw [show (10000 : Nat) = 9999 + 1 from rfl, Instr.checkKey]
      simp only [Sem.run_bind, under_run hd, Result.andThen_ok]
      rw [← Array.forIn_toList]
      have := parts_check (P := P) hl em 9998 w h
      simp at this ⊢
      rw [this]
      rfl
  · rename_i n e hd
    cases hg : P.eqGuardType P.depth t with
    | true => rw [hg] at h; cases h
    | false =>
      rw [hg] at h
      simp only [B_false] at h
      obtain ⟨info, hi, h⟩ := O_some' h
      obtain ⟨d, hde, h⟩ := O_some' h
      rw [show (10000 : Nat) = 9999 + 1 from rfl, Instr.checkKey]
      simp only [Sem.run_bind, under_run hd, Result.andThen_ok]
      simp only [Std.Legacy.Range.forIn_eq_forIn_range', Std.Legacy.Range.size, Nat.sub_zero, Nat.add_one_sub_one, Nat.div_one]
      rw [List.range_eq_range'] at h
      have := elems_check (P := P) hi hde hl em 9998 w h
      simp at this ⊢
      rw [this]
      rfl
  · cases h

theorem eqAgg_equal {t : TypeId} {l m : List V} {a b : Array Value} (hl : relL σ l a.toList) (hm : relL σ m b.toList) {r : Bool} (h : eqAgg P t l m = some r) (w : World) : (Op.equal t (.agg a) (.agg b)).run P w = .ok r w := by
  show (Op.equalIn 10000 t (.agg a) (.agg b)).run P w = .ok r w
  unfold eqAgg at h
  split at h
  · rename_i fs hd
    cases hg : (orB (P.stoodInHeld t) (P.eqGuardType P.depth t)) with
    | true => rw [hg] at h; cases h
    | false =>
      rw [hg] at h
      simp only [B_false] at h
      have hg1 : P.stoodInHeld t = false := by cases e : P.stoodInHeld t <;> simp_all [orB]
      have hf : P.fieldsOf t = fs := by simp [Program.fieldsOf, hd]
      rw [show (10000 : Nat) = 9999 + 1 from rfl, run_equalIn_agg w 9999 t a b (by rw [hf, hd]) hg1, hf]
      exact eqParts_run hl hm 9998 w h
  · rename_i n e hd
    cases hg : P.eqGuardType P.depth t with
    | true => rw [hg] at h; cases h
    | false =>
      rw [hg] at h
      simp only [B_false] at h
      obtain ⟨info, hi, h⟩ := O_some' h
      obtain ⟨d, hde, h⟩ := O_some' h
      rw [show (10000 : Nat) = 9999 + 1 from rfl, run_equalIn_array w 9999 a b hd hi]
      exact eqElems_run hde hl hm 9998 w h
  · cases h

theorem okKey_true {f : V → V → Option Bool} {k : V} (h : okKey f k = true) : f k k = some true := by
  unfold okKey at h
  cases hf : f k k with
  | none => rw [hf] at h; cases h
  | some r => rw [hf] at h; have h : r = true := h; rw [h]

/-- A key that may be asked for. -/
theorem key_check {t : TypeId} {k : V} {X : Value} (hx : k.rel σ X) (h : keySame P t k k = some true) (em : Bool) (w : World) : (Instr.checkKey em 10000 t X).run P w = .ok () w := by
  unfold keySame at h
  have wide : k.onAgg none (fun l => k.onAgg none fun m => eqAgg P t l m) = some true → (Instr.checkKey em 10000 t X).run P w = .ok () w := by
    intro h
    cases k with
    | agg l =>
      simp only [V.rel] at hx
      obtain ⟨a, rfl, hl⟩ := hx
      exact eqAgg_check hl h em w
    | _ => cases h
  split at h
  · exact wide h
  · exact wide h
  · rename_i d _ _ hd
    exact eqLeaf_check hd hx h em 9999 w
  · cases h

/-- What was found in the evaluator's list. -/
def FoundRel (σ : Names) : Option (Nat × V) → Option (Nat × Value) → Prop
  | none, r => r = none
  | some (j, v), r => ∃ y, r = some (j, y) ∧ v.rel σ y

theorem findAsking_run {t : TypeId} {k : V} {X : Value} (hx : k.rel σ X) (w : World) (hag : ∀ (a : V) (Y : Value), a.rel σ Y → ∀ r, keySame P t k a = some r → (Op.equal t X Y).run P w = .ok r w) :
    ∀ {l : List V} {es : List MapEntry} {i : Nat} {r : Option (Nat × V)}, entsRel σ l es → findV (keySame P t) k l i = some r → ∃ y, (Instr.findAsking t X es i).run P w = .ok y w ∧ FoundRel σ r y
  | [], es, i, r, he, h => by
    have he : es = [] := he
    subst he
    obtain rfl := Option.some.inj h
    exact ⟨none, rfl, rfl⟩
  | [_], _, _, _, he, _ => he.elim
  | a :: v :: l, es, i, r, he, h => by
    obtain ⟨e, es', rfl, ha, hv, he⟩ := he
    have h : O (keySame P t k a) none (fun r => B r (some (some (i, v))) (findV (keySame P t) k l (Nat.succ i))) = some r := h
    obtain ⟨s, hs, h⟩ := O_some' h
    have hq := hag a e.key ha s hs
    cases s with
    | true =>
      rw [B_true] at h
      obtain rfl := Option.some.inj h
      exact ⟨some (i, e.val), by simp [Instr.findAsking, hq], e.val, rfl, hv⟩
    | false =>
      rw [B_false] at h
      obtain ⟨y, h1, h2⟩ := findAsking_run hx w hag (i := i + 1) he h
      exact ⟨y, by simp [Instr.findAsking, hq, h1], h2⟩

theorem findNow_run {d : TypeDesc} {k : V} {X : Value} (hx : k.rel σ X) :
    ∀ {l : List V} {es : List MapEntry} {i : Nat} {r : Option (Nat × V)}, entsRel σ l es → findV (eqLeaf d) k l i = some r → ∃ y, Instr.findNow d X es i = some y ∧ FoundRel σ r y
  | [], es, i, r, he, h => by
    have he : es = [] := he
    subst he
    obtain rfl := Option.some.inj h
    exact ⟨none, rfl, rfl⟩
  | [_], _, _, _, he, _ => he.elim
  | a :: v :: l, es, i, r, he, h => by
    obtain ⟨e, es', rfl, ha, hv, he⟩ := he
    have h : O (eqLeaf d k a) none (fun r => B r (some (some (i, v))) (findV (eqLeaf d) k l (Nat.succ i))) = some r := h
    obtain ⟨s, hs, h⟩ := O_some' h
    have hq := eqLeaf_same hx ha hs
    cases s with
    | true =>
      rw [B_true] at h
      obtain rfl := Option.some.inj h
      exact ⟨some (i, e.val), by simp [Instr.findNow, hq], e.val, rfl, hv⟩
    | false =>
      rw [B_false] at h
      obtain ⟨y, h1, h2⟩ := findNow_run hx (i := i + 1) he h
      exact ⟨y, by simp [Instr.findNow, hq, h1], h2⟩

theorem find_run {t : TypeId} {k : V} {X : Value} (hx : k.rel σ X) {l : List V} {es : List MapEntry} (he : entsRel σ l es) {r : Option (Nat × V)} (h : findV (keySame P t) k l 0 = some r) (hk : keySame P t k k = some true) (w : World) :
    ∃ y, (Instr.findKey t X es).run P w = .ok y w ∧ FoundRel σ r y := by
  have wide : (match P.underlying t with | some (.array _ _) | some (.struct _) => true | _ => false) = true → (∀ a b, keySame P t a b = a.onAgg none fun l => b.onAgg none fun m => eqAgg P t l m) →
      ∃ y, (Instr.findKey t X es).run P w = .ok y w ∧ FoundRel σ r y := by
    intro hw hs
    rw [run_findKey_eq w hw]
    refine findAsking_run hx w (fun a Y ha s hq => ?_) he h
    rw [hs] at hq hk
    cases k with
    | agg l =>
      have hq : a.onAgg none (fun m => eqAgg P t l m) = some s := hq
      cases a with
      | agg m =>
        simp only [V.rel] at hx ha
        obtain ⟨xs, rfl, hl⟩ := hx
        obtain ⟨ys, rfl, hm⟩ := ha
        exact eqAgg_equal hl hm hq w
      | _ => cases hq
    | _ => cases hk
  cases hu : P.underlying t with
  | none =>
    have : keySame P t k k = none := by simp only [keySame, hu]
    rw [this] at hk; cases hk
  | some d =>
    have leaf : keySame P t = eqLeaf d → ∃ y, (Instr.findKey t X es).run P w = .ok y w ∧ FoundRel σ r y := by
      intro hs
      rw [hs] at h
      obtain ⟨y, h1, h2⟩ := findNow_run hx he h
      exact ⟨y, by simp [Instr.findKey, under_run hu, h1], h2⟩
    cases d with
    | struct fs => exact wide (by rw [hu]) (fun a b => by simp only [keySame, hu])
    | array n e => exact wide (by rw [hu]) (fun a b => by simp only [keySame, hu])
    | _ => exact leaf (by funext a b; simp only [keySame, hu])

theorem L_some {α β : Type} {l : List α} {f : α → List α → Option β} {x : β} (h : L l none f = some x) : ∃ a r, l = a :: r ∧ f a r = some x := by
  cases l with
  | nil => cases h
  | cons a r => exact ⟨a, r, rfl, h⟩
theorem natOfV_some {v : V} {n : Nat} (h : natOfV v = some n) : v = natV n := by
  unfold natOfV at h
  obtain ⟨k, z, rfl, h1⟩ := onInt_some h
  obtain ⟨h2, h3⟩ := B_some h1
  obtain ⟨m, rfl, h4⟩ := Z_some h3
  obtain rfl := Option.some.inj h4
  obtain rfl := kindEq_true h2
  rfl
theorem natsOf_some : ∀ {l : List V} {ns : List Nat}, natsOf l = some ns → l = ns.map natV
  | [], ns, h => by obtain rfl := Option.some.inj h; rfl
  | v :: l, ns, h => by
    obtain ⟨n, hn, h1⟩ := O_some' (show O (natOfV v) none (fun n => O (natsOf l) none fun ns => some (n :: ns)) = some ns from h)
    obtain ⟨ms, hms, h2⟩ := O_some' h1
    obtain rfl := Option.some.inj h2
    rw [natOfV_some hn, natsOf_some hms]; rfl
theorem natV_inj {a b : Nat} (h : natV a = natV b) : a = b := by
  simp only [natV, V.int.injEq, true_and] at h
  exact Int.ofNat.inj h
theorem nats_inj : ∀ {a b : List Nat}, a.map natV = b.map natV → a = b
  | [], [], _ => rfl
  | [], _ :: _, h => by simp at h
  | _ :: _, [], h => by simp at h
  | x :: a, y :: b, h => by
    simp only [List.map_cons, List.cons.injEq] at h
    rw [natV_inj h.1, nats_inj h.2]
theorem bornsV_inj {c d : Nat} {a b : List Nat} (h : bornsV c a = bornsV d b) : c = d ∧ a = b := by
  simp only [bornsV, V.tuple.injEq, List.cons.injEq] at h
  exact ⟨natV_inj h.1, nats_inj h.2⟩
theorem iterV_inj {m m' : V} {s s' t t' : Nat} {a b : List Nat} (h : iterV m s t a = iterV m' s' t' b) : m = m' ∧ s = s' ∧ t = t' ∧ a = b := by
  simp only [iterV, V.tuple.injEq, List.cons.injEq] at h
  exact ⟨h.1, natV_inj h.2.1, natV_inj h.2.2.1, nats_inj h.2.2.2⟩
theorem onTupleO_some {α : Type} {x : V} {c : List V → Option α} {u : α} (h : x.onTuple none c = some u) : ∃ l, x = .tuple l ∧ c l = some u := by
  cases x <;> first | exact ⟨_, rfl, h⟩ | cases h
theorem bornsOf_some {h : Heap} {i c : Nat} {bs : List Nat} (e : bornsOf h i = some (c, bs)) : ∃ blk, h.get (i + big) = some blk ∧ blk.get 1 = some (bornsV c bs) := by
  unfold bornsOf at e
  obtain ⟨blk, h1, h2⟩ := O_some' e
  obtain ⟨v, h3, h4⟩ := O_some' h2
  obtain ⟨l, rfl, h5⟩ := onTupleO_some h4
  obtain ⟨a, r, rfl, h6⟩ := L_some h5
  obtain ⟨c', h7, h8⟩ := O_some' h6
  obtain ⟨bs', h9, h10⟩ := O_some' h8
  obtain ⟨rfl, rfl⟩ := Prod.mk.inj (Option.some.inj h10)
  rw [natOfV_some h7, natsOf_some h9] at h3
  exact ⟨blk, h1, h3⟩

/-- What map i holds. -/
theorem entsOf_run {N nx : Nat} {h : Heap} {w : World} (H : HRel σ ro N h nx w) {i : Nat} {b : BI} (hb : σ i = some b) (ho : b.odd = .map) {l : List V} (e : entsOf ro h nx i = some l) :
    nx ≤ big ∧ ro.ro ≤ i ∧ ∃ es clock, w.heap[b.block]? = some (Obj.map es clock) ∧ entsRel σ l es.toList ∧ ∀ c bs, bornsOf h i = some (c, bs) → clock = c ∧ es.toList.map (·.born) = bs := by
  unfold entsOf at e
  obtain ⟨h1, h2⟩ := B_some e
  rw [andB_eq, Bool.and_eq_true] at h1
  have hx := Nat.le_of_ble_eq_true h1.1
  have hr := Nat.le_of_ble_eq_true h1.2
  obtain ⟨blk, h3, h4⟩ := O_some' h2
  obtain ⟨v, h5, h6⟩ := O_some' h4
  refine ⟨hx, hr, ?_⟩
  cases v with
  | tuple m =>
    have h6 : some m = some l := h6
    obtain rfl := Option.some.inj h6
    have h7 := ((H.odd i b hb (by rw [ho]; rfl)).2.2 hr).2 hx blk h3
    rw [ho] at h7
    obtain ⟨es, clock, h8, h9, h10⟩ := h7 m h5
    refine ⟨es, clock, h8, h9, fun c bs hcb => ?_⟩
    obtain ⟨blk', h11, h12⟩ := bornsOf_some hcb
    have h3 : T.get h (i + big) = some blk := h3
    rw [h3] at h11
    obtain rfl := Option.some.inj h11
    exact h10 c bs h12
  | _ => cases h6

theorem map_obj {w : World} {k : Nat} {es : Array MapEntry} {clock : Nat} (h : w.heap[k]? = some (Obj.map es clock)) : (getObj k).run P w = .ok (Obj.map es clock) w := MapKept.run_getObj_map h

theorem foundV_run {z : Option V} {t : TypeId} (hz : z = zero? P t) {ok : Bool} {r : Option (Nat × V)} {u : V} (h : foundV z ok r = some u) {y : Option (Nat × Value)} (hr : FoundRel σ r y) (w : World) :
    ∃ U, (do
      let (v, k) ← match y with
        | some (_, v) => pure (v, true)
        | none => pure (← zeroValue t, false)
      pure (if ok then .tuple #[v, .bool k] else v) : Sem Value).run P w = .ok U w ∧ u.rel σ U := by
  cases r with
  | none =>
    have hr : y = none := hr
    subst hr
    have h : O z none (fun z => B ok (some (.tuple [z, .bool false])) (some z)) = some u := h
    obtain ⟨zv, hzv, h⟩ := O_some' h
    obtain ⟨x, hx, hrel⟩ := zero_run (σ := σ) (hz ▸ hzv : zero? P t = some zv) w
    simp only [Sem.run_bind, hx, Result.andThen_ok, Sem.run_pure]
    cases ok with
    | true =>
      rw [B_true] at h
      obtain rfl := Option.some.inj h
      exact ⟨_, rfl, by simp only [V.rel]; exact ⟨_, rfl, relL_cons hrel (relL_cons (by simp only [V.rel]) relL_nil)⟩⟩
    | false =>
      rw [B_false] at h
      obtain rfl := Option.some.inj h
      exact ⟨_, rfl, hrel⟩
  | some p =>
    obtain ⟨j, v⟩ := p
    obtain ⟨V', rfl, hrel⟩ := hr
    have h : B ok (some (V.tuple [v, .bool true])) (some v) = some u := h
    simp only [Sem.run_bind, Result.andThen_ok, Sem.run_pure]
    cases ok with
    | true =>
      rw [B_true] at h
      obtain rfl := Option.some.inj h
      exact ⟨_, rfl, by simp only [V.rel]; exact ⟨_, rfl, relL_cons hrel (relL_cons (by simp only [V.rel]) relL_nil)⟩⟩
    | false =>
      rw [B_false] at h
      obtain rfl := Option.some.inj h
      exact ⟨_, rfl, hrel⟩

theorem onMapO_some {x : V} {c : Nat → Option (List V)} {l : List V} (h : x.onMap none (some []) c = some l) : (x = .nilmap ∧ l = []) ∨ ∃ i, x = .map i ∧ c i = some l := by
  cases x <;> first | exact .inl ⟨rfl, (Option.some.inj h).symm⟩ | exact .inr ⟨_, rfl, h⟩ | cases h

/-- A lookup. -/
theorem lookup_run {N nx : Nat} {h : Heap} {w : World} (H : HRel σ ro N h nx w) {t kt e : TypeId} (ht : P.underlying t = some (.map kt e)) {m k u : V} {M K : Value} (hm : m.rel σ M) (hk : k.rel σ K) {ok : Bool} {h' : Heap} {nx' : Nat}
    (hf : lookupV ro (keySame P kt) (zero? P e) ok h nx m k = .ok u h' nx') : ∃ U, (Instr.lookup t M K ok).run P w = .ok U w ∧ u.rel σ U ∧ h' = h ∧ nx' = nx := by
  unfold lookupV at hf
  obtain ⟨h1, h2⟩ := B_ok hf
  have hkk := okKey_true h1
  obtain ⟨l, hl, h3⟩ := O_ok h2
  obtain ⟨r, hr, h4⟩ := O_ok h3
  obtain ⟨v, hv, h5⟩ := O_ok h4
  simp only [CRes.ok.injEq] at h5
  obtain ⟨rfl, rfl, rfl⟩ := h5
  have common : ∀ es : Array MapEntry, entsRel σ l es.toList → ∃ U, (do
      Instr.checkKey es.isEmpty 10000 kt K
      let (v, k) ← match ← Instr.findKey kt K es.toList with
        | some (_, v) => pure (v, true)
        | none => pure (← zeroValue e, false)
      pure (if ok then .tuple #[v, .bool k] else v) : Sem Value).run P w = .ok U w ∧ v.rel σ U := by
    intro es hes
    have hc := key_check (P := P) hk hkk es.isEmpty w
    obtain ⟨y, hy, hfr⟩ := find_run (P := P) hk hes hr hkk w
    obtain ⟨U, hU, hrel⟩ := foundV_run (P := P) (t := e) rfl hv hfr w
    refine ⟨U, ?_, hrel⟩
    rw [Sem.run_bind, hc, Result.andThen_ok, Sem.run_bind, hy, Result.andThen_ok]
    exact hU
  rcases onMapO_some hl with ⟨rfl, rfl⟩ | ⟨i, rfl, hi⟩
  · simp only [V.rel] at hm
    subst hm
    obtain ⟨U, hU, hrel⟩ := common #[] rfl
    refine ⟨U, ?_, hrel, rfl, rfl⟩
    unfold Instr.lookup
    rw [Sem.run_bind, under_run ht, Result.andThen_ok]
    exact hU
  · simp only [V.rel] at hm
    obtain ⟨b, ⟨hb, ho⟩, rfl⟩ := hm
    obtain ⟨-, -, es, clock, h6, h7, -⟩ := entsOf_run H hb ho hi
    obtain ⟨U, hU, hrel⟩ := common es h7
    refine ⟨U, ?_, hrel, rfl, rfl⟩
    unfold Instr.lookup
    rw [Sem.run_bind, under_run ht, Result.andThen_ok]
    simp only []
    rw [Sem.run_bind, map_obj (P := P) h6, Result.andThen_ok]
    exact hU

theorem entsRel_push {x y : V} {e : MapEntry} (hx : x.rel σ e.key) (hy : y.rel σ e.val) : ∀ {l : List V} {es : List MapEntry}, entsRel σ l es → entsRel σ (l ++ [x, y]) (es ++ [e])
  | [], es, h => by
    have h : es = [] := h
    subst h
    exact ⟨e, [], rfl, hx, hy, rfl⟩
  | [_], _, h => h.elim
  | a :: v :: l, es, h => by
    obtain ⟨e', es', rfl, h1, h2, h3⟩ := h
    exact ⟨e', es' ++ [e], rfl, h1, h2, entsRel_push hx hy h3⟩

theorem setEnt_run {k x : V} {K X : Value} (hk : k.rel σ K) (hx : x.rel σ X) : ∀ {l l' : List V} {j : Nat} {es : List MapEntry}, entsRel σ l es → setEnt k x l j = some l' →
    ∃ e, es[j]? = some e ∧ (∃ a : V, flat a k = true ∧ a.rel σ e.key) ∧ ∀ f : MapEntry → MapEntry, (f e).key = K → (f e).val = X → entsRel σ l' (es.modify j f)
  | [], _, _, _, _, h => by cases h
  | [_], _, _, _, _, h => by cases h
  | a :: v :: l, l', 0, es, he, h => by
    obtain ⟨e, es', rfl, h1, h2, h3⟩ := he
    have h : B (flat a k) (some (k :: x :: l)) none = some l' := h
    obtain ⟨h4, h5⟩ := B_some h
    obtain rfl := Option.some.inj h5
    refine ⟨e, rfl, ⟨a, h4, h1⟩, fun f hf1 hf2 => ?_⟩
    simp only [List.modify_zero_cons]
    exact ⟨f e, es', rfl, by rw [hf1]; exact hk, by rw [hf2]; exact hx, h3⟩
  | a :: v :: l, l', j + 1, es, he, h => by
    obtain ⟨e, es', rfl, h1, h2, h3⟩ := he
    have h : O (setEnt k x l j) none (fun l => some (a :: v :: l)) = some l' := h
    obtain ⟨m, hm, h5⟩ := O_some' h
    obtain rfl := Option.some.inj h5
    obtain ⟨e2, h6, h7, h8⟩ := setEnt_run hk hx h3 hm
    refine ⟨e2, by simpa using h6, h7, fun f hf1 hf2 => ?_⟩
    simp only [List.modify_succ_cons]
    exact ⟨e, _, rfl, h1, h2, h8 f hf1 hf2⟩

theorem onMapC_ok {x : V} {c : Nat → CRes} {p q : List String} {u : V} {h : Heap} {n : Nat} (e : x.onMap (.fail p) (.fail q) c = .ok u h n) : ∃ i, x = .map i ∧ c i = .ok u h n := by
  cases x <;> first | exact ⟨_, rfl, e⟩ | cases e

def bornL (ob : Option (Nat × List Nat)) : List V := match ob with | none => [] | some (c, bs) => [bornsV c bs]
theorem putEnts_eq {h : Heap} {nx i : Nat} {l : List V} {ob : Option (Nat × List Nat)} : putEnts h nx i l ob = .ok (.tuple []) (h.set (some (T.sets (.tuple l :: bornL ob) .nil 0)) (i + big)) nx := by
  unfold putEnts
  cases ob with
  | none => rw [forceL_eq, O_none, T.setsK_eq, T.setK_eq]; rfl
  | some p =>
    obtain ⟨c, bs⟩ := p
    rw [forceL_eq, O_some]
    simp only []
    rw [forceN_eq, forceL_eq, T.setsK_eq, T.setK_eq]; rfl

/-- A map's entries turn. -/
theorem put_run {N nx : Nat} {h : Heap} {w : World} (H : HRel σ ro N h nx w) {i : Nat} {b : BI} (hb : σ i = some b) (ho : b.odd = .map) (hbig : nx ≤ big) (hri : ro.ro ≤ i) {es : Array MapEntry} {clock : Nat} (h6 : w.heap[b.block]? = some (Obj.map es clock))
    {l' : List V} {es' : Array MapEntry} {clock' : Nat} {ob : Option (Nat × List Nat)} {u : V} {h' : Heap} {nx' : Nat} (hrel : entsRel σ l' es'.toList) (hob : ∀ c bs, ob = some (c, bs) → clock' = c ∧ es'.toList.map (·.born) = bs)
    (hp : putEnts h nx i l' ob = .ok u h' nx') : Post σ ro N w nx u h' nx' undef (w.putObj b.block (.map es' clock')) := by
  rw [putEnts_eq] at hp
  simp only [CRes.ok.injEq] at hp
  obtain ⟨rfl, rfl, rfl⟩ := hp
  have hlt := (Array.getElem?_eq_some_iff.1 h6).1
  obtain ⟨H1, K1⟩ := H.turnedO (q' := .map es' clock') (blk := some (T.sets (.tuple l' :: bornL ob) .nil 0)) hri hb (by rw [ho]; rfl) h6 (fun p => by simp [World.cell?, h6])
    (fun p => by simp [World.cell?, World.putObj_heap_same hlt]) (fun ds e => by cases e) (fun l e => by cases e) hbig (by
      intro c hc
      obtain rfl := Option.some.inj hc
      rw [ho]
      intro m hm
      rw [T.get_sets] at hm
      simp at hm
      subst hm
      refine ⟨es', clock', rfl, hrel, fun c bs hcb => ?_⟩
      rw [T.get_sets] at hcb
      cases ob with
      | none => simp [bornL, T.get] at hcb
      | some p =>
        obtain ⟨c', bs'⟩ := p
        simp [bornL] at hcb
        obtain ⟨rfl, rfl⟩ := bornsV_inj hcb
        exact hob _ _ rfl)
  exact ⟨Nat.le_refl _, σ, More.refl σ, fun _ hn _ => hn, by simp only [V.rel]; exact ⟨#[], rfl, relL_nil⟩, H1, K1⟩

/-- An entry of a map is laid. -/
theorem update_run {N nx : Nat} {h : Heap} {w : World} (H : HRel σ ro N h nx w) {t kt e : TypeId} (ht : P.underlying t = some (.map kt e)) {m k x u : V} {M K X : Value} (hm : m.rel σ M) (hk : k.rel σ K) (hx : x.rel σ X) {h' : Heap} {nx' : Nat}
    (hf : updateV ro (keySame P kt) h nx x m k = .ok u h' nx') : ∃ w', (Instr.mapUpdate t M K X).run P w = .ok () w' ∧ Post σ ro N w nx u h' nx' undef w' := by
  unfold updateV at hf
  obtain ⟨h1, h2⟩ := B_ok hf
  have hkk := okKey_true h1
  obtain ⟨i, rfl, h3⟩ := onMapC_ok h2
  obtain ⟨l, hl, h4⟩ := O_ok h3
  obtain ⟨r, hr, h5⟩ := O_ok h4
  simp only [V.rel] at hm
  obtain ⟨b, ⟨hb, ho⟩, rfl⟩ := hm
  obtain ⟨hbig, hri, es, clock, h6, h7, h7b⟩ := entsOf_run H hb ho hl
  have hc := key_check (P := P) hk hkk false w
  obtain ⟨y, hy, hfr⟩ := find_run (P := P) hk h7 hr hkk w
  have hset : ∀ o : Obj, (setObj b.block o).run P w = .ok () (w.putObj b.block o) := fun o => MapKept.run_setObj_map _ h6
  cases r with
  | none =>
    have hfr : y = none := hfr
    subst hfr
    refine ⟨w.putObj b.block (.map (es.push { key := K, val := X, born := clock }) (clock + 1)), ?_, put_run H hb ho hbig hri h6 ?_ (fun c bs hcb => ?_) h5⟩
    · simp only [Instr.mapUpdate, Sem.run_bind, under_run ht, Result.andThen_ok, map_obj (P := P) h6, hc, hy, hset]
    · rw [Array.toList_push]
      exact entsRel_push hk hx h7
    · unfold moreBorn at hcb
      obtain ⟨⟨c0, bs0⟩, h8, h9⟩ := O_some' hcb
      obtain ⟨rfl, rfl⟩ := Prod.mk.inj (Option.some.inj h9)
      obtain ⟨rfl, rfl⟩ := h7b _ _ h8
      exact ⟨rfl, by simp⟩
  | some p =>
    obtain ⟨j, v⟩ := p
    obtain ⟨V', rfl, -⟩ := hfr
    obtain ⟨l', hl', h8⟩ := O_ok h5
    obtain ⟨e0, h9, ⟨a, h10, h11⟩, h12⟩ := setEnt_run hk hx h7 hl'
    have h9' : es[j]? = some e0 := by rw [← Array.getElem?_toList]; exact h9
    have hst := keyThatStays_run (P := P) h10 h11 hk w
    refine ⟨w.putObj b.block (.map (es.modify j fun e => { e with key := K, val := X }) clock), ?_, put_run H hb ho hbig hri h6 ?_ (fun c bs hcb => ?_) h8⟩
    · simp only [Instr.mapUpdate, Sem.run_bind, under_run ht, Result.andThen_ok, map_obj (P := P) h6, hc, hy, h9', Option.map_some, Option.getD_some, hst, hset]
    · rw [Array.toList_modify]
      exact h12 _ rfl rfl
    · obtain ⟨rfl, rfl⟩ := h7b _ _ hcb
      refine ⟨rfl, ?_⟩
      rw [Array.toList_modify]
      apply List.ext_getElem? 
      intro q
      simp only [List.getElem?_map, List.getElem?_modify]
      cases es.toList[q]? with
      | none => rfl
      | some z => by_cases hq : j = q <;> simp [hq]

end
end Go.Proofs.YteicddmekhdjeaaGreatDoor.Eng

/- Iterators over maps: they begin, what they hand out is read; entries go. -/
namespace Go.Proofs.YteicddmekhdjeaaGreatDoor.Eng
variable [Syms]
open Go.RowKit (Below)

section
variable {P : Program} {ro : Lo} {σ : Names} {N nx : Nat} {h : Heap} {w : World}

theorem onMapN_ok {x : V} {c : Nat → CRes} {p : List String} {q : CRes} {u : V} {h : Heap} {n : Nat} (e : x.onMap (.fail p) q c = .ok u h n) : (x = .nilmap ∧ q = .ok u h n) ∨ ∃ i, x = .map i ∧ c i = .ok u h n := by
  cases x <;> first | exact .inl ⟨rfl, e⟩ | exact .inr ⟨_, rfl, e⟩ | cases e

/-- A mark behind bytes. -/
theorem HRel.marked (H : HRel σ ro N h nx w) {i : Nat} {blk : T V} {b : BI} (hr : ro.ro ≤ i) (hi : h.get i = some blk) (hb : σ i = some b) (hby : ∀ o v, blk.get o = some v → isByte v = true) {c : Array Value} {e : TypeId} {lo hi' : Nat}
    (hc : w.heap[b.block]? = some (Obj.cells c e (lo, hi'))) : HRel σ ro N h nx (w.freeze ⟨b.block, c.size, none⟩ 1) ∧ Keep N w (w.freeze ⟨b.block, c.size, none⟩ 1) := by
  obtain ⟨hN, hlt, -, -⟩ := H.own i blk b hi hb hr
  have hw := H.whole i blk b hi hb hr c e lo hi' hc
  generalize hw1 : w.freeze ⟨b.block, c.size, none⟩ 1 = w1
  have hsz : w1.heap.size = w.heap.size := by rw [← hw1]; simp [World.freeze]
  have other : ∀ k, k ≠ b.block → w1.heap[k]? = w.heap[k]? := fun k hk => by
    rw [← hw1]; simp [World.freeze, Array.getElem?_modify, Ne.symm hk]
  obtain ⟨lo2, hi2, hself, hlo⟩ : ∃ lo2 hi2, w1.heap[b.block]? = some (Obj.cells c e (lo2, hi2)) ∧ c.size ≤ lo2 := by
    by_cases hl : lo = hi'
    · exact ⟨c.size, c.size + 1, by rw [← hw1]; simp [World.freeze, Array.getElem?_modify, hc, hl], Nat.le_refl _⟩
    · exact ⟨min lo c.size, max hi' (c.size + 1), by rw [← hw1]; simp [World.freeze, Array.getElem?_modify, hc, hl], by rcases hw with h1 | h1 <;> omega⟩
  have cells : ∀ k o, w1.cell? ⟨k, o, none⟩ = w.cell? ⟨k, o, none⟩ := fun k o => by
    by_cases hk : k = b.block
    · subst hk; simp [World.cell?, hself, hc]
    · exact cell_of_block (other k hk)
  have froz : ∀ k o x, w.cell? ⟨k, o, none⟩ = some x → w.frozen? ⟨k, o, none⟩ = false → w1.frozen? ⟨k, o, none⟩ = false := fun k o x hx hf => by
    by_cases hk : k = b.block
    · subst hk
      have : o < c.size := by
        simp only [World.cell?, hc] at hx
        exact (Array.getElem?_eq_some_iff.1 (show c[o]? = some x from hx)).1
      simp only [World.frozen?, hself]
      simp; omega
    · rw [frozen_of_block (other k hk)]; exact hf
  refine ⟨?_, ⟨⟨by rw [← hw1]; rfl, by rw [← hw1]; rfl, by rw [← hw1]; rfl, by rw [hsz]; exact Nat.le_refl _, fun k hk => other k (by omega)⟩, fun k ds hk => ?_, fun k l hk => ?_⟩⟩
  · exact
      { old := H.old
        cell := fun j cj bj hj hbj o v ho => by rw [cells]; exact H.cell j cj bj hj hbj o v ho
        own := fun j cj bj hj hbj hrj => by
          obtain ⟨k1, k2, k3, k4⟩ := H.own j cj bj hj hbj hrj
          refine ⟨k1, by rw [hsz]; exact k2, fun o ho => by rw [cells]; exact k3 o ho, fun o x hx => ?_⟩
          rw [cells] at hx
          exact froz _ _ x hx (k4 o x hx)
        apart := H.apart
        globals := H.globals
        low := by rw [hsz]; exact H.low
        lows := H.lows
        plain := fun j cj bj o v hj hbj hrj ho hv p => by
          have hne : bj.block ≠ b.block := fun e3 => by
            by_cases e : j = i
            · subst e
              rw [hi] at hj
              obtain rfl := Option.some.inj hj
              rw [hby o v ho] at hv; cases hv
            · exact H.apart i j b bj blk cj hi hj hb hbj hr (fun e4 => e e4.symm) e3.symm
          rw [frozen_of_block (other _ hne)]
          exact H.plain j cj bj o v hj hbj hrj ho hv p
        whole := fun j cj bj hj hbj hrj c' e' l1 l2 hc' => by
          by_cases e3 : bj.block = b.block
          · rw [e3, hself] at hc'
            simp only [Option.some.injEq, Obj.cells.injEq, Prod.mk.injEq] at hc'
            obtain ⟨rfl, -, rfl, -⟩ := hc'
            exact .inr hlo
          · rw [other _ e3] at hc'
            exact H.whole j cj bj hj hbj hrj c' e' l1 l2 hc'
        odd := fun j bj hbj ho => by
          obtain ⟨k1, k2, k3⟩ := H.odd j bj hbj ho
          refine ⟨k1, by rw [hsz]; exact k2, fun hr' => ⟨(k3 hr').1, fun hx c' hc' => ?_⟩⟩
          have hne : j ≠ i := fun e => by subst e; rw [k1] at hi; cases hi
          rw [other _ (H.oddApart j i bj b hbj hb hr' hne ho (.inr ⟨blk, hi⟩))]
          exact (k3 hr').2 hx c' hc'
        oddApart := H.oddApart }
  · rw [other k (fun e => by subst e; rw [hc] at hk; cases hk)]; exact hk
  · exact ⟨l, by rw [other k (fun e => by subst e; rw [hc] at hk; cases hk)]; exact hk⟩

theorem allT_ok {f : V → Bool} : ∀ {t : T V}, allT f t = true → ∀ o v, t.get o = some v → f v = true
  | .nil, _, _, _, h => by cases h
  | .node x l r, h, o, v, ho => by
    have h : andB (O x true f) (andB (allT f l) (allT f r)) = true := h
    rw [andB_eq, Bool.and_eq_true, andB_eq, Bool.and_eq_true] at h
    cases o with
    | zero =>
      have ho : x = some v := ho
      subst ho
      exact h.1
    | succ j =>
      have ho : Bool.rec (motive := fun _ => Option V) (r.get (Nat.div j 2)) (l.get (Nat.div j 2)) (Nat.beq (Nat.mod j 2) 0) = some v := ho
      cases hb : Nat.beq (Nat.mod j 2) 0 with
      | true => rw [hb] at ho; exact allT_ok h.2.1 _ v ho
      | false => rw [hb] at ho; exact allT_ok h.2.2 _ v ho

/-- A constant string's bytes. -/
theorem mark_run (H : HRel σ ro N h nx w) {t e0 e : TypeId} (hs : P.underlying t = some (.slice e0)) (hd : P.underlying t = some (.slice e)) (he : P.underlying e = some (.int .u8)) {x u : V} {X : Value} (hx : x.rel σ X) {h' : Heap} {nx' : Nat} (hf : markV ro h nx x = .ok u h' nx') :
    ∃ w', (convert t t X).run P w = .ok X w' ∧ Post σ ro N w nx u h' nx' X w' := by
  unfold markV at hf
  rcases onSlice_ok hf with ⟨-, h1⟩ | ⟨i, off, len, cap, es, rfl, h1⟩
  · cases h1
  · obtain ⟨hro, h2⟩ := B_ok h1
    obtain ⟨blk, hi, h3⟩ := O_ok h2
    obtain ⟨hall, h4⟩ := B_ok h3
    simp only [CRes.ok.injEq] at h4
    obtain ⟨rfl, rfl, rfl⟩ := h4
    have hro := Nat.le_of_ble_eq_true hro
    have hx' := hx
    simp only [V.rel] at hx
    obtain ⟨b, hb, hx⟩ := hx
    obtain ⟨o, n, c, rfl⟩ : ∃ o n c, X = .slice (some ⟨b.block, o, none⟩) n c := by
      rcases hx with ⟨-, -, rfl⟩ | ⟨-, o, c, -, -, -, rfl⟩ <;> exact ⟨_, _, _, rfl⟩
    have hconv : ∀ w', (markStringish ⟨b.block, o, none⟩).run P w = .ok () w' → (convert t t (.slice (some ⟨b.block, o, none⟩) n c)).run P w = .ok (.slice (some ⟨b.block, o, none⟩) n c) w' := fun w' hm => by
      simp [convert, under_run hd, under_run he, hm]
    cases hsh : w.shape? b.block with
    | none =>
      exact ⟨w, hconv w (by simp [markStringish, hsh]), Nat.le_refl _, σ, More.refl σ, fun _ hn _ => hn, hx', H, Keep.refl _ _⟩
    | some p =>
      obtain ⟨el, m⟩ := p
      have hsh0 := hsh
      unfold World.shape? at hsh
      split at hsh
      · rename_i c0 el0 fr hc0
        simp only [Option.some.injEq, Prod.mk.injEq] at hsh
        obtain ⟨rfl, rfl⟩ := hsh
        obtain ⟨H1, K1⟩ := H.marked hro hi hb (allT_ok hall) (lo := fr.1) (hi' := fr.2) hc0
        exact ⟨_, hconv _ (by simp [markStringish, hsh0]), Nat.le_refl _, σ, More.refl σ, fun _ hn _ => hn, hx', H1, K1⟩
      · cases hsh

theorem map_erase {α β : Type} (f : α → β) : ∀ (l : List α) (j : Nat), (l.eraseIdx j).map f = (l.map f).eraseIdx j
  | [], _ => rfl
  | _ :: _, 0 => rfl
  | a :: l, j + 1 => by simp [map_erase f l j]

theorem delEnt_run : ∀ {l l' : List V} {j : Nat} {es : List MapEntry}, entsRel σ l es → delEnt l j = some l' → entsRel σ l' (es.eraseIdx j)
  | [], _, _, _, _, h => by cases h
  | [_], _, _, _, _, h => by cases h
  | a :: v :: l, l', 0, es, he, h => by
    obtain ⟨e, es', rfl, h1, h2, h3⟩ := he
    obtain rfl := Option.some.inj h
    simpa using h3
  | a :: v :: l, l', j + 1, es, he, h => by
    obtain ⟨e, es', rfl, h1, h2, h3⟩ := he
    obtain ⟨m, hm, h5⟩ := O_some' (show O (delEnt l j) none (fun l => some (a :: v :: l)) = some l' from h)
    obtain rfl := Option.some.inj h5
    simp only [List.eraseIdx_cons_succ]
    exact ⟨e, _, rfl, h1, h2, delEnt_run h3 hm⟩

/-- An entry of a map goes. -/
theorem delete_run (H : HRel σ ro N h nx w) {mt kt e ty : TypeId} {argTypes : Array TypeId} (ht0 : argTypes[0]? = some mt) (ht : P.underlying mt = some (.map kt e)) {m k u : V} {M K : Value} (hm : m.rel σ M) (hk : k.rel σ K) {h' : Heap} {nx' : Nat}
    (hf : deleteV ro (keySame P kt) h nx m k = .ok u h' nx') : ∃ w', (Builtin.delete_ argTypes ty #[M, K]).run P w = .ok (.tuple #[]) w' ∧ Post σ ro N w nx u h' nx' (.tuple #[]) w' := by
  unfold deleteV at hf
  obtain ⟨h1, h2⟩ := B_ok hf
  have hkk := okKey_true h1
  have e0 : (#[M, K] : Array Value)[0]? = some M := rfl
  have e1 : (#[M, K] : Array Value)[1]? = some K := rfl
  rcases onMapN_ok h2 with ⟨rfl, h3⟩ | ⟨i, rfl, h3⟩
  · simp only [V.rel] at hm
    subst hm
    simp only [CRes.ok.injEq] at h3
    obtain ⟨rfl, rfl, rfl⟩ := h3
    refine ⟨w, ?_, Nat.le_refl _, σ, More.refl σ, fun _ hn _ => hn, by simp only [V.rel]; exact ⟨#[], rfl, relL_nil⟩, H, Keep.refl _ _⟩
    simp only [Builtin.delete_, ht0, e0, e1, Sem.run_bind, under_run ht, Result.andThen_ok, key_check (P := P) hk hkk true w, Sem.run_pure]
  · obtain ⟨l, hl, h4⟩ := O_ok h3
    obtain ⟨r, hr, h5⟩ := O_ok h4
    simp only [V.rel] at hm
    obtain ⟨b, ⟨hb, ho⟩, rfl⟩ := hm
    obtain ⟨hbig, hri, es, clock, h6, h7, h7b⟩ := entsOf_run H hb ho hl
    have hc := key_check (P := P) hk hkk es.isEmpty w
    obtain ⟨y, hy, hfr⟩ := find_run (P := P) hk h7 hr hkk w
    have hset : ∀ o : Obj, (setObj b.block o).run P w = .ok () (w.putObj b.block o) := fun o => MapKept.run_setObj_map _ h6
    cases r with
    | none =>
      have hfr : y = none := hfr
      subst hfr
      refine ⟨w.putObj b.block (.map es clock), ?_, put_run H hb ho hbig hri h6 h7 (fun c bs hcb => h7b c bs hcb) h5⟩
      simp only [Builtin.delete_, ht0, e0, e1, Sem.run_bind, under_run ht, Result.andThen_ok, map_obj (P := P) h6, hc, hy, hset, Sem.run_pure]
    | some p =>
      obtain ⟨j, v⟩ := p
      obtain ⟨V', rfl, -⟩ := hfr
      obtain ⟨l', hl', h8⟩ := O_ok h5
      refine ⟨w.putObj b.block (.map (es.eraseIdxIfInBounds j) clock), ?_, put_run H hb ho hbig hri h6 ?_ (fun c bs hcb => ?_) h8⟩
      · simp only [Builtin.delete_, ht0, e0, e1, Sem.run_bind, under_run ht, Result.andThen_ok, map_obj (P := P) h6, hc, hy, hset, Sem.run_pure]
      · rw [Array.toList_eraseIdxIfInBounds]; exact delEnt_run h7 hl'
      · unfold lessBorn at hcb
        obtain ⟨⟨c0, bs0⟩, h9, h10⟩ := O_some' hcb
        obtain ⟨rfl, rfl⟩ := Prod.mk.inj (Option.some.inj h10)
        obtain ⟨rfl, rfl⟩ := h7b _ _ h9
        rw [Array.toList_eraseIdxIfInBounds]
        exact ⟨rfl, map_erase _ _ _⟩

theorem entCount_run : ∀ {l : List V} {es : List MapEntry}, entsRel σ l es → entCount l = es.length
  | [], es, h => by
    have h : es = [] := h
    subst h; rfl
  | [_], _, h => h.elim
  | a :: v :: l, es, h => by
    obtain ⟨e, es', rfl, -, -, h3⟩ := h
    simp only [entCount, List.length_cons, entCount_run h3]

theorem lenMap_run (H : HRel σ ro N h nx w) {t kt e ty : TypeId} {argTypes : Array TypeId} (ht0 : argTypes[0]? = some t) (ht : P.underlying t = some (.map kt e)) {m u : V} {M : Value} (hm : m.rel σ M) {h' : Heap} {nx' : Nat}
    (hf : lenMapV ro h nx m = .ok u h' nx') : ∃ U, (Builtin.len_ argTypes ty #[M]).run P w = .ok U w ∧ u.rel σ U ∧ h' = h ∧ nx' = nx := by
  unfold lenMapV at hf
  have e0 : (#[M] : Array Value)[0]? = some M := rfl
  rcases onMapN_ok hf with ⟨rfl, h3⟩ | ⟨i, rfl, h3⟩
  · simp only [V.rel] at hm
    subst hm
    simp only [CRes.ok.injEq] at h3
    obtain ⟨rfl, rfl, rfl⟩ := h3
    exact ⟨.int .i64 0, by simp [Builtin.len_, ht0, e0, under_run ht, goInt], by simp only [V.rel]; rfl, rfl, rfl⟩
  · obtain ⟨l, hl, h4⟩ := O_ok h3
    rw [forceN_eq] at h4
    simp only [CRes.ok.injEq] at h4
    obtain ⟨rfl, rfl, rfl⟩ := h4
    simp only [V.rel] at hm
    obtain ⟨b, ⟨hb, ho⟩, rfl⟩ := hm
    obtain ⟨-, -, es, clock, h6, h7, -⟩ := entsOf_run H hb ho hl
    refine ⟨.int .i64 es.size, ?_, by simp only [V.rel]; rw [entCount_run h7]; simp, rfl, rfl⟩
    simp only [Builtin.len_, ht0, e0, Sem.run_bind, under_run ht, Result.andThen_ok, map_obj (P := P) h6, Sem.run_pure, goInt]

theorem mkIter_run (H : HRel σ ro N h nx w) (hrn : ro.ro ≤ nx) {m : V} {mm : Option Nat} (hm : m.rel σ (.map mm)) {c : Nat} {u : V} {h' : Heap} {nx' : Nat} (hf : mkIterV m c h nx = .ok u h' nx') :
    Post σ ro N w nx u h' nx' (.pointer (some ⟨w.heap.size, 0, none⟩)) (w.alloc (.mapIter mm c #[] c)) := by
  unfold mkIterV at hf
  obtain ⟨hb, hf⟩ := B_ok hf
  have hb : nx + 1 ≤ big := Nat.le_of_ble_eq_true hb
  rw [T.setK_eq, T.setsK_eq, T.setK_eq, forceN_eq] at hf
  simp only [CRes.ok.injEq] at hf
  obtain ⟨rfl, rfl, rfl⟩ := hf
  have hnone : σ nx = none := by
    cases hc : σ nx with
    | none => rfl
    | some b => exact absurd (H.old nx b hc) (Nat.lt_irrefl _)
  have hold : ∀ k, k < w.heap.size → (w.alloc (.mapIter mm c #[] c)).heap[k]? = w.heap[k]? := fun k hk => Go.RowKit.Below.heap_alloc _ _ _ hk
  have H1 := H.enterO (w1 := w.alloc (.mapIter mm c #[] c)) (l := w.heap.size) (d := .iter) (blk0 := T.sets [.tuple [m, natV c, natV c]] .nil 0) rfl hrn hb (Nat.le_refl _) (by rw [World.size_alloc]; omega) hold (by
    intro x s t ns hl
    rw [T.get_sets] at hl
    simp only [Nat.le_refl, List.length_cons, List.length_nil, Nat.zero_add, Nat.zero_lt_one, and_self, if_true, Nat.sub_self, List.getElem?_cons_zero, Option.some.injEq] at hl
    obtain ⟨rfl, rfl, rfl, rfl⟩ := iterV_inj (show iterV m c c [] = iterV x s t ns from hl)
    exact ⟨mm, hm.more (upd_more hnone), World.alloc_heap_new w _⟩)
  exact ⟨Nat.le_succ _, _, upd_more hnone, fun i hi hlt => by unfold upd; rw [if_neg (by omega)]; exact hi, by simp only [V.rel]; exact ⟨_, ⟨upd_same _ _ _, rfl⟩, rfl⟩, H1,
    ⟨⟨rfl, rfl, rfl, by rw [World.size_alloc]; omega, fun k hk => hold k (by have := H.low; omega)⟩, fun k ds hk => by rw [hold k (Array.getElem?_eq_some_iff.1 hk).1]; exact hk, fun k r hk => ⟨r, by rw [hold k (Array.getElem?_eq_some_iff.1 hk).1]; exact hk⟩⟩⟩

/-- An iterator begins. -/
theorem range_run (H : HRel σ ro N h nx w) (hrn : ro.ro ≤ nx) {t kt e : TypeId} (ht : P.underlying t = some (.map kt e)) {m u : V} {M : Value} (hm : m.rel σ M) {h' : Heap} {nx' : Nat} (hf : rangeV ro h nx m = .ok u h' nx') :
    ∃ U w', (Instr.range t M).run P w = .ok U w' ∧ Post σ ro N w nx u h' nx' U w' := by
  unfold rangeV at hf
  rcases onMapN_ok hf with ⟨rfl, h3⟩ | ⟨i, rfl, h3⟩
  · simp only [V.rel] at hm
    subst hm
    exact ⟨_, _, run_range_nilMap w t kt e ht, mkIter_run H hrn (by simp only [V.rel]) h3⟩
  · obtain ⟨l, hl, h4⟩ := O_ok h3
    obtain ⟨⟨c, bs⟩, hcb, h5⟩ := O_ok h4
    have hm' := hm
    simp only [V.rel] at hm
    obtain ⟨b, ⟨hb, ho⟩, rfl⟩ := hm
    obtain ⟨-, -, es, clock, h6, h7, h8⟩ := entsOf_run H hb ho hl
    obtain ⟨rfl, -⟩ := h8 _ _ hcb
    exact ⟨_, _, run_range_map w t kt e b.block es clock ht h6, mkIter_run H hrn hm' h5⟩

theorem onIterK_ok {R : Type} {i : Nat} {d x : R} {c : V → Nat → Nat → List Nat → R} (e : onIterK ro h nx i d c = x) (hd : d ≠ x) :
    ∃ m s t ns blk, nx ≤ big ∧ ro.ro ≤ i ∧ h.get (i + big) = some blk ∧ blk.get 0 = some (iterV m s t ns) ∧ c m s t ns = x := by
  unfold onIterK at e
  cases hb : andB (Nat.ble nx big) (Nat.ble ro.ro i) with
  | false => rw [hb] at e; exact absurd e hd
  | true =>
    rw [hb, B_true] at e
    rw [andB_eq, Bool.and_eq_true] at hb
    have e : O (h.get (i + big)) d _ = x := e
    cases hg : h.get (i + big) with
    | none => rw [hg] at e; exact absurd e hd
    | some blk =>
      rw [hg, O_some] at e
      cases hv : blk.get 0 with
      | none => rw [hv] at e; exact absurd e hd
      | some v =>
        rw [hv, O_some] at e
        cases v with
        | tuple l =>
          match l, e with
          | [], e => exact absurd e hd
          | [_], e => exact absurd e hd
          | [_, _], e => exact absurd e hd
          | m :: s :: t :: l, e =>
            have e : O (natOfV s) d (fun s => O (natOfV t) d fun t => O (natsOf l) d fun ns => c m s t ns) = x := e
            cases hs : natOfV s with
            | none => rw [hs] at e; exact absurd e hd
            | some s' =>
              rw [hs, O_some] at e
              cases ht : natOfV t with
              | none => rw [ht] at e; exact absurd e hd
              | some t' =>
                rw [ht, O_some] at e
                cases hn : natsOf l with
                | none => rw [hn] at e; exact absurd e hd
                | some ns =>
                  rw [hn, O_some] at e
                  rw [natOfV_some hs, natOfV_some ht, natsOf_some hn] at hv
                  exact ⟨m, s', t', ns, blk, Nat.le_of_ble_eq_true hb.1, Nat.le_of_ble_eq_true hb.2, rfl, hv, e⟩
        | _ => exact absurd e hd

theorem iter_obj (H : HRel σ ro N h nx w) {i : Nat} {b : BI} (hb : σ i = some b) (ho : b.odd = .iter) (hbig : nx ≤ big) (hri : ro.ro ≤ i) {blk : T V} (hg : h.get (i + big) = some blk) {m : V} {s t : Nat} {ns : List Nat} (h0 : blk.get 0 = some (iterV m s t ns)) :
    ∃ mm, m.rel σ (.map mm) ∧ w.heap[b.block]? = some (Obj.mapIter mm s ns.toArray t) := by
  have h7 := ((H.odd i b hb (by rw [ho]; rfl)).2.2 hri).2 hbig blk hg
  rw [ho] at h7
  exact h7 m s t ns h0

theorem onIterC_ok {x : V} {c : Nat → CRes} {p : List String} {u : V} {h : Heap} {n : Nat} (e : x.onIter (.fail p) c = .ok u h n) : ∃ i, x = .iter i ∧ c i = .ok u h n := by
  cases x <;> first | exact ⟨_, rfl, e⟩ | cases e

theorem entAt_run {b : Nat} : ∀ {l : List V} {es : List MapEntry} {v : V}, entsRel σ l es → entAt b l (es.map (·.born)) = some v → ∃ e, es.find? (·.born == b) = some e ∧ v.rel σ (.tuple #[e.key, e.val])
  | [], _, _, _, h => by cases h
  | [_], _, _, he, _ => he.elim
  | k :: x :: l, es, v, he, h => by
    obtain ⟨e, es', rfl, h1, h2, h3⟩ := he
    have h : B (Nat.beq e.born b) (some (.tuple [k, x])) (entAt b l (es'.map (·.born))) = some v := h
    cases hb : Nat.beq e.born b with
    | true =>
      rw [hb, B_true] at h
      obtain rfl := Option.some.inj h
      refine ⟨e, by rw [List.find?_cons, show (e.born == b) = true from beq_iff_eq.2 (Nat.eq_of_beq_eq_true hb)], by simp only [V.rel]; exact ⟨_, rfl, relL_cons h1 (relL_cons h2 relL_nil)⟩⟩
    | false =>
      rw [hb, B_false] at h
      obtain ⟨e', h4, h5⟩ := entAt_run h3 h
      exact ⟨e', by rw [List.find?_cons, show (e.born == b) = false from beq_eq_false_iff_ne.2 (Nat.ne_of_beq_eq_false hb)]; exact h4, h5⟩

theorem lastN_back {ns : List Nat} {b : Nat} (h : lastN ns = some b) : ns.toArray.back? = some b := by
  unfold lastN at h
  obtain ⟨a, r, h1, h2⟩ := L_some h
  obtain rfl := Option.some.inj h2
  have : ns = r.reverse ++ [a] := by rw [← List.reverse_reverse ns, h1]; simp
  subst this
  simp

/-- What the last step handed out. -/
theorem entry_run (H : HRel σ ro N h nx w) {x u : V} {X : Value} (hx : x.rel σ X) {h' : Heap} {nx' : Nat} (hf : entryV ro h nx x = .ok u h' nx') :
    ∃ U, (Instr.entry X).run P w = .ok U w ∧ u.rel σ U ∧ h' = h ∧ nx' = nx := by
  unfold entryV at hf
  obtain ⟨i, rfl, h1⟩ := onIterC_ok hf
  obtain ⟨m, s, t, ns, blk, hbig, hri, h2, h3, h4⟩ := onIterK_ok h1 (by simp)
  simp only [V.rel] at hx
  obtain ⟨b, ⟨hb, ho⟩, rfl⟩ := hx
  obtain ⟨mm, hm, h5⟩ := iter_obj H hb ho hbig hri h2 h3
  obtain ⟨j, rfl, h6⟩ := onMapC_ok h4
  obtain ⟨l, hl, h7⟩ := O_ok h6
  obtain ⟨⟨c, bs⟩, hcb, h8⟩ := O_ok h7
  obtain ⟨hct, h9⟩ := B_ok h8
  obtain ⟨b', hb', h10⟩ := O_ok h9
  obtain ⟨v, hv, h11⟩ := O_ok h10
  simp only [CRes.ok.injEq] at h11
  obtain ⟨rfl, rfl, rfl⟩ := h11
  simp only [V.rel, Value.map.injEq] at hm
  obtain ⟨bm, ⟨hbm, hom⟩, rfl⟩ := hm
  obtain ⟨-, -, es, clock, h12, h13, h14⟩ := entsOf_run H hbm hom hl
  obtain ⟨rfl, rfl⟩ := h14 _ _ hcb
  obtain rfl : clock = t := Nat.eq_of_beq_eq_true hct
  obtain ⟨e, he, hrel⟩ := entAt_run h13 hv
  refine ⟨_, ?_, hrel, rfl, rfl⟩
  have hf : es.find? (·.born == b') = some e := by rw [← Array.find?_toList]; exact he
  simp only [Instr.entry, getObj, Sem.run_bind, Sem.run, h5, h12, Result.andThen, lastN_back hb', bne_self_eq_false, Bool.false_eq_true, if_false, hf]
  rfl

end
end Go.Proofs.YteicddmekhdjeaaGreatDoor.Eng

/- Operations that act. -/
namespace Go.Proofs.YteicddmekhdjeaaGreatDoor.Eng
variable [Syms]
open Go.RowKit (Below)

/-- What becomes of an operation: a value, nothing, a function's answer. -/
def Does (P : Program) (K : Value → World → Prop) : Result Next → Prop
  | .ok (.value y) w' => K y w'
  | .ok .skip w' => K undef w'
  | .ok (.enter f args) w' => Calls P f args w' fun e w'' => ∃ y, e = .returned y ∧ K y w''
  | .ok (.round l f tmps assign body) w' => RoundIn Fence.wide 0 P l f tmps assign body w' fun e w'' => ∃ y, e = .returned y ∧ K y w''
  | _ => False

/-- No fence; in a round of a loop over a function, or not. -/
def wideAt (rd : Option Nat) : Fence := { fn := fun _ => True, depth := none, alive := false, round := rd }

theorem wideAt_depth {rd : Option Nat} {n : Nat} : (wideAt rd).depth.isSome = true → 1 ≤ n := fun h => by simp [wideAt] at h

theorem Does.upon {P : Program} {K : Value → World → Prop} {r : Result Next} (d : Does P K r) {rd : Option Nat} {o : Oper} {a : Act} {next : Act → World → Prop} {Q : Exit → Act → World → Prop}
    (hn : ∀ y w', K y w' → next (a.put o.dst y) w') : o.uponIn (wideAt rd) 0 P a next Q r := by
  cases r with
  | halt h w => exact d.elim
  | ok n w =>
    cases n with
    | value y => exact hn y w d
    | skip => exact hn undef w d
    | enter f args =>
      have d : Calls P f args w fun e w'' => ∃ y, e = .returned y ∧ K y w'' := d
      have d2 : CallsIn (wideAt rd) 0 P f args w fun e w'' => ∃ y, e = .returned y ∧ K y w'' := (callsIn_wide (n := 0)).2 d
      exact ⟨wideAt_depth, d2.mono fun e w'' ⟨y, he, hy⟩ => by subst he; exact hn y w'' hy⟩
    | round l f tmps assign body =>
      have d2 : RoundIn (wideAt rd) 0 P l f tmps assign body w fun e w'' => ∃ y, e = .returned y ∧ K y w'' := d
      exact ⟨wideAt_depth, d2.mono fun e w'' ⟨y, he, hy⟩ => by subst he; exact hn y w'' hy⟩
    | _ => exact d.elim

/-- An operation that is not refused is none that defers a call. -/
theorem semAt_of {P : Program} {ro : Lo} {o : Oper} {k : Kind} (hk : kind P ro o.op = k) (hb : k ≠ .bad) (rd : Option Nat) (ρ : Operand → Value) : o.semAt (wideAt rd).round ρ = execOp ρ o :=
  Oper.semAt_eq _ _ _ fun c hc => hb (by rw [← hk, hc]; simp [kind])

/-- Functions answer as callF says. -/
structure CallOk (P : Program) (ro : Lo) (σ0 : Names) (callF : CallF) : Prop where
  fn : ∀ g args h nx v h' nx', callF false g args h nx = .ok v h' nx' → ∀ (σ : Names) (N : Nat) (w : World) (xs : Array Value), More σ0 σ → ro.ro ≤ nx → relL σ args xs.toList → HRel σ ro N h nx w →
    Does P (Post σ ro N w nx v h' nx') ((callFunc g xs).run P w)
  yield : ∀ i args h nx v h' nx', callF true i args h nx = .ok v h' nx' → ∀ (σ : Names) (N : Nat) (w : World) (xs : Array Value) (b : BI), More σ0 σ → σ i = some b → ro.ro ≤ nx → relL σ args xs.toList → HRel σ ro N h nx w →
    Does P (Post σ ro N w nx v h' nx') ((Instr.yield b.block xs).run P w)

theorem onYield_ok {x : V} {d : CRes} {c : Nat → CRes} {v : V} {h : Heap} {n : Nat} (e : x.onYield d c = .ok v h n) : (∃ i, x = .yield i ∧ c i = .ok v h n) ∨ d = .ok v h n := by
  cases x <;> first | exact .inl ⟨_, rfl, e⟩ | exact .inr e

section
variable {P : Program} {σ : Names} {ro : Lo} {N nx : Nat} {h : Heap} {w : World}

theorem act2_ok {tm : T V} {a b : E} {f : V → V → CRes} {u : V} {h' : Heap} {n : Nat} (e : act2 tm a b f = .ok u h' n) : ∃ v w, a.run tm = some v ∧ b.run tm = some w ∧ f v w = .ok u h' n := by
  obtain ⟨v, hv, e2⟩ := O_ok e
  obtain ⟨w, hw, e3⟩ := O_ok e2
  exact ⟨v, w, hv, hw, e3⟩

theorem onIface_ok {x : V} {c : TypeId → V → CRes} {a b : List String} {v : V} {h : Heap} {n : Nat} (e : x.onIface (CRes.fail a) (CRes.fail b) c = .ok v h n) : ∃ t u, x = .iface t u ∧ c t u = .ok v h n := by
  cases x with
  | iface t u => exact ⟨t, u, rfl, e⟩
  | _ => cases e

theorem method_run {t : TypeId} {name : String} {g : FuncId} (hg : methodOf P t name = some g) {n : Nat} (v : Value) (w : World) : (method (n + 1) t v name).run P w = .ok (g, v) w := by
  unfold methodOf at hg
  split at hg
  · cases hg
  · rename_i i hi
    split at hg
    · cases hg
    · rename_i m hm
      have ht := info_run hi w
      unfold method
      simp only [Sem.run_bind, ht, Result.andThen_ok, hm]
      split at hg
      · rename_i f e hp hf hu
        obtain rfl := Option.some.inj hg
        simp [hp, hf, follow, receiverAt, under_run hu, Place.get]
      · cases hg
      · rename_i f d hnp hp hf hu
        obtain rfl := Option.some.inj hg
        rw [hp, hf]
        simp only [follow, Sem.run_pure, Result.andThen_ok, Sem.run_bind, receiverAt, under_run hu]
        cases d <;> first | (exact absurd rfl (hnp _)) | simp [Place.get]
      · cases hg

theorem act_sound {op : Op} {f : CallF → T V → Heap → Nat → CRes} (hk : kind P ro op = .act f) {callF : CallF} {σ0 : Names} (hcall : CallOk P ro σ0 callF) (hmo : More σ0 σ) {tm : T V} {v : V} {h' : Heap} {nx' : Nat} (hf : f callF tm h nx = .ok v h' nx') {ρ : Operand → Value}
    (hr : ∀ x ∈ op.operands.toList, ORel σ ro tm ρ x) (o : Oper) (ho : o.op = op) (hrn : ro.ro ≤ nx) (H : HRel σ ro N h nx w) : Does P (Post σ ro N w nx v h' nx') ((execOp ρ o).run P w) := by
  unfold execOp
  rw [ho]
  cases op with
  | store t a x =>
    simp only [kind] at hk
    split at hk
    · rename_i n hn
      simp only [forceN_eq, forceE_eq, Kind.act.injEq] at hk
      subst hk
      obtain ⟨va, vx, ha, hx, e⟩ := act2_ok hf
      obtain ⟨w', hw', hp⟩ := store_run hn H (hr a (by simp [Op.operands]) va ha) (hr x (by simp [Op.operands]) vx hx) e
      show Does P _ ((do Instr.storeAt t (ρ a) (ρ x); pure .skip : Sem Next).run P w)
      simp only [Sem.run_bind, hw', Result.andThen_ok, Sem.run_pure]
      exact hp
    · cases hk
  | call c =>
    obtain ⟨callee, args, argTypes⟩ := c
    simp only [kind, kCall] at hk
    split at hk
    · rename_i _ b
      have hmem : ∀ x ∈ args.toList, ORel σ ro tm ρ x := fun x hx => hr x (by simp only [Op.operands, Call.operands]; simpa using hx)
      unfold kBuiltin at hk
      split at hk
      · rename_i x t ts hargs htypes
        unfold kLen at hk
        split at hk
        · simp at hk
        · simp at hk
        · simp at hk
        · split at hk <;> simp at hk
        · rename_i kt e hu
          have e1 : args = #[x] := by rw [← Array.toList_inj]; simpa using hargs
          subst e1
          have ht0 : argTypes[0]? = some t := by rw [← Array.getElem?_toList, htypes]; rfl
          simp only [forceE_eq, Kind.act.injEq] at hk
          subst hk
          obtain ⟨vm, hm, e2⟩ := O_ok hf
          obtain ⟨U, hU, hrel, rfl, rfl⟩ := lenMap_run (P := P) (ty := o.type) H ht0 hu (hmem x (by simp) vm hm) e2
          show Does P _ ((do let d ← resolve ρ ⟨.builtin .len, #[x], argTypes⟩ o.type; invoke d.target d.args : Sem Next).run P w)
          have : (do let d ← resolve ρ ⟨.builtin .len, #[x], argTypes⟩ o.type; invoke d.target d.args : Sem Next).run P w = .ok (.value U) w := by
            simp [resolve, invoke, builtin, hU]
          rw [this]
          exact ⟨Nat.le_refl _, σ, More.refl σ, fun _ hn _ => hn, hrel, H, Keep.refl _ _⟩
        · cases hk
      · rename_i s x st xt ts hargs htypes
        have e1 : args = #[s, x] := by rw [← Array.toList_inj]; simpa using hargs
        subst e1
        have ht0 : argTypes[0]? = some st := by rw [← Array.getElem?_toList, htypes]; rfl
        have ht1 : argTypes[1]? = some xt := by rw [← Array.getElem?_toList, htypes]; rfl
        unfold kAppend at hk
        split at hk
        · rename_i e hu hi
          split at hk
          · rename_i info z hinfo hz
            split at hk
            · rename_i h1 h2 h3
              simp only [forceN_eq, forceE_eq, Kind.act.injEq] at hk
              subst hk
              rw [blt_iff] at h1
              rw [ble_iff] at h2
              rw [beq_iff] at h3
              obtain ⟨vs, vx, hs, hx, e⟩ := act2_ok hf
              obtain ⟨Y, w', hw', hp⟩ := append_run (ty := o.type) ht0 ht1 hu hi hinfo hz (by simpa using h1) (by simpa using h2) (by simpa using h3) hrn H (hmem s (by simp) vs hs) (hmem x (by simp) vx hx) e
              show Does P _ ((do let d ← resolve ρ ⟨.builtin .append, #[s, x], argTypes⟩ o.type; invoke d.target d.args : Sem Next).run P w)
              have : (do let d ← resolve ρ ⟨.builtin .append, #[s, x], argTypes⟩ o.type; invoke d.target d.args : Sem Next).run P w = .ok (.value Y) w' := by
                simp [resolve, invoke, builtin, hw']
              rw [this]
              exact hp
            · cases hk
          · cases hk
        · cases hk
      · rename_i d x dt ts hargs htypes
        have e1 : args = #[d, x] := by rw [← Array.toList_inj]; simpa using hargs
        subst e1
        have ht0 : argTypes[0]? = some dt := by rw [← Array.getElem?_toList, htypes]; rfl
        unfold kCopy at hk
        split at hk
        · rename_i e hu
          split at hk
          · rename_i s hs
            simp only [forceN_eq, forceE_eq, Kind.act.injEq] at hk
            subst hk
            obtain ⟨vd, vx, hd, hx, e⟩ := act2_ok hf
            obtain ⟨Y, w', hw', hp⟩ := copy_run (ty := o.type) ht0 hu hs H (hmem d (by simp) vd hd) (hmem x (by simp) vx hx) e
            show Does P _ ((do let d ← resolve ρ ⟨.builtin .copy, #[d, x], argTypes⟩ o.type; invoke d.target d.args : Sem Next).run P w)
            have : (do let d ← resolve ρ ⟨.builtin .copy, #[d, x], argTypes⟩ o.type; invoke d.target d.args : Sem Next).run P w = .ok (.value Y) w' := by
              simp [resolve, invoke, builtin, hw']
            rw [this]
            exact hp
          · cases hk
        · cases hk
      · rename_i d dt ts hargs htypes
        have e1 : args = #[d] := by rw [← Array.toList_inj]; simpa using hargs
        subst e1
        have ht0 : argTypes[0]? = some dt := by rw [← Array.getElem?_toList, htypes]; rfl
        unfold kClear at hk
        split at hk
        · rename_i e hu
          split at hk
          · rename_i z hz
            simp only [forceE_eq, forceL_eq, Kind.act.injEq] at hk
            subst hk
            obtain ⟨vd, hd, e⟩ := O_ok hf
            obtain ⟨Y, w', hw', hp⟩ := clear_run (ty := o.type) ht0 hu hz H (hmem d (by simp) vd hd) e
            show Does P _ ((do let d ← resolve ρ ⟨.builtin .clear, #[d], argTypes⟩ o.type; invoke d.target d.args : Sem Next).run P w)
            have : (do let d ← resolve ρ ⟨.builtin .clear, #[d], argTypes⟩ o.type; invoke d.target d.args : Sem Next).run P w = .ok (.value Y) w' := by
              simp [resolve, invoke, builtin, hw']
            rw [this]
            exact hp
          · cases hk
        · cases hk
      · rename_i m k mt ts hargs htypes
        have e1 : args = #[m, k] := by rw [← Array.toList_inj]; simpa using hargs
        subst e1
        have ht0 : argTypes[0]? = some mt := by rw [← Array.getElem?_toList, htypes]; rfl
        unfold kDelete at hk
        split at hk
        · rename_i kt e hu
          simp only [forceE_eq, Kind.act.injEq] at hk
          subst hk
          obtain ⟨vm, vk, hm, hkk, e2⟩ := act2_ok hf
          obtain ⟨w', hw', hp⟩ := delete_run (P := P) (ty := o.type) H ht0 hu (hmem m (by simp) vm hm) (hmem k (by simp) vk hkk) e2
          show Does P _ ((do let d ← resolve ρ ⟨.builtin .delete, #[m, k], argTypes⟩ o.type; invoke d.target d.args : Sem Next).run P w)
          have : (do let d ← resolve ρ ⟨.builtin .delete, #[m, k], argTypes⟩ o.type; invoke d.target d.args : Sem Next).run P w = .ok (.value (.tuple #[])) w' := by
            simp [resolve, invoke, builtin, hw']
          rw [this]
          exact hp
        · cases hk
      · simp at hk
      · simp at hk
      · cases hk
    · rename_i _ fo
      simp only [forceE_eq, forceEs_eq, Kind.act.injEq] at hk
      subst hk
      obtain ⟨vf, hvf, e1⟩ := O_ok hf
      have e0 := onYield_ok e1
      clear e1
      rcases e0 with ⟨i, rfl, e2⟩ | e1
      · obtain ⟨vs, hvs, e3⟩ := O_ok e2
        rw [forceL_eq] at e3
        have hfv := hr fo (by simp [Op.operands, Call.operands]) _ hvf
        simp only [V.rel] at hfv
        obtain ⟨b, hb, hfo⟩ := hfv
        have hargs := runs_rel (ρ := ρ) (fun x hx => hr x (by simp only [Op.operands, Call.operands]; simp; exact .inr (by simpa using hx))) hvs
        show Does P _ ((do let d ← resolve ρ ⟨.value fo, args, argTypes⟩ o.type; invoke d.target d.args : Sem Next).run P w)
        have : (do let d ← resolve ρ ⟨.value fo, args, argTypes⟩ o.type; invoke d.target d.args : Sem Next).run P w = (Instr.yield b.block (args.map ρ)).run P w := by
          simp [resolve, hfo, Deferred.ofValue, invoke]
        rw [this]
        exact hcall.yield i _ h nx v h' nx' e3 σ N w _ b hmo hb hrn (by rw [Array.toList_map]; exact hargs) H
      obtain ⟨fn, first, captured, rfl, e2⟩ := onFunc_ok e1
      unfold onFn at e2
      split at e2
      · rename_i g
        obtain ⟨vs, hvs, e3⟩ := O_ok e2
        rw [forceL_eq] at e3
        have hfv := hr fo (by simp [Op.operands, Call.operands]) _ hvf
        simp only [V.rel] at hfv
        obtain ⟨a', c', hfo, ha', hc'⟩ := hfv
        have hargs := runs_rel (ρ := ρ) (fun x hx => hr x (by simp only [Op.operands, Call.operands]; simp; exact .inr (by simpa using hx))) hvs
        show Does P _ ((do let d ← resolve ρ ⟨.value fo, args, argTypes⟩ o.type; invoke d.target d.args : Sem Next).run P w)
        have : (do let d ← resolve ρ ⟨.value fo, args, argTypes⟩ o.type; invoke d.target d.args : Sem Next).run P w = (callFunc g ((a' ++ args.map ρ) ++ c')).run P w := by
          simp [resolve, hfo, Deferred.ofValue, invoke]
        rw [this]
        refine hcall.fn g _ h nx v h' nx' e3 σ N w _ hmo hrn ?_ H
        rw [Array.toList_append, Array.toList_append, Array.toList_map, List.append_assoc]
        exact ha'.append (hargs.append hc')
      · cases e2
    · rename_i _ ro' name
      simp only [forceE_eq, forceEs_eq, Kind.act.injEq] at hk
      subst hk
      obtain ⟨vr, hvr, e1⟩ := O_ok hf
      obtain ⟨t, v', rfl, e2⟩ := onIface_ok e1
      obtain ⟨g, hg, e3⟩ := O_ok e2
      obtain ⟨vs, hvs, e4⟩ := O_ok e3
      rw [forceL_eq] at e4
      have hfv := hr ro' (by simp [Op.operands, Call.operands]) _ hvr
      simp only [V.rel] at hfv
      obtain ⟨y, hy, hrel⟩ := hfv
      have hargs := runs_rel (ρ := ρ) (fun x hx => hr x (by simp only [Op.operands, Call.operands]; simp; exact .inr (by simpa using hx))) hvs
      show Does P _ ((do let d ← resolve ρ ⟨.invoke ro' name, args, argTypes⟩ o.type; invoke d.target d.args : Sem Next).run P w)
      have : (do let d ← resolve ρ ⟨.invoke ro' name, args, argTypes⟩ o.type; invoke d.target d.args : Sem Next).run P w = (callFunc g (#[y] ++ args.map ρ)).run P w := by
        have hm := method_run (n := P.types.size + 99) hg y w
        simp only [resolve, invoke, callMethod, hy, Sem.run_bind, Sem.run_pure, Result.andThen_ok]
        have e0 : (#[Value.iface t y] ++ Array.map ρ args)[0]? = some (.iface t y) := by rw [Array.getElem?_append_left (by simp)]; rfl
        have e1 : (#[Value.iface t y] ++ Array.map ρ args).extract 1 (#[Value.iface t y] ++ Array.map ρ args).size = args.map ρ := by apply Array.toList_inj.1; rw [Array.toList_extract]; simp [List.extract]; exact List.take_of_length_le (by simp)
        simp only [e0, e1]
        have hp : (program : Sem Program).run P w = .ok P w := rfl
        have hm' : Sem.run P (method (P.types.size + Made.depth) t y name) w = .ok (g, y) w := hm
        simp only [callMethod, Sem.run_bind, hp, Result.andThen_ok, hm']
      rw [this]
      refine hcall.fn g _ h nx v h' nx' e4 σ N w _ hmo hrn ?_ H
      rw [Array.toList_append, Array.toList_map]
      exact relL_cons hrel hargs
  | makeMap t r =>
    cases r with
    | some x => cases hk
    | none =>
      have hk : Kind.act (fun _ _ h nx => mkMapV h nx) = .act f := hk
      simp only [Kind.act.injEq] at hk
      subst hk
      have hf : mkMapV h nx = .ok v h' nx' := hf
      unfold mkMapV at hf
      obtain ⟨hb, hf⟩ := B_ok hf
      have hb : nx + 1 ≤ big := Nat.le_of_ble_eq_true hb
      rw [T.setK_eq, T.setsK_eq, T.setK_eq, forceN_eq] at hf
      simp only [CRes.ok.injEq] at hf
      obtain ⟨rfl, rfl, rfl⟩ := hf
      have hnone : σ nx = none := by
        cases hc : σ nx with
        | none => rfl
        | some b => exact absurd (H.old nx b hc) (Nat.lt_irrefl _)
      show Does P _ ((do let v ← Instr.makeMap t none; pure (.value v) : Sem Next).run P w)
      have e : (do let v ← Instr.makeMap t none; pure (.value v) : Sem Next).run P w = .ok (.value (.map (some w.heap.size))) (w.alloc (.map #[] 0)) := by
        simp [Instr.makeMap, run_newObj_alloc]
      rw [e]
      have hold : ∀ k, k < w.heap.size → (w.alloc (.map #[] 0)).heap[k]? = w.heap[k]? := fun k hk => Go.RowKit.Below.heap_alloc _ _ _ hk
      have H1 := H.enterO (w1 := w.alloc (.map #[] 0)) (l := w.heap.size) (d := .map) (blk0 := T.sets [.tuple [], .tuple [.int .u64 (.ofNat 0)]] .nil 0) rfl hrn hb (Nat.le_refl _) (by rw [World.size_alloc]; omega) hold (by
        intro l hl
        rw [T.get_sets] at hl
        simp at hl
        subst hl
        refine ⟨#[], 0, World.alloc_heap_new w _, rfl, fun c bs hcb => ?_⟩
        rw [T.get_sets] at hcb
        simp at hcb
        obtain ⟨rfl, rfl⟩ := bornsV_inj (show bornsV 0 [] = bornsV c bs from hcb)
        exact ⟨rfl, rfl⟩)
      exact ⟨Nat.le_succ _, _, upd_more hnone, fun i hi hlt => by unfold upd; rw [if_neg (by omega)]; exact hi, by simp only [V.rel]; exact ⟨_, ⟨upd_same _ _ _, rfl⟩, rfl⟩, H1,
        ⟨⟨rfl, rfl, rfl, by rw [World.size_alloc]; omega, fun k hk => hold k (by have := H.low; omega)⟩, fun k ds hk => by rw [hold k (Array.getElem?_eq_some_iff.1 hk).1]; exact hk, fun k r hk => ⟨r, by rw [hold k (Array.getElem?_eq_some_iff.1 hk).1]; exact hk⟩⟩⟩
  | convert s d x =>
    simp only [kind, kConvert] at hk
    split at hk
    · simp at hk
    · simp at hk
    · split at hk <;> simp at hk
    · split at hk <;> simp at hk
    · rename_i e0 e hs hd
      split at hk
      · rename_i hsd he
        simp only [forceE_eq, Kind.act.injEq] at hk
        subst hk
        obtain rfl := Nat.eq_of_beq_eq_true hsd
        obtain ⟨vm, hm, e2⟩ := O_ok hf
        obtain ⟨w', hw', hp⟩ := mark_run (P := P) H hs hd he (hr x (by simp [Op.operands]) vm hm) e2
        show Does P _ ((do let v ← convert s s (ρ x); pure (.value v) : Sem Next).run P w)
        simp only [Sem.run_bind, hw', Result.andThen_ok, Sem.run_pure]
        exact hp
      · cases hk
    · cases hk
  | load t x => simp [kind] at hk
  | move x => simp [kind] at hk
  | assign x => simp [kind] at hk
  | pick a b c => simp [kind] at hk
  | build t parts =>
    simp only [kind, kBuild] at hk
    split at hk
    · cases hk
    · split at hk
      · split at hk
        · rcases partsC_spec (ro := ro) (place := _) (bad := Kind.bad) parts.toList _ with hb | ⟨es, h1, -, -⟩
          · rw [hb] at hk; cases hk
          · rw [h1, forceL_eq] at hk; cases hk
        · cases hk
      · split at hk
        · rcases partsC_spec (ro := ro) (place := _) (bad := Kind.bad) parts.toList _ with hb | ⟨es, h1, -, -⟩
          · rw [hb] at hk; cases hk
          · rw [h1, forceL_eq] at hk; cases hk
        · cases hk
      · cases hk
  | nilCheck x => simp [kind] at hk
  | binOp bop t x y yt =>
    simp only [kind, kBinOp, forceE_eq] at hk
    split at hk
    · cases hk
    · split at hk
      · cases hk
      · cases hb : binC bop <;> rw [hb] at hk <;> cases hk
  | unOp a b c => simp [kind] at hk
  | makeInterface t x => simp only [kind] at hk; split at hk <;> simp at hk
  | makeFunc a b c => simp [kind] at hk
  | slice t x lo hi mx =>
    simp only [kind, kSlice] at hk
    split at hk
    · unfold kSlice3 at hk
      split at hk
      · split at hk <;> simp at hk
      · cases hk
    · simp only [forceE_eq, optE_eq] at hk
      split at hk
      · cases hk
      · split at hk <;> simp at hk
      · split at hk <;> simp at hk
      · cases hk
  | fieldAddr t x f' =>
    simp only [kind, kFieldAddr] at hk
    split at hk
    · split at hk
      · split at hk <;> simp at hk
      · cases hk
    · cases hk
  | field t x f' =>
    simp only [kind, kField] at hk
    split at hk
    · split at hk <;> simp at hk
    · cases hk
  | indexAddr t x ix =>
    simp only [kind, kIndexAddr] at hk
    split at hk
    · split at hk <;> simp at hk
    · split at hk <;> simp at hk
    · cases hk
  | index t x ix =>
    simp only [kind, kIndex] at hk
    split at hk
    · split at hk <;> simp at hk
    · simp at hk
    · cases hk
  | extract x ix => simp [kind] at hk
  | typeAssert x xt a ok => simp only [kind] at hk; split at hk <;> simp at hk
  | alloc t => simp only [kind] at hk; split at hk <;> simp at hk
  | box t x => simp [kind] at hk
  | buildSlice t n parts =>
    simp only [kind, kBuildSlice] at hk
    split at hk
    · split at hk
      · split at hk
        · rcases partsC_spec (ro := ro) (place := _) (bad := Kind.bad) parts.toList _ with hb | ⟨es, h1, -, -⟩
          · rw [forceL_eq, hb] at hk; cases hk
          · rw [forceL_eq, h1] at hk; cases hk
        · cases hk
      · cases hk
    · cases hk
  | makeSlice t l c =>
    simp only [kind, kMakeSlice] at hk
    split at hk
    · split at hk
      · split at hk <;> simp at hk
      · cases hk
    · cases hk
  | range t x =>
    simp only [kind, kRange, forceE_eq] at hk
    split at hk
    · rename_i kt e ht
      simp only [Kind.act.injEq] at hk
      subst hk
      obtain ⟨vm, hm, e2⟩ := O_ok hf
      obtain ⟨U, w', hU, hp⟩ := range_run (P := P) H hrn ht (hr x (by simp [Op.operands]) vm hm) e2
      show Does P _ ((do let v ← Instr.range t (ρ x); pure (.value v) : Sem Next).run P w)
      simp only [Sem.run_bind, hU, Result.andThen_ok, Sem.run_pure]
      exact hp
    · cases hk
  | entry x =>
    simp only [kind, forceE_eq, Kind.act.injEq] at hk
    subst hk
    obtain ⟨vm, hm, e2⟩ := O_ok hf
    obtain ⟨U, hU, hrel, rfl, rfl⟩ := entry_run (P := P) H (hr x (by simp [Op.operands]) vm hm) e2
    show Does P _ ((do let v ← Instr.entry (ρ x); pure (.value v) : Sem Next).run P w)
    simp only [Sem.run_bind, hU, Result.andThen_ok, Sem.run_pure]
    exact ⟨Nat.le_refl _, σ, More.refl σ, fun _ hn _ => hn, hrel, H, Keep.refl _ _⟩
  | lookup t x k ok =>
    simp only [kind, forceE_eq] at hk
    split at hk
    · rename_i kt e ht
      simp only [Kind.act.injEq] at hk
      subst hk
      obtain ⟨vm, vk, hm, hkk, e2⟩ := act2_ok hf
      obtain ⟨U, hU, hrel, rfl, rfl⟩ := lookup_run (P := P) H ht (hr x (by simp [Op.operands]) vm hm) (hr k (by simp [Op.operands]) vk hkk) e2
      show Does P _ ((do let v ← Instr.lookup t (ρ x) (ρ k) ok; pure (.value v) : Sem Next).run P w)
      simp only [Sem.run_bind, hU, Result.andThen_ok, Sem.run_pure]
      exact ⟨Nat.le_refl _, σ, More.refl σ, fun _ hn _ => hn, hrel, H, Keep.refl _ _⟩
    · cases hk
  | mapUpdate t m k x =>
    simp only [kind, forceE_eq] at hk
    split at hk
    · rename_i kt e ht
      simp only [Kind.act.injEq] at hk
      subst hk
      obtain ⟨vx, hx, e1⟩ := O_ok hf
      obtain ⟨vm, vk, hm, hkk, e2⟩ := act2_ok e1
      obtain ⟨w', hw', hp⟩ := update_run (P := P) H ht (hr m (by simp [Op.operands]) vm hm) (hr k (by simp [Op.operands]) vk hkk) (hr x (by simp [Op.operands]) vx hx) e2
      show Does P _ ((do Instr.mapUpdate t (ρ m) (ρ k) (ρ x); pure .skip : Sem Next).run P w)
      simp only [Sem.run_bind, hw', Result.andThen_ok, Sem.run_pure]
      exact hp
    · cases hk
  | sliceToArrayPointer t x => simp only [kind] at hk; split at hk <;> simp at hk
  | _ => simp [kind] at hk

end
end Go.Proofs.YteicddmekhdjeaaGreatDoor.Eng

/- Operations one after the other, control, calls. -/
namespace Go.Proofs.YteicddmekhdjeaaGreatDoor.Eng
variable [Syms]
open Go.RowKit (Below)

/-- The mark of a loop over a function among the deferred calls. -/
def markOf (D : Nat) : Deferred := { target := .collected D, args := #[] }

/-- Of deferred calls there are none but marks. -/
structure Marks (D0 : Nat) (w : World) (l : List Deferred) : Prop where
  out : ∃ ds : List Nat, l = ds.map markOf ∧ ds.Nodup ∧ ∀ D ∈ ds, D0 ≤ D ∧ w.heap[D]? = some (Obj.deferred (some []))

theorem Marks.nil {D0 : Nat} {w : World} : Marks D0 w [] := ⟨[], rfl, List.nodup_nil, fun _ h => by cases h⟩
theorem Marks.keep {D0 N : Nat} {w w' : World} {l : List Deferred} (h : Marks D0 w l) (k : Keep N w w') : Marks D0 w' l := by
  obtain ⟨ds, h1, h2, h3⟩ := h.out
  exact ⟨ds, h1, h2, fun D hD => ⟨(h3 D hD).1, k.marks D _ (h3 D hD).2⟩⟩

/-- How the evaluator's state stands to the run's. -/
structure St (σ : Names) (ro : Lo) (N D0 nt : Nat) (tm : T V) (h : Heap) (nx : Nat) (a : Act) (w : World) : Prop where
  tmps : TRel σ nt tm a.tmps
  defers : Marks D0 w a.defers
  mem : HRel σ ro N h nx w
  ron : ro.ro ≤ nx
  d0 : D0 ≤ w.heap.size

/-- Later. -/
structure After (N : Nat) (σ : Names) (nx : Nat) (w : World) (τ : Names) (nx' : Nat) (w' : World) : Prop where
  more : More σ τ
  new : ∀ i, σ i = none → i < nx → τ i = none
  le : nx ≤ nx'
  below : Keep N w w'

theorem After.refl (N : Nat) (σ : Names) (nx : Nat) (w : World) : After N σ nx w σ nx w := ⟨More.refl σ, fun _ h _ => h, Nat.le_refl _, Keep.refl _ _⟩
theorem After.trans {N : Nat} {σ τ υ : Names} {n m k : Nat} {w w' w'' : World} (a : After N σ n w τ m w') (b : After N τ m w' υ k w'') : After N σ n w υ k w'' :=
  ⟨a.more.trans b.more, fun i h hl => b.new i (a.new i h hl) (Nat.lt_of_lt_of_le hl a.le), Nat.le_trans a.le b.le, a.below.trans b.below⟩

/-- In a round, the loop's record is there. -/
def RdOk (rd : Option Nat) (w : World) : Prop := ∀ l, rd = some l → ∃ r, w.heap[l]? = some (Obj.loop r)
theorem RdOk.keep {rd : Option Nat} {N : Nat} {w w' : World} (h : RdOk rd w) (k : Keep N w w') : RdOk rd w' := fun l hl => let ⟨r, hr⟩ := h l hl; k.loops l r hr

/-- An operation that was made ready is the operation. -/
structure OpOk (P : Program) (ro : Lo) (nt : Nat) (ops : Array Oper) (o : Oper) (g : Option (Nat × Bool)) (dst : Option Nat) (k : Kind) : Prop where
  guard : guardC ops o = some g
  dst : dst = o.dst
  dstOk : dstOk nt o = true
  kind : k = kind P ro o.op

section
variable {P : Program} {σ : Names} {ro : Lo} {N D0 nt nx : Nat} {h : Heap} {w : World}

theorem putK_eq {t : T V} {dst : Option Nat} {v : V} {c : T V → Res} : putK t dst v c = c (match dst with | some d => t.set (some v) d | none => t) := by
  cases dst with
  | none => rfl
  | some d => exact T.setK_eq _ _ _ _

theorem TRel.put {tm : T V} {a : Act} (h : TRel σ nt tm a.tmps) {o : Oper} (hd : dstOk nt o = true) {v : V} {y : Value} (hv : v.rel σ y) :
    TRel σ nt (match o.dst with | some d => tm.set (some v) d | none => tm) (a.put o.dst y).tmps := by
  unfold Eng.dstOk at hd
  cases hdst : o.dst with
  | none => exact h
  | some d =>
    rw [hdst] at hd
    exact h.set (blt_true hd) hv

theorem put_defers (a : Act) (d : Option Tmp) (y : Value) : (a.put d y).defers = a.defers := by cases d <;> rfl

theorem undef_rel : (V.tuple []).rel σ undef := by simp only [V.rel]; exact ⟨#[], rfl, relL_nil⟩

theorem wants_sound {ops : Array Oper} {o : Oper} {g : Option (Nat × Bool)} (hg : guardC ops o = some g) {tm : T V} {a : Act} (ht : ∀ d want, g = some (d, want) → ∀ v, tm.get d = some v → ∃ x, a.tmps[d]? = some x ∧ v.rel σ x) {b : Bool} (hw : wants g tm = some b) : Region.wanted o (yielded ops a.tmps) = b := by
  unfold guardC at hg
  unfold Region.wanted
  cases hgu : o.guard with
  | none =>
    rw [hgu] at hg
    obtain rfl := Option.some.inj hg
    exact Option.some.inj hw
  | some p =>
    obtain ⟨j, want⟩ := p
    rw [hgu] at hg
    simp only at hg ⊢
    cases hoj : ops[j]? with
    | none => rw [hoj] at hg; cases hg
    | some q =>
      rw [hoj] at hg
      simp only at hg
      cases hd : q.dst with
      | none => rw [hd] at hg; cases hg
      | some d =>
        rw [hd] at hg
        obtain rfl := Option.some.inj hg
        have hw : O (tm.get d) none (fun v => v.onSym (v.onAny none (v.onBool (some false) fun b => some (B want b (notB b)))) fun _ => none) = some b := hw
        obtain ⟨v, hv, hw2⟩ := O_some' hw
        obtain ⟨x, hx, hr⟩ := ht d want rfl v hv
        have hy : yielded ops a.tmps j = (match x with | .bool b => some b | _ => none) := by
          unfold yielded
          rw [hoj]
          simp only [Option.bind_some, hd, hx]
          cases x <;> rfl
        rw [hy]
        cases v with
        | bool c =>
          simp only [V.rel] at hr
          subst hr
          have hw2 : some (B want c (notB c)) = some b := hw2
          obtain rfl := Option.some.inj hw2
          cases want <;> cases c <;> rfl
        | slice i off len cap es =>
          have hw2 : some false = some b := hw2
          obtain rfl := Option.some.inj hw2
          simp only [V.rel] at hr
          obtain ⟨_, _, hr⟩ := hr
          rcases hr with ⟨_, _, rfl⟩ | ⟨_, o, c, _, _, _, rfl⟩ <;> rfl
        | sym i => cases (show (none : Option Bool) = some b from hw2)
        | any => cases (show (none : Option Bool) = some b from hw2)
        | _ =>
          have hw2 : some false = some b := hw2
          obtain rfl := Option.some.inj hw2
          simp only [V.rel] at hr
          first
            | (subst hr; rfl)
            | (obtain ⟨_, rfl, _⟩ := hr; rfl)
            | (obtain ⟨_, _, rfl⟩ := hr; rfl)
            | (obtain ⟨_, _, rfl, _⟩ := hr; rfl)

theorem onC_ok {r : CRes} {pos : String} {c : V → Heap → Nat → Res} {e : Ex} {tm : T V} {h' : Heap} {nx' : Nat} (x : onC r pos c = .ok e tm h' nx') : ∃ v h1 n1, r = .ok v h1 n1 ∧ c v h1 n1 = .ok e tm h' nx' := by
  cases r with
  | fail why => cases x
  | ok v h1 n1 => exact ⟨v, h1, n1, rfl, x⟩
theorem O_okR {α : Type} {x : Option α} {why : List String} {c : α → Res} {e : Ex} {tm : T V} {h' : Heap} {nx' : Nat} (r : O x (.fail why) c = .ok e tm h' nx') : ∃ y, x = some y ∧ c y = .ok e tm h' nx' := by
  cases x <;> first | exact ⟨_, rfl, r⟩ | cases r

/-- One operation that its guard lets run. -/
theorem kindK_sound {rd : Option Nat} {ops : Array Oper} {o : Oper} {g : Option (Nat × Bool)} {dst : Option Nat} {k : Kind} (hok : OpOk P ro nt ops o g dst k) {callF : CallF} {σ0 : Names} (hcall : CallOk P ro σ0 callF) (hmo : More σ0 σ) {pos : String} {tm : T V} {c : T V → Heap → Nat → Res} {e : Ex} {tm' : T V} {h' : Heap} {nx' : Nat}
    (hx : kindK callF dst k pos tm h nx c = .ok e tm' h' nx') {a : Act} (S : St σ ro N D0 nt tm h nx a w) {next : Act → World → Prop} {Q : Exit → Act → World → Prop}
    (hn : ∀ τ tm1 h1 nx1 y w1, After N σ nx w τ nx1 w1 → St τ ro N D0 nt tm1 h1 nx1 (a.put o.dst y) w1 → c tm1 h1 nx1 = .ok e tm' h' nx' → next (a.put o.dst y) w1) : o.wpIn (wideAt rd) 0 P a w next Q := by
  obtain ⟨hg, hdst, hdok, hk⟩ := hok
  subst hdst
  have hops : ∀ x ∈ o.op.operands.toList, ORel σ ro tm a.eval x := fun x _ => S.tmps.operand S.mem.globals x
  refine ⟨fun _ _ => trivial, ?_⟩
  cases k with
  | pure f =>
    have hx : O (f tm) (.fail [pos]) (fun v => putK tm o.dst v fun tm => c tm h nx) = .ok e tm' h' nx' := hx
    obtain ⟨v, hv, hx2⟩ := O_okR hx
    rw [putK_eq] at hx2
    rw [semAt_of hk.symm (fun e => by cases e) rd]
    obtain ⟨Y, hY, hr⟩ := pure_sound hk.symm hv hops o rfl w
    rw [hY]
    exact hn σ _ h nx Y w (After.refl _ _ _ _) ⟨S.tmps.put hdok hr, by rw [put_defers]; exact S.defers, S.mem, S.ron, S.d0⟩ hx2
  | read f =>
    have hx : O (f tm) (.fail [pos]) (fun r => O (rdV h r) (.fail [pos]) fun v => putK tm o.dst v fun tm => c tm h nx) = .ok e tm' h' nx' := hx
    obtain ⟨r, hr, hx2⟩ := O_okR hx
    obtain ⟨v, hv, hx3⟩ := O_okR hx2
    rw [putK_eq] at hx3
    rw [semAt_of hk.symm (fun e => by cases e) rd]
    obtain ⟨Y, hY, hr⟩ := read_sound hk.symm hr hops o rfl S.mem hv
    rw [hY]
    exact hn σ _ h nx Y w (After.refl _ _ _ _) ⟨S.tmps.put hdok hr, by rw [put_defers]; exact S.defers, S.mem, S.ron, S.d0⟩ hx3
  | make f =>
    have hx : O (f tm nx) (.fail [pos]) (fun p => onP p fun v l => makeK h nx l fun h => putK tm o.dst v fun tm => forceN (Nat.succ nx) fun nx => c tm h nx) = .ok e tm' h' nx' := hx
    obtain ⟨⟨v, l⟩, hv, hx2⟩ := O_okR hx
    have hx2 : makeK h nx l (fun h => putK tm o.dst v fun tm => forceN (Nat.succ nx) fun nx => c tm h nx) = .ok e tm' h' nx' := hx2
    unfold makeK at hx2
    rw [T.setsK_eq, T.setK_eq, putK_eq, forceN_eq] at hx2
    rw [semAt_of hk.symm (fun e => by cases e) rd]
    obtain ⟨Y, w', hY, ⟨C, M, hrv, hrl⟩⟩ := make_sound hk.symm hv hops o rfl w
    rw [hY]
    have hnone : σ nx = none := by
      cases hc : σ nx with
      | none => rfl
      | some b => exact absurd (S.mem.old nx b hc) (Nat.lt_irrefl _)
    have Hm := (S.mem.unnamed (T.sets l .nil 0)).named (i := nx) (blk := T.sets l .nil 0) (Nat.lt_succ_self _) S.ron hnone (by rw [T.get_set, if_pos rfl]) M (fun o' v' ho' => hrl o' v' (sets_get l ho'))
    have hmore := upd_more (b := ⟨w.heap.size, 0, C.size, .no⟩) hnone
    exact hn _ _ _ _ Y w' ⟨hmore, fun i hi hlt => by unfold upd; rw [if_neg (by omega)]; exact hi, Nat.le_succ _, M.below S.mem.low⟩
      ⟨(S.tmps.more hmore).put hdok (hrv _ hmore (upd_same _ _ _)), by rw [put_defers]; exact S.defers.keep (M.below S.mem.low), Hm, Nat.le_succ_of_le S.ron, Nat.le_trans S.d0 (M.below (N := N) S.mem.low).below.size⟩ hx2
  | act f =>
    have hx : onC (f callF tm h nx) pos (fun v h nx => putK tm o.dst v fun tm => c tm h nx) = .ok e tm' h' nx' := hx
    obtain ⟨v, h1, n1, hv, hx2⟩ := onC_ok hx
    rw [putK_eq] at hx2
    rw [semAt_of hk.symm (fun e => by cases e) rd]
    exact (act_sound hk.symm hcall hmo hv hops o rfl S.ron S.mem).upon fun y w' ⟨hle, τ, hmore, hnew, hrel, Hm, hbel⟩ =>
      hn τ _ h1 n1 y w' ⟨hmore, hnew, hle, hbel⟩ ⟨(S.tmps.more hmore).put hdok hrel, by rw [put_defers]; exact S.defers.keep hbel, Hm, Nat.le_trans S.ron hle, Nat.le_trans S.d0 hbel.below.size⟩ hx2
  | bad => cases hx

/-- A list of operations that were made ready. -/
inductive OpsOk (P : Program) (ro : Lo) (nt : Nat) (ops : Array Oper) : List Oper → List OpR → Prop where
  | nil : OpsOk P ro nt ops [] []
  | cons {o : Oper} {g : Option (Nat × Bool)} {dst : Option Nat} {k : Kind} {pos : String} {os : List Oper} {rs : List OpR} : OpOk P ro nt ops o g dst k → OpsOk P ro nt ops os rs → OpsOk P ro nt ops (o :: os) (.mk g dst k pos :: rs)

theorem opsK_sound {rd : Option Nat} {ops : Array Oper} {callF : CallF} {σ0 : Names} (hcall : CallOk P ro σ0 callF) {e : Ex} {tm' : T V} {h' : Heap} {nx' : Nat} {Q : Exit → Act → World → Prop} :
    ∀ {os : List Oper} {rs : List OpR}, OpsOk P ro nt ops os rs → ∀ {σ : Names} {tm : T V} {h : Heap} {nx : Nat} {a : Act} {w : World}, More σ0 σ → St σ ro N D0 nt tm h nx a w → opsK callF rs tm h nx = .ok e tm' h' nx' →
    (e = .normal → ∀ τ a' w', After N σ nx w τ nx' w' → St τ ro N D0 nt tm' h' nx' a' w' → Q .normal a' w') → wpListIn (wideAt rd) 0 P ops Q os a w := by
  intro os rs hos
  induction hos with
  | nil =>
    intro σ tm h nx a w hmo S hx hQ
    have hx : Res.ok .normal tm h nx = .ok e tm' h' nx' := hx
    simp only [Res.ok.injEq] at hx
    obtain ⟨rfl, rfl, rfl, rfl⟩ := hx
    exact hQ rfl σ a w (After.refl _ _ _ _) S
  | @cons o g dst k pos os rs hok _ ih =>
    intro σ tm h nx a w hmo S hx hQ
    have hx : O (wants g tm) (.fail [pos]) (fun b => B b (kindK callF dst k pos tm h nx (opsK callF rs)) (putK tm dst (.tuple []) fun tm => opsK callF rs tm h nx)) = .ok e tm' h' nx' := hx
    obtain ⟨b, hb, hx2⟩ := O_okR hx
    have hw := wants_sound (σ := σ) hok.guard (fun d _ _ v hv => S.tmps.get d v hv) hb
    unfold wpListIn
    cases b with
    | true =>
      rw [if_pos hw]
      have hx2 : kindK callF dst k pos tm h nx (opsK callF rs) = .ok e tm' h' nx' := hx2
      exact kindK_sound hok hcall hmo hx2 S fun τ tm1 h1 nx1 y w1 A S1 hx3 => ih (hmo.trans A.more) S1 hx3 fun he τ' a' w' A' S' => hQ he τ' a' w' (A.trans A') S'
    | false =>
      rw [if_neg (by rw [hw]; decide)]
      have hx2 : putK tm dst (.tuple []) (fun tm => opsK callF rs tm h nx) = .ok e tm' h' nx' := hx2
      rw [putK_eq, hok.dst] at hx2
      exact ⟨fun _ _ => trivial, ih hmo ⟨S.tmps.put hok.dstOk undef_rel, by rw [put_defers]; exact S.defers, S.mem, S.ron, S.d0⟩ hx2 hQ⟩

theorem kindK_normal {callF : CallF} {dst : Option Nat} {k : Kind} {pos : String} {tm : T V} {c : T V → Heap → Nat → Res} {e : Ex} {tm' : T V} {h h' : Heap} {nx nx' : Nat}
    (hx : kindK callF dst k pos tm h nx c = .ok e tm' h' nx') (hc : ∀ tm1 h1 n1, c tm1 h1 n1 = .ok e tm' h' nx' → e = .normal) : e = .normal := by
  cases k with
  | pure f =>
    obtain ⟨v, -, hx2⟩ := O_okR (x := f tm) hx
    rw [putK_eq] at hx2; exact hc _ _ _ hx2
  | read f =>
    obtain ⟨r, -, hx2⟩ := O_okR (x := f tm) hx
    obtain ⟨v, -, hx3⟩ := O_okR hx2
    rw [putK_eq] at hx3; exact hc _ _ _ hx3
  | make f =>
    obtain ⟨⟨v, l⟩, -, hx2⟩ := O_okR (x := f tm nx) hx
    have hx2 : makeK h nx l (fun h => putK tm dst v fun tm => forceN (Nat.succ nx) fun nx => c tm h nx) = .ok e tm' h' nx' := hx2
    unfold makeK at hx2
    rw [T.setsK_eq, T.setK_eq, putK_eq, forceN_eq] at hx2; exact hc _ _ _ hx2
  | act f =>
    obtain ⟨v, h1, n1, -, hx2⟩ := onC_ok (r := f callF tm h nx) hx
    rw [putK_eq] at hx2; exact hc _ _ _ hx2
  | bad => cases hx

theorem opsK_normal {callF : CallF} : ∀ {rs : List OpR} {tm : T V} {h : Heap} {nx : Nat} {e : Ex} {tm' : T V} {h' : Heap} {nx' : Nat}, opsK callF rs tm h nx = .ok e tm' h' nx' → e = .normal
  | [], tm, h, nx, e, tm', h', nx', hx => by
    have hx : Res.ok .normal tm h nx = .ok e tm' h' nx' := hx
    simp only [Res.ok.injEq] at hx
    exact hx.1.symm
  | .mk g dst k pos :: rs, tm, h, nx, e, tm', h', nx', hx => by
    obtain ⟨b, -, hx2⟩ := O_okR (x := wants g tm) hx
    cases b with
    | true => exact kindK_normal (c := opsK callF rs) hx2 fun _ _ _ h1 => opsK_normal h1
    | false =>
      have hx2 : putK tm dst (.tuple []) (fun tm => opsK callF rs tm h nx) = .ok e tm' h' nx' := hx2
      rw [putK_eq] at hx2
      exact opsK_normal hx2

end
end Go.Proofs.YteicddmekhdjeaaGreatDoor.Eng

/- 'The same' says so rightly. -/
namespace Go.Proofs.YteicddmekhdjeaaGreatDoor.Eng
variable [Syms]

theorem andB_true {a b : Bool} (h : andB a b = true) : a = true ∧ b = true := by rw [andB_eq, Bool.and_eq_true] at h; exact h
theorem nbeq {a b : Nat} (h : Nat.beq a b = true) : a = b := Nat.eq_of_beq_eq_true h

theorem onBool_true {v : V} {c : Bool → Bool} (h : v.onBool false c = true) : ∃ b, v = .bool b ∧ c b = true := by cases v <;> first | exact ⟨_, rfl, h⟩ | cases h
theorem onInt_true {v : V} {c : IntKind → Int → Bool} (h : v.onInt false c = true) : ∃ k n, v = .int k n ∧ c k n = true := by cases v <;> first | exact ⟨_, _, rfl, h⟩ | cases h
theorem onStr_true {v : V} {c : List UInt8 → Bool} (h : v.onStr false c = true) : ∃ l, v = .str l ∧ c l = true := by cases v <;> first | exact ⟨_, rfl, h⟩ | cases h
theorem onPtr_true {v : V} {c : Nat → Nat → Bool} (h : v.onPtr false c = true) : ∃ i o, v = .ptr i o ∧ c i o = true := by cases v <;> first | exact ⟨_, _, rfl, h⟩ | cases h
theorem onSlice_true {v : V} {n : Bool} {c : Nat → Nat → Nat → Nat → Nat → Bool} (h : v.onSlice false n c = true) : (v = .nilslice ∧ n = true) ∨ ∃ i o k p e, v = .slice i o k p e ∧ c i o k p e = true := by
  cases v <;> first | exact .inl ⟨rfl, h⟩ | exact .inr ⟨_, _, _, _, _, rfl, h⟩ | cases h
theorem onIface_true {v : V} {n : Bool} {c : TypeId → V → Bool} (h : v.onIface false n c = true) : (v = .niliface ∧ n = true) ∨ ∃ t x, v = .iface t x ∧ c t x = true := by
  cases v <;> first | exact .inl ⟨rfl, h⟩ | exact .inr ⟨_, _, rfl, h⟩ | cases h
theorem onFunc_true {v : V} {c : Fn → List V → List V → Bool} (h : v.onFunc false c = true) : ∃ f a b, v = .func f a b ∧ c f a b = true := by cases v <;> first | exact ⟨_, _, _, rfl, h⟩ | cases h
theorem onAgg_true {v : V} {c : List V → Bool} (h : v.onAgg false c = true) : ∃ l, v = .agg l ∧ c l = true := by cases v <;> first | exact ⟨_, rfl, h⟩ | cases h
theorem onFn_true {f : Fn} {c : FuncId → Bool} (h : onFn f false c = true) : ∃ g, f = .func g ∧ c g = true := by cases f <;> first | exact ⟨_, rfl, h⟩ | cases h

theorem onMap_true {v : V} {n : Bool} {c : Nat → Bool} (h : v.onMap false n c = true) : (v = .nilmap ∧ n = true) ∨ ∃ i, v = .map i ∧ c i = true := by
  cases v <;> first | exact .inl ⟨rfl, h⟩ | exact .inr ⟨_, rfl, h⟩ | cases h
theorem onYield_true {v : V} {c : Nat → Bool} (h : v.onYield false c = true) : ∃ i, v = .yield i ∧ c i = true := by cases v <;> first | exact ⟨_, rfl, h⟩ | cases h

theorem onSym_true {v : V} {c : Nat → Bool} (h : v.onSym false c = true) : ∃ i, v = .sym i ∧ c i = true := by cases v <;> first | exact ⟨_, rfl, h⟩ | cases h

theorem onIter_true {v : V} {c : Nat → Bool} (h : v.onIter false c = true) : ∃ i, v = .iter i ∧ c i = true := by cases v <;> first | exact ⟨_, rfl, h⟩ | cases h

theorem same1_eq {a b : V} (h : same1 a b = true) : a = b := by
  cases a with
  | bool x =>
    obtain ⟨y, rfl, h2⟩ := onBool_true (v := b) h
    cases x <;> cases y <;> first | rfl | cases h2
  | int k x =>
    obtain ⟨l, y, rfl, h2⟩ := onInt_true (v := b) h
    obtain ⟨h3, h4⟩ := andB_true h2
    rw [eqI_eq] at h4
    rw [kindEq_true h3, of_decide_eq_true h4]
  | str x =>
    obtain ⟨y, rfl, h2⟩ := onStr_true (v := b) h
    rw [eqBytes_true] at h2
    rw [eq_of_beq h2]
  | nilptr => cases b <;> first | rfl | cases h
  | ptr i o =>
    obtain ⟨j, p, rfl, h2⟩ := onPtr_true (v := b) h
    obtain ⟨h3, h4⟩ := andB_true h2
    rw [nbeq h3, nbeq h4]
  | nilslice =>
    rcases onSlice_true (v := b) h with ⟨rfl, _⟩ | ⟨_, _, _, _, _, rfl, h2⟩
    · rfl
    · cases h2
  | slice i o n c e =>
    rcases onSlice_true (v := b) h with ⟨rfl, h2⟩ | ⟨_, _, _, _, _, rfl, h2⟩
    · cases h2
    · obtain ⟨h3, h4⟩ := andB_true h2
      obtain ⟨h5, h6⟩ := andB_true h4
      obtain ⟨h7, h8⟩ := andB_true h6
      obtain ⟨h9, h10⟩ := andB_true h8
      rw [nbeq h3, nbeq h5, nbeq h7, nbeq h9, nbeq h10]
  | nilfunc => cases b <;> first | rfl | cases h
  | func f x y => cases h
  | niliface =>
    rcases onIface_true (v := b) h with ⟨rfl, _⟩ | ⟨_, _, rfl, h2⟩
    · rfl
    · cases h2
  | iface t x => cases h
  | agg l => cases h
  | tuple l => cases h
  | nilmap => cases b <;> first | rfl | cases h
  | map i =>
    rcases onMap_true (v := b) h with ⟨_, h2⟩ | ⟨_, rfl, h2⟩
    · cases h2
    · rw [nbeq h2]
  | yield i =>
    obtain ⟨_, rfl, h2⟩ := onYield_true (v := b) h
    rw [nbeq h2]
  | sym i =>
    obtain ⟨_, rfl, h2⟩ := onSym_true (v := b) h
    rw [nbeq h2]
  | iter i =>
    obtain ⟨_, rfl, h2⟩ := onIter_true (v := b) h
    rw [nbeq h2]
  | any => cases b <;> first | rfl | cases h

theorem sameL_eq {f : V → V → Bool} (hf : ∀ a b, f a b = true → a = b) : ∀ {l m : List V}, sameL f l m = true → l = m
  | [], [], _ => rfl
  | [], _ :: _, h => by cases h
  | _ :: _, [], h => by cases h
  | a :: x, b :: y, h => by
    simp only [sameL] at h
    cases hab : f a b with
    | false => rw [hab] at h; cases h
    | true =>
      rw [hab, B_true] at h
      rw [hf a b hab, sameL_eq hf h]

theorem same_eq {a b : V} (h : same a b = true) : a = b := by
  cases a with
  | agg l =>
    obtain ⟨m, rfl, h2⟩ := onAgg_true (v := b) h
    rw [sameL_eq (fun _ _ => same1_eq) h2]
  | iface t x =>
    rcases onIface_true (v := b) h with ⟨rfl, h2⟩ | ⟨u, y, rfl, h2⟩
    · cases h2
    · obtain ⟨h3, h4⟩ := andB_true h2
      rw [nbeq h3, same1_eq h4]
  | func f x y =>
    obtain ⟨g, z, w, rfl, h2⟩ := onFunc_true (v := b) h
    obtain ⟨f', rfl, h3⟩ := onFn_true h2
    obtain ⟨g', rfl, h4⟩ := onFn_true h3
    obtain ⟨h5, h6⟩ := andB_true h4
    obtain ⟨h7, h8⟩ := andB_true h6
    rw [nbeq h5, sameL_eq (fun _ _ => same1_eq) h7, sameL_eq (fun _ _ => same1_eq) h8]
  | _ => exact same1_eq h

theorem sameO_eq {a b : Option V} (h : sameO a b = true) : a = b := by
  cases a with
  | none => cases b <;> first | rfl | cases h
  | some x =>
    cases b with
    | none => cases h
    | some y => rw [same_eq (show same x y = true from h)]

theorem sameT_eq : ∀ {a b : T V}, sameT a b = true → a = b
  | .nil, .nil, _ => rfl
  | .nil, .node .., h => by cases h
  | .node .., .nil, h => by cases h
  | .node v l r, .node v' l' r', h => by
    have h : andB (sameO v v') (andB (sameT l l') (sameT r r')) = true := h
    obtain ⟨h1, h2⟩ := andB_true h
    obtain ⟨h3, h4⟩ := andB_true h2
    rw [sameO_eq h1, sameT_eq h3, sameT_eq h4]

/-- What a float has found is there. -/
def FoundOk (h : Heap) : Found → Prop
  | .read _ r v => rdV h r = some v
  | .block _ i b => h.get i = some b
def Found.hi : Found → Nat
  | .read hi _ _ => hi
  | .block hi _ _ => hi

theorem again_ok {h : Heap} {j : Nat} : ∀ {fs : List Found}, again h j fs = true → ∀ f ∈ fs, j ≤ f.hi → FoundOk h f
  | [], _, f, hf, _ => by cases hf
  | .read hi r v :: fs, ha, f, hf, hj => by
    have ha : B (Nat.ble j hi) (O (rdV h r) false fun u => B (same u v) (again h j fs) false) (again h j fs) = true := ha
    rw [ble_iff] at ha
    by_cases hle : j ≤ hi
    · rw [decide_eq_true hle, B_true] at ha
      cases hr : rdV h r with
      | none => rw [hr] at ha; cases ha
      | some u =>
        rw [hr, O_some] at ha
        cases hs : same u v with
        | false => rw [hs] at ha; cases ha
        | true =>
          rw [hs, B_true] at ha
          rcases List.mem_cons.1 hf with rfl | hf
          · show rdV h r = some v
            rw [hr, same_eq hs]
          · exact again_ok ha f hf hj
    · rw [decide_eq_false hle, B_false] at ha
      rcases List.mem_cons.1 hf with rfl | hf
      · exact absurd hj hle
      · exact again_ok ha f hf hj
  | .block hi i b0 :: fs, ha, f, hf, hj => by
    have ha : B (Nat.ble j hi) (O (h.get i) false fun b => B (sameT b b0) (again h j fs) false) (again h j fs) = true := ha
    rw [ble_iff] at ha
    by_cases hle : j ≤ hi
    · rw [decide_eq_true hle, B_true] at ha
      cases hr : h.get i with
      | none => rw [hr] at ha; cases ha
      | some u =>
        rw [hr, O_some] at ha
        cases hs : sameT u b0 with
        | false => rw [hs] at ha; cases ha
        | true =>
          rw [hs, B_true] at ha
          rcases List.mem_cons.1 hf with rfl | hf
          · show h.get i = some b0
            rw [hr, sameT_eq hs]
          · exact again_ok ha f hf hj
    · rw [decide_eq_false hle, B_false] at ha
      rcases List.mem_cons.1 hf with rfl | hf
      · exact absurd hj hle
      · exact again_ok ha f hf hj

end Go.Proofs.YteicddmekhdjeaaGreatDoor.Eng
