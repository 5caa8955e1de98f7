/- Bytes: zeros are appended (append of a made slice: the translation hands over the number). -/
import Derived.Lib.AppendStr
import Derived.Lib.AppendZerosOnto
import Derived.Test.YtpeinngifknpkaaGreatDoorDiskKit
namespace Go.Proofs.YtpeinngifknpkaaGreatDoor
open Go.RowKit Go.Sort

theorem zeroCells_by (k : Nat) : Builtin.zeroCells (Value.int .u8 0).cells k = (bV (List.replicate k 0)).toArray := by
  apply Array.ext'
  simp only [Builtin.zeroCells, bV, Value.cells]
  simp [List.map_replicate]
  apply List.ext_getElem?
  intro i
  simp only [List.getElem?_map, List.getElem?_range', List.getElem?_replicate]
  rcases Nat.lt_or_ge i k with h | h
  · simp [h, Nat.mod_one]
  · simp [h, Nat.not_lt.2 h]

theorem zeros_new {w : World} {base : Nat} {xs : List UInt8} {k c : Nat} (hb : base ≤ w.heap.size) (hc : xs.length + k ≤ c) (hm : c ≤ maxLen) :
    ByOwn (w.drew.alloc (.cells ((bV xs).toArray ++ Builtin.zeroCells (Value.int .u8 0).cells k ++ Builtin.zeroCells (Value.int .u8 0).cells (c - (xs.length + k))) 5)) base (.slice (some ⟨w.heap.size, 0, none⟩) (xs.length + k) c) (xs ++ List.replicate k 0) := by
  refine .inl ⟨by simp [bV], .inr ⟨w.heap.size, c, _, by simp, hb, heap_alloc_new w.drew _, by simpa using hc, hm, ?_, ?_⟩⟩
  · rw [zeroCells_by, zeroCells_by]; simp [bV]; omega
  · have e : bV (xs ++ List.replicate k 0) = bV xs ++ bV (List.replicate k 0) := by simp [bV]
    rw [zeroCells_by, zeroCells_by, e]
    simp only [Array.toList_append]
    exact List.take_left' (by simp [bV])

theorem zeros_grow {w : World} {base : Nat} (a : Option Addr) {xs : List UInt8} {c k : Nat} (h0 : 0 < k) (hk : xs.length + k ≤ 100000) (hg : c < xs.length + k) (hb : base ≤ w.heap.size) (ty : TypeId)
    (hold : ∀ W : World, W = w.drew → (Builtin.firstCells 1 xs.length (.slice a xs.length c)).run Tryz.prog W = .ok (bV xs).toArray W) (row : Option Nat) :
    ∃ v' w', (Builtin.append_ #[28, 3] ty #[.slice a xs.length c, .int .i64 (k : Int)]).run Tryz.prog w = .ok v' w' ∧ ByOwn w' base v' (xs ++ List.replicate k 0) ∧ w.grownBy w' row ∧ rowOf v' = some w.heap.size := by
  obtain ⟨i0, hi0, hz0, hz1, hz2⟩ := info_bparts info_by
  have hr := Lib.run_append_grow_zeros (P := Tryz.prog) w 28 3 ty 5 i0 _ .i64 .i64 Tryz.underlying28 Tryz.underlying3 hi0 hz0 a xs.length c (bV xs) (by rw [hz1]; exact hold _ rfl) k h0 (by omega) hg (by omega) (by rw [hz2]; omega) (by rw [hz2]; exact growslice_fits hg (by omega))
  have hge := grownCap_ge w (xs.length + k) c 5
  have hcm : grownCap w (xs.length + k) c 5 ≤ maxLen := grownCap_le_maxLen w (xs.length + k) c 5 (by simp [maxLen]; omega)
  refine ⟨_, _, hr, zeros_new hb hge hcm, ⟨rfl, rfl, rfl, by simp, fun j hj _ => heap_alloc_old w.drew _ hj⟩, ?_⟩
  unfold rowOf
  obtain ⟨m, hm⟩ : ∃ m, grownCap w (xs.length + k) c 5 = m + 1 := ⟨grownCap w (xs.length + k) c 5 - 1, by omega⟩
  rw [hm]

theorem zeros_run {w : World} {base : Nat} {v : Value} {xs : List UInt8} (h : ByOwn w base v xs) (k : Nat) (h0 : 0 < k) (hk : xs.length + k ≤ 100000) (hb : base ≤ w.heap.size) (ty : TypeId) :
    ∃ v' w', (Builtin.append_ #[28, 3] ty #[v, .int .i64 (k : Int)]).run Tryz.prog w = .ok v' w' ∧ ByOwn w' base v' (xs ++ List.replicate k 0) ∧ w.grownBy w' (rowOf v) ∧ (rowOf v' = rowOf v ∨ rowOf v' = some w.heap.size) := by
  have empty : ∀ a : Option Addr, xs = [] → v = .slice a 0 0 → ∃ v' w', (Builtin.append_ #[28, 3] ty #[v, .int .i64 (k : Int)]).run Tryz.prog w = .ok v' w' ∧ ByOwn w' base v' (xs ++ List.replicate k 0) ∧ w.grownBy w' (rowOf v) ∧ (rowOf v' = rowOf v ∨ rowOf v' = some w.heap.size) := by
    rintro a rfl rfl
    obtain ⟨v', w', h1, h2, h3, h4⟩ := zeros_grow (w := w) (base := base) a (xs := []) (c := 0) h0 hk (by simpa using h0) hb ty (fun W _ => by cases a <;> rfl) (rowOf (.slice a 0 0))
    exact ⟨v', w', h1, h2, h3, .inr h4⟩
  rcases h with h | ⟨e, a, ea⟩
  · rcases h.2 with ⟨rfl, hn⟩ | ⟨g, cap, cur, rfl, hg, hgc, hnc, hcm, hcs, htake⟩
    · exact empty none (List.eq_nil_of_length_eq_zero hn) rfl
    · by_cases hroom : xs.length + k ≤ cap
      · have hcs' : cur.size = cap := by simpa using hcs
        obtain ⟨i0, hi0, hz0, hz1, hz2⟩ := info_bparts info_by
        have hst := run_storeCells_at Tryz.prog g xs.length 5 (bV (List.replicate k 0)) 0 cur w hgc (by simp [bV]; omega) bV_cell
        have hw : IntKind.i64.wrap (k : Int) = k := by rw [IntKind.wrap_i64]; omega
        have hneg : ¬ ((k : Int) < 0) := by omega
        have h48 : ¬ (281474976710656 < (k : Int)) := by omega
        have hk0 : ¬ k = 0 := by omega
        have hzc := zeroCells_by k
        have hlen : (bV (List.replicate k 0)).length = k := by simp [bV]
        simp only [Nat.add_zero, hlen] at hst
        refine ⟨.slice (some ⟨g, 0, none⟩) (xs.length + k) cap, w.setRow g (cur.toList.take xs.length ++ bV (List.replicate k 0) ++ cur.toList.drop (xs.length + k)).toArray, ?_, .inl ⟨by simp [bV], .inr ⟨g, cap, _, by simp, hg, setRow_heap w g cur _ _ _ hgc, by simpa using hroom, hcm, ?_, ?_⟩⟩, ⟨rfl, rfl, rfl, by simp, fun j _ hj => setRow_other w g j _ (fun e => hj ?_)⟩, .inl ?_⟩
        · simp [Builtin.append_, run_underlying Tryz.underlying28, run_underlying Tryz.underlying3, sizeOf, typeInfo, zeroValue, hi0, hz0, hz1, hz2, asInt, asIntOf, hw, hneg, h48, hk0, hroom, hzc, Addr.add_lit, hst]
        · simp only [List.size_toArray, List.length_append, List.length_take, List.length_drop, Array.length_toList, hlen]
          omega
        · have ht' : cur.toList.take xs.length = bV xs := by simpa using htake
          have e : bV (xs ++ List.replicate k 0) = bV xs ++ bV (List.replicate k 0) := by simp [bV]
          rw [ht', e]
          exact List.take_left' (by simp [bV])
        · obtain ⟨m, hm⟩ : ∃ m, cap = m + 1 := ⟨cap - 1, by omega⟩
          subst hm
          rw [e]; rfl
        · obtain ⟨m, hm⟩ : ∃ m, cap = m + 1 := ⟨cap - 1, by omega⟩
          subst hm
          rfl
      · have holds : ∀ j u, (bV xs)[j]? = some u → w.cell? ((⟨g, 0, none⟩ : Addr).add j) = some u := h.cells (g := g) rfl
        obtain ⟨v', w', h1, h2, h3, h4⟩ := zeros_grow (w := w) (base := base) (some ⟨g, 0, none⟩) (xs := xs) (c := cap) h0 hk (by omega) hb ty
          (fun W hW => by subst hW; exact run_firstCells_some (P := Tryz.prog) w.drew 1 xs.length ⟨g, 0, none⟩ xs.length cap (bV xs) (by simp [bV]) (by simpa using holds)) (rowOf (.slice (some ⟨g, 0, none⟩) xs.length cap))
        exact ⟨v', w', h1, h2, h3, .inr h4⟩
  · exact empty (some a) e ea

theorem wpList_zeros {w : World} {ops : Array Oper} {rest : List Oper} {o : Oper} {a : Act} {Q : Exit → Act → World → Prop} (hgd : o.guard = none) (s x : Operand)
    (ho : o.op = .call { callee := .builtin .append, args := #[s, x], argTypes := #[28, 3] }) (base : Nat) (v : Value) (xs : List UInt8) (z : Int)
    (hs : a.eval s = v) (hx : a.eval x = .int .i64 z) (hown : ByOwn w base v xs) (h0 : 0 < z) (hlen : (xs.length : Int) + z ≤ 100000) (hb : base ≤ w.heap.size)
    (h : ∀ v' w', ByOwn w' base v' (xs ++ List.replicate z.toNat 0) → w.grownBy w' (rowOf v) → (rowOf v' = rowOf v ∨ rowOf v' = some w.heap.size) → wpList Tryz.prog ops Q rest (a.put o.dst v') w') : wpList Tryz.prog ops Q (o :: rest) a w :=
  wpList_plain hgd fun _ hK => by
    obtain ⟨v', w', hr, h2, h3, h4⟩ := zeros_run hown z.toNat (by omega) (by omega) hb o.type
    rw [show ((z.toNat : Nat) : Int) = z by omega] at hr
    unfold Oper.wp execOp
    simp only [ho, resolve, invoke, builtin, Sem.run_bind, Sem.run_pure, Result.andThen_ok, List.map_toArray, List.map_cons, List.map_nil, hs, hx, hr]
    exact hK _ _ (h v' w' h2 h3 h4)
end Go.Proofs.YtpeinngifknpkaaGreatDoor
