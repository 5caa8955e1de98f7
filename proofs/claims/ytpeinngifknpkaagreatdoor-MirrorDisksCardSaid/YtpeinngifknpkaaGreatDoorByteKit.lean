/- Bytes in memory: slices that read as lists of bytes; slices of a call's own that grow by append. -/
import Derived.Maps.AppendAt
import Derived.Deep.AppendLies
import Derived.OwnWalk
import Derived.Laws.Rows
import Derived.Laws.MakeOwn
import Derived.Below
import Derived.Calls
import Derived.WalkKit
import Derived.WalkSpells
import Derived.WalkLawsBesides
import Derived.Handy
import Derived.Lib.Hide
import Derived.Deep.Draws
import Derived.RegionTactic
import Derived.Deep.CutBlock
import Derived.BigQuiet
import Derived.Lib.QuietBelow
import Derived.StillTailTactics
import Derived.Deep.RegionHeld3
import Derived.Deep.DeepCutAuto
import Derived.LaidEqlPtr
import Derived.Test.YtpeinngifknpkaaGreatDoorChecked
namespace Go.Proofs.YtpeinngifknpkaaGreatDoor
open Go.RowKit Go.Sort

def bV (xs : List UInt8) : List Value := xs.map fun x : UInt8 => .int .u8 (x.toNat : Int)
theorem bV_get (xs : List UInt8) (i : Nat) : (bV xs)[i]? = (xs[i]?).map fun x : UInt8 => .int .u8 (x.toNat : Int) := by simp [bV]
theorem bV_cell {xs : List UInt8} : ∀ u ∈ bV xs, u.oneCell' = true := fun u hu => by
  simp only [bV, List.mem_map] at hu
  obtain ⟨x, _, rfl⟩ := hu
  rfl
/-- A slice's cells read as this list. -/
def ByAt (w : World) (A : Option Addr) (xs : List UInt8) : Prop :=
  xs ≠ [] → ∃ b off, A = some ⟨b, off, none⟩ ∧ b < w.heap.size ∧ ∀ (i : Nat) (x : UInt8), xs[i]? = some x → w.cell? ⟨b, off + i, none⟩ = some (.int .u8 (x.toNat : Int))
theorem ByAt.below {w w' : World} {A : Option Addr} {xs : List UInt8} (h : ByAt w A xs) (hb : Below w.heap.size w w') : ByAt w' A xs := fun hne => by
  obtain ⟨b, off, e, hlt, hc⟩ := h hne
  exact ⟨b, off, e, Nat.lt_of_lt_of_le hlt hb.size, fun i x hx => (hb.cell (p := ⟨b, _, none⟩) hlt).trans (hc i x hx)⟩
theorem ByAt.nil (w : World) (A : Option Addr) : ByAt w A [] := fun h => absurd rfl h
theorem ByAt.take {w : World} {A : Option Addr} {xs : List UInt8} (h : ByAt w A xs) (k : Nat) : ByAt w A (xs.take k) := fun hne => by
  obtain ⟨b, off, e, hlt, hc⟩ := h (by intro e; subst e; simp at hne)
  exact ⟨b, off, e, hlt, fun i x hx => hc i x (by
    rw [List.getElem?_take] at hx; split at hx
    · exact hx
    · cases hx)⟩
theorem info_by : (Tryz.prog.info? 5).map (fun i => (i.zero, i.size, i.bytes)) = some (some (.int .u8 0), 1, 1) := by kernel_rfl
theorem info_bparts {o : Option TypeInfo} {z : Value} {s b : Nat} (h : o.map (fun i => (i.zero, i.size, i.bytes)) = some (some z, s, b)) : ∃ i, o = some i ∧ i.zero = some z ∧ i.size = s ∧ i.bytes = b := by
  cases o with
  | none => cases h
  | some i =>
    have e : (i.zero, i.size, i.bytes) = (some z, s, b) := by simpa using h
    simp only [Prod.mk.injEq] at e
    exact ⟨i, rfl, e.1, e.2.1, e.2.2⟩

/-- A slice of the call's own: blocks from base on. -/
def ByRow (w : World) (base : Nat) (v : Value) (xs : List UInt8) : Prop := w.ownsRow base 5 1 v xs.length (bV xs)

theorem ByRow.slice {w : World} {base : Nat} {v : Value} {xs : List UInt8} (h : ByRow w base v xs) :
    ∃ A c, v = .slice A xs.length c ∧ xs.length ≤ c ∧ ByAt w A xs ∧ (∀ a, A = some a → base ≤ a.block) := by
  rcases h.2 with ⟨rfl, hn⟩ | ⟨g, cap, cur, rfl, hb, hg, hnc, _, hsz, ht⟩
  · refine ⟨none, 0, by rw [hn], by omega, fun hne => absurd (List.eq_nil_of_length_eq_zero hn) hne, fun a ha => by cases ha⟩
  · refine ⟨_, cap, rfl, hnc, fun _ => ⟨g, 0, rfl, ?_, fun i x hx => ?_⟩, fun a ha => by cases ha; exact hb⟩
    · exact (Array.getElem?_eq_some_iff.1 hg).1
    · rw [Nat.zero_add, cell_of_row w g i cur _ (0, 0) hg]
      have h1 : (bV xs)[i]? = some (.int .u8 (x.toNat : Int)) := by rw [bV_get, hx]; rfl
      rw [← ht, List.getElem?_take] at h1
      split at h1
      · simpa using h1
      · cases h1

theorem ByRow.empty (w : World) : ByRow (w.alloc (.cells #[] 5)) w.heap.size (.slice (some ⟨w.heap.size, 0, none⟩) 0 0) [] :=
  World.ownsRow_made w #[] 0 (Nat.le_refl _) (by simp [maxLen]) rfl

/-- An append. -/
theorem brow_run {w : World} {base : Nat} {v : Value} {xs ys : List UInt8} (h : ByRow w base v xs) {A : Option Addr} (c : Nat) (hy : ByAt w A ys) (hlen : xs.length + ys.length ≤ 100000) (hb : base ≤ w.heap.size) (ty : TypeId) :
    ∃ v' w', (Builtin.append_ #[28, 28] ty #[v, .slice A ys.length c]).run Tryz.prog w = .ok v' w' ∧ ByRow w' base v' (xs ++ ys) ∧ w.grownBy w' v.ownBlock ∧
      (v'.ownBlock = v.ownBlock ∨ v'.ownBlock = some w.heap.size) := by
  obtain ⟨i0, hi0, hz0, hz1, hz2⟩ := info_bparts info_by
  have e1 : bV xs ++ bV ys = bV (xs ++ ys) := by simp [bV]
  have e2 : (xs ++ ys).length = xs.length + ys.length := by simp
  have fin : ∀ ad : Addr, A = some ad → (∀ j u, (bV ys)[j]? = some u → w.cell? (ad.add j) = some u) →
      ∃ v' w', (Builtin.append_ #[28, 28] ty #[v, .slice A ys.length c]).run Tryz.prog w = .ok v' w' ∧ ByRow w' base v' (xs ++ ys) ∧ w.grownBy w' v.ownBlock ∧ (v'.ownBlock = v.ownBlock ∨ v'.ownBlock = some w.heap.size) := by
    intro ad e hc
    subst e
    obtain ⟨v', w', hr, h2, h3, _, h5⟩ := run_append_own_at (P := Tryz.prog) w base 28 ty 5 i0 _ 1 1 Tryz.underlying28 hi0 hz0 hz1 hz2 rfl (by omega) v xs.length (bV xs) h ad ys.length c (bV ys) (by simp [bV]) hc bV_cell (by simp [maxLen]; omega) (by omega) hb
    exact ⟨v', w', hr, by unfold ByRow; rw [e2, ← e1]; exact h2, h3, h5⟩
  cases ys with
  | nil =>
    cases A with
    | none =>
      refine ⟨v, w, ?_, by simpa using h, World.grownBy.refl w _, .inl rfl⟩
      rcases h.2 with ⟨rfl, hn⟩ | ⟨g, cap, cur, rfl, _, _, hnc, _⟩
      · simp [Builtin.append_, run_underlying Tryz.underlying28, sizeOf, typeInfo, hi0, Builtin.lenOf, Builtin.firstCells]
      · simp [Builtin.append_, run_underlying Tryz.underlying28, sizeOf, typeInfo, hi0, Builtin.lenOf, Builtin.firstCells, hnc, storeCells]
    | some ad => exact fin ad rfl (fun j u hu => by simp [bV] at hu)
  | cons y ys =>
    obtain ⟨b, off, rfl, _, hc⟩ := hy (by simp)
    refine fin _ rfl fun j u hu => ?_
    rw [bV_get] at hu
    obtain ⟨x, hx, rfl⟩ := Option.map_eq_some_iff.1 hu
    have e : (⟨b, off, none⟩ : Addr).add j = ⟨b, off + j, none⟩ := by unfold Addr.add; split <;> simp_all
    rw [e]
    exact hc j x hx

theorem wpList_brow {w : World} {ops : Array Oper} {rest : List Oper} {o : Oper} {a : Act} {Q : Exit → Act → World → Prop} (hgd : o.guard = none) (s x : Operand)
    (ho : o.op = .call { callee := .builtin .append, args := #[s, x], argTypes := #[28, 28] }) (base : Nat) (v : Value) (xs ys : List UInt8) (A : Option Addr) (m c : Nat)
    (hs : a.eval s = v) (hx : a.eval x = .slice A m c) (hown : ByRow w base v xs) (hm : ys.length = m) (hy : ByAt w A ys) (hlen : xs.length + ys.length ≤ 100000) (hb : base ≤ w.heap.size)
    (h : ∀ v' w', ByRow w' base v' (xs ++ ys) → w.grownBy w' v.ownBlock → (v'.ownBlock = v.ownBlock ∨ v'.ownBlock = some w.heap.size) → wpList Tryz.prog ops Q rest (a.put o.dst v') w') : wpList Tryz.prog ops Q (o :: rest) a w :=
  wpList_plain hgd fun _ hK => by
    subst hm
    obtain ⟨v', w', hr, h2, h3, h4⟩ := brow_run hown c hy hlen hb o.type
    unfold Oper.wp execOp
    simp only [ho, resolve, invoke, builtin, Sem.run_bind, Sem.run_pure, Result.andThen_ok, List.map_toArray, List.map_cons, List.map_nil, hs, hx, hr]
    exact hK _ _ (h v' w' h2 h3 h4)


end Go.Proofs.YtpeinngifknpkaaGreatDoor
