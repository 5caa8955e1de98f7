/- Slices of bytes, and of the law's acts, that came in: what they read as. -/
import Derived.Test.YtpeinngifknpkaaGreatDoorDiskRound
import Derived.ChangeSlices
import Derived.OpenShut
import Derived.ProofKit
import Derived.Deep.Slices
import Derived.Deep.SlicePairs
import Derived.Lib.SmallJoins
namespace Go.Proofs.YtpeinngifknpkaaGreatDoor
open Go.ChangeShapes Go.WideShapes Go.ChangeAt Go.RowKit Go.Deep

theorem cells_u8 : Tryz.prog.cellsOf 5 = 1 := by kernel_rfl
theorem cells_in1 : Tryz.prog.cellsOf 3 = 1 := by kernel_rfl
theorem cells_bys : Tryz.prog.cellsOf 28 = 1 := by kernel_rfl
theorem cells_act : Tryz.prog.cellsOf 30 = 3 := by kernel_rfl

theorem bounds_u8 {n : Int} (h : (Lit.int .u8 n).wf = true) : 0 ≤ n ∧ n < 256 := by
  simp [Lit.wf, IntKind.min, IntKind.max, IntKind.signed, IntKind.bits] at h
  omega

set_option maxRecDepth 100000 in
theorem fields_act : ∃ f0 f1 f2 : Field, Tryz.prog.underlying 30 = some (.struct #[f0, f1, f2]) ∧ (f0.type = 5 ∧ f0.offset = 0) ∧ (f1.type = 3 ∧ f1.offset = 1) ∧ (f2.type = 28 ∧ f2.offset = 2) := by
  have h : Tryz.prog.underlying 30 = some (.struct (Tryz.prog.fieldsOf 30)) := by kernel_rfl
  have k : (Tryz.prog.fieldsOf 30).toList.map (fun f => (f.type, f.offset)) = [(5, 0), (3, 1), (28, 2)] := by kernel_rfl
  generalize Tryz.prog.fieldsOf 30 = fs at *
  obtain ⟨l⟩ := fs
  match l, k with
  | [f0, f1, f2], k =>
    simp only [List.map_cons, List.map_nil, List.cons.injEq, Prod.mk.injEq, and_true] at k
    exact ⟨f0, f1, f2, h, k.1, k.2.1, k.2.2⟩

theorem bytes_open {H : Type} {enc : TypeId × Value → H} {W : World} {fuel : Nat} {v : Value} {x : DataW H × List MemPlace} (hf : DataW.trod enc Tryz.prog W 0 (fun _ => true) true fuel 28 [v] = some x) :
    ∃ (A : Option Addr) (m c : Nat) (xs : List UInt8), v = .slice A m c ∧ xs.length = m ∧ m ≤ c ∧ ByAt W A xs := by
  rcases open_slice1 Tryz.underlying28 cells_u8 hf with ⟨hcs, -⟩ | ⟨a, len, cap, m, n', V, D, Pl, hcs, hb, hl, hm, hmm, -, hi⟩
  · simp only [List.cons.injEq, and_true] at hcs
    exact ⟨none, 0, 0, [], hcs, rfl, Nat.le_refl _, ByAt.nil _ _⟩
  · simp only [List.cons.injEq, and_true] at hcs
    subst hcs
    simp only [if_true] at hmm
    subst m
    have each : ∀ i, i < cap → ∃ q : UInt8, W.cell? (a.add i) = some (.int .u8 (q.toNat : Int)) := by
      intro i hic
      obtain ⟨c0, d0⟩ := hi i hic
      obtain ⟨z, e0, -, w0⟩ := DataW.trod_int Tryz.underlying5 d0
      simp only [List.cons.injEq, and_true] at e0
      obtain ⟨h0, h1⟩ := bounds_u8 w0
      refine ⟨UInt8.ofNat z.toNat, ?_⟩
      rw [c0, e0]
      have : (UInt8.ofNat z.toNat).toNat = z.toNat := by rw [UInt8.toNat_ofNat']; omega
      rw [this]
      congr 2
      omega
    obtain ⟨q, hq⟩ := choose_lt each
    refine ⟨some a, len, cap, (List.range len).map q, rfl, by simp, hl, fun hne => ?_⟩
    have hn : 0 < len := by
      rcases Nat.eq_zero_or_pos len with h0 | h0
      · subst h0; simp at hne
      · exact h0
    obtain ⟨b, off, key⟩ := a
    have hk : key = none := by simpa [Addr.add] using World.cell?_spot (hq 0 (by omega))
    subst hk
    have e : ∀ j, (⟨b, off, none⟩ : Addr).add j = ⟨b, off + j, none⟩ := fun j => by unfold Addr.add; split <;> simp_all
    refine ⟨b, off, rfl, ?_, fun i p hp => ?_⟩
    · have := hq 0 (by omega)
      rw [e] at this
      exact World.block_lt_of_cell? W _ this
    · rw [List.getElem?_map] at hp
      have hin : i < len := by
        rcases Nat.lt_or_ge i len with g | g
        · exact g
        · rw [List.getElem?_eq_none (by simpa using g)] at hp; cases hp
      rw [List.getElem?_range hin] at hp
      obtain rfl : q i = p := by simpa using hp
      have := hq i (by omega)
      rwa [e] at this

set_option maxRecDepth 100000 in
theorem acts_open {H : Type} {enc : TypeId × Value → H} {W : World} {A : Option Addr} {n c : Nat} {d : DataW H} {p : List MemPlace} (h : DataW.Trod enc Tryz.prog W 0 (fun _ => true) true 22 (.slice A n c) d p) : ActsAt W A n := by
  obtain ⟨fuel, hf⟩ := h
  obtain ⟨f0, f1, f2, hs, ⟨t0, o0⟩, ⟨t1, o1⟩, ⟨t2, o2⟩⟩ := fields_act
  rcases open_slice Tryz.underlying22 hf with ⟨hcs, -⟩ | ⟨a, len, cap, m, n', D, Pl, hcs, hb, hl, hm, hmm, -, hi⟩
  · simp [Value.cells] at hcs
    obtain ⟨rfl, rfl, rfl⟩ := hcs
    exact fun h => absurd h (by omega)
  · simp [Value.cells] at hcs
    obtain ⟨e0, e1, e2⟩ := hcs
    subst e0
    have e1' : n = len := by first | exact e1 | exact e1.symm
    have e2' : c = cap := by first | exact e2 | exact e2.symm
    clear e1 e2
    subst e1' e2'
    simp only [if_true] at hmm
    subst m
    have each : ∀ i, i < c → ∃ (k : Nat) (x : Int) (A' : Option Addr) (m' c' : Nat) (xs : List UInt8), W.cell? (a.add (i * 3)) = some (.int .u8 (k : Int)) ∧ W.cell? ((a.add (i * 3)).add 1) = some (.int .i64 x) ∧ W.cell? ((a.add (i * 3)).add 2) = some (.slice A' m' c') ∧ xs.length = m' ∧ m' ≤ c' ∧ ByAt W A' xs ∧ k < 256 ∧ -9223372036854775808 ≤ x ∧ x ≤ 9223372036854775807 := by
      intro i hic
      obtain ⟨cs', h1, h2⟩ := hi i hic
      rw [cells_act] at h1
      obtain ⟨_, hlen, hcell⟩ := World.cells?_some h1
      obtain ⟨ys, k, hk, hxy, _, hxl, hff⟩ := DataW.trod_struct hs h2
      match ys, hxl, cs', hlen with
      | [y0, y1, y2], _, [v0, v1, v2], _ =>
        have g0 := hff 0 f0 rfl
        have g1 := hff 1 f1 rfl
        have g2 := hff 2 f2 rfl
        rw [t0, o0, cells_u8] at g0
        rw [t1, o1, cells_in1] at g1
        rw [t2, o2, cells_bys] at g2
        simp at g0 g1 g2
        have q0 := hcell 0 (by omega)
        have q1 := hcell 1 (by omega)
        have q2 := hcell 2 (by omega)
        obtain ⟨z, e0, -, w0⟩ := DataW.trod_int Tryz.underlying5 g0
        obtain ⟨x, e1, -, w1⟩ := DataW.trod_int Tryz.underlying3 g1
        obtain ⟨A', m', c', xs, e2, b1, b2, b3⟩ := bytes_open g2
        simp only [List.cons.injEq, and_true] at e0 e1
        subst e0 e1 e2
        obtain ⟨z0, z1⟩ := bounds_u8 w0
        obtain ⟨x0, x1⟩ := bounds_i64 w1
        have q0' : W.cell? (a.add (i * 3)) = some (.int .u8 z) := by
          have e : (a.add (i * 3)).add 0 = a.add (i * 3) := by unfold Addr.add; split <;> simp_all
          rw [← e]; simpa using q0
        refine ⟨z.toNat, x, A', m', c', xs, ?_, by simpa using q1, by simpa using q2, b1, b2, b3, by omega, x0, x1⟩
        rw [q0']; congr 2; omega
    intro hn
    obtain ⟨b, off, key⟩ := a
    have hk : key = none := by
      obtain ⟨k, x, A', m', c', xs, h1, -⟩ := each 0 (by omega)
      simpa [Addr.add] using World.cell?_spot h1
    subst hk
    have e : ∀ o j, (⟨b, o, none⟩ : Addr).add j = ⟨b, o + j, none⟩ := fun o j => by unfold Addr.add; split <;> simp_all
    refine ⟨b, off, rfl, ?_, fun i hin => ?_⟩
    · obtain ⟨k, x, A', m', c', xs, h1, -⟩ := each 0 (by omega)
      rw [e] at h1
      exact World.block_lt_of_cell? W _ h1
    · obtain ⟨k, x, A', m', c', xs, h1, h2, h3, h4, h5, h6, h7, h8, h9⟩ := each i (by omega)
      rw [e] at h1 h2 h3
      rw [e] at h2 h3
      exact ⟨k, x, A', m', c', xs, h1, h2, h3, h4, h5, h6, h7, h8, h9⟩
end Go.Proofs.YtpeinngifknpkaaGreatDoor
