/- The frame of ShapeAparts: the statement, if the call returns true and nothing turns. -/
import Derived.Test.YtnijcdphmibjaaaRows
import Derived.Test.YtnijcdphmibjaaaPtsOpen
import Derived.WalkKit
import Derived.ProofKit
import Derived.OpenShut
import Derived.JoinedOf
import Derived.ChangeSlices
import Derived.Carry
namespace Go.Proofs.Ytnijcdphmibjaaa.shapeAparts
open Go.ChangeShapes Go.WideShapes Go.ChangeAt Go.RowKit

theorem own : ownKnob Try.prog.godebug = none := by kernel_rfl

/-- What a walk has to give. -/
def Walked : Prop := ∀ (A0 : Option Addr) (n0 c0 : Nat) (xs0 : List Pt) (A1 : Option Addr) (n1 c1 : Nat) (xs1 : List Pt) (a2 b2 : Int) (w : World), xs0.length = n0 → n0 ≤ c0 → n0 ≤ 9223372036854775807 → (∀ x ∈ xs0, (-9223372036854775808 ≤ x.1 ∧ x.1 ≤ 9223372036854775807) ∧ (-9223372036854775808 ≤ x.2 ∧ x.2 ≤ 9223372036854775807)) → PtsAt w A0 xs0 → xs1.length = n1 → n1 ≤ c1 → n1 ≤ 9223372036854775807 → (∀ x ∈ xs1, (-9223372036854775808 ≤ x.1 ∧ x.1 ≤ 9223372036854775807) ∧ (-9223372036854775808 ≤ x.2 ∧ x.2 ≤ 9223372036854775807)) → PtsAt w A1 xs1 → (Lit.int .i64 a2).wf = true → (Lit.int .i64 b2).wf = true →
  Calls Try.prog 7 #[.slice A0 n0 c0, .slice A1 n1 c1, .agg #[.int .i64 a2, .int .i64 b2]] w fun e w' => e = .returned (.bool true) ∧ Below w.heap.size w w'

theorem laidOut : laidOutB Try.prog = true := by kernel_rfl
set_option maxRecDepth 100000 in
theorem lifted (hwalk : Walked) (os : Os) (started : os.Started) (H : Type) (enc : TypeId × Value → H) :
    ReturnsInHanded {} Try.checked os 7 .any (Rows.shapeApartsSpec.pre6 enc Try.prog Try.f7 Rows.shapeApartsRow.domain false) (Rows.shapeApartsSpec.post enc Try.prog Try.f7 false true false false) := by
  refine returnsInHanded_of_change (C := Try.checked) own started (by kernel_rfl) Try.func7
    (ChangeSpec.witness6 (enc := enc) (C := Try.checked) false ⟨#[], #[.slice none 0 0, .slice none 0 0, .agg #[.int .i64 0, .int .i64 0]], []⟩ 8 (by kernel_rfl) (by kernel_rfl) (by kernel_rfl) (by kernel_rfl)) ?_
  intro W base args ds gs before hval0 hW hcnd _
  have hval : ∀ (j : Nat) t v, Try.f7.params[j]? = some t → args[j]? = some v → Value.okWide Try.prog W .any base t v := hval0
  have hW' := hW
  obtain ⟨p, q, hA0, hV, rfl, hfz, hnd⟩ := hW
  have hA : DataW.TrodAll enc Try.prog W 0 (fun _ => true) true Try.f7.params.toList args.toList ds p := hA0
  rw [Try.params7] at hA hval
  obtain ⟨v0, vs0, d0, ds0, p0, q0, hargs, rfl, rfl, h0, r0⟩ := trodAll_cons hA
  obtain ⟨v1, vs1, d1, ds1, p1, q1, rfl, rfl, rfl, h1, r1⟩ := trodAll_cons r0
  obtain ⟨v2, vs2, d2, ds2, p2, q2, rfl, rfl, rfl, h2, r2⟩ := trodAll_cons r1
  obtain ⟨rfl, rfl, rfl⟩ := trodAll_nil r2
  obtain rfl : args = #[v0, v1, v2] := by cases args; simp_all
  obtain ⟨rfl, rfl⟩ := trodVars_none hV
  obtain ⟨A0, n0, c0, rfl⟩ := okWide_slice Try.underlying22 (hval 0 22 v0 rfl rfl)
  have k0 := h0
  obtain ⟨xs0, y01, y02, y03, y04, y05⟩ := pts_open k0
  obtain ⟨A1, n1, c1, rfl⟩ := okWide_slice Try.underlying22 (hval 1 22 v1 rfl rfl)
  have k1 := h1
  obtain ⟨xs1, y11, y12, y13, y14, y15⟩ := pts_open k1
  have k2 := h2
  obtain ⟨a2, b2, rfl, rfl, rfl, w2, z2⟩ := pt_open (hval 2 33 v2 rfl rfl) h2
  clear hA0 hval0
  simp only [List.append_nil] at hW'
  have hlt : ∀ x ∈ p0 ++ p1, x.block < W.heap.size := fun x hx => by simpa using hW'.lt x (by simpa using hx)
  have l0 : ∀ x ∈ p0, x.block < W.heap.size := fun x hx => hlt x (by simp [hx])
  have l1 : ∀ x ∈ p1, x.block < W.heap.size := fun x hx => hlt x (by simp [hx])
  refine (hwalk A0 n0 c0 xs0 A1 n1 c1 xs1 a2 b2 W y01 y02 y03 y04 y05 y11 y12 y13 y14 y15 w2 z2).mono fun e W' ⟨he, hg⟩ => ?_
  subst he
  have e1 : Rows.shapeApartsSpec.fn H ([d0, d1, (.agg [.lit (.int .i64 a2), .lit (.int .i64 b2)])] ++ []) = { results := [.lit (.bool true)], args := [d0, d1, (.agg [.lit (.int .i64 a2), .lit (.int .i64 b2)])] } := by simp [Rows.shapeApartsSpec]
  refine ⟨_, rfl, _, _, _, [], p0 ++ p1, [], by simpa using hW', ?_, ?_, ?_, hg.frame _, fun h => by cases h⟩
  · rw [e1]; exact trodAll_cons_mk (shut_bool Try.underlying4 true) trodAll_mk0
  · rw [e1]
    have t := (trodAll_cons_mk (Below.trod laidOut (by kernel_rfl) (of_decide_eq_true (by kernel_rfl)) k0 hg l0) (trodAll_cons_mk (Below.trod laidOut (by kernel_rfl) (of_decide_eq_true (by kernel_rfl)) k1 hg l1) (trodAll_cons_mk (Below.trod laidOut (by kernel_rfl) (of_decide_eq_true (by kernel_rfl)) k2 hg (by simp)) trodAll_mk0)))
    simp only [List.append_nil, List.nil_append] at t
    exact t
  · rw [e1]; rfl

theorem inst : Try.f7.isInstance Try.prog Rows.shapeApartsRow.origin Rows.shapeApartsRow.targs := of_decide_eq_true (by kernel_rfl)
theorem wrapper : Try.f7.isWrapper Try.prog Rows.shapeApartsRow.wrapper Rows.shapeApartsRow.mainSum := by
  unfold Func.isWrapper
  first | (rw [if_pos (by decide +kernel)]; kernel_rfl) | (rw [if_neg (by decide +kernel)]; exact ⟨rfl, rfl⟩)
theorem named : Try.prog.funcNamed "cracknel/cracknellaw04.ShapeAparts" = some 7 := by kernel_rfl

theorem over (joined : joinedFacts Try.prog 7 Try.f7 Rows.shapeApartsSpec Rows.shapeApartsRow = true) (hwalk : Walked) : Rows.ShapeApartsSaid :=
  OpenClaim.holds_of_wide 7 Try.f7 rfl rfl rfl rfl rfl rfl rfl ⟨rfl, rfl, rfl, rfl, rfl⟩ rfl rfl rfl rfl rfl named Try.func7 joined inst wrapper
    (fun os started H enc _ => lifted hwalk os started H enc)
#print axioms over
end Go.Proofs.Ytnijcdphmibjaaa.shapeAparts
