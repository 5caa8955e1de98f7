/- The frame of ShapeHulled: the statement, if the call returns true and nothing turns. -/
import Derived.Test.YtnijcdphmibjaaaRows
import Derived.Test.YtnijcdphmibjaaaPtsOpen
import Derived.WalkKit
import Derived.ProofKit
import Derived.OpenShut
import Derived.JoinedOf
import Derived.ChangeSlices
import Derived.Carry
namespace Go.Proofs.Ytnijcdphmibjaaa.shapeHulled
open Go.ChangeShapes Go.WideShapes Go.ChangeAt Go.RowKit

theorem own : ownKnob Try.prog.godebug = none := by kernel_rfl

/-- What a walk has to give. -/
def Walked : Prop := ∀ (A0 : Option Addr) (n0 c0 : Nat) (xs0 : List Pt) (a1 : Int) (w : World), xs0.length = n0 → n0 ≤ c0 → n0 ≤ 9223372036854775807 → (∀ x ∈ xs0, (-9223372036854775808 ≤ x.1 ∧ x.1 ≤ 9223372036854775807) ∧ (-9223372036854775808 ≤ x.2 ∧ x.2 ≤ 9223372036854775807)) → PtsAt w A0 xs0 → (Lit.int .i64 a1).wf = true →
  Calls Try.prog 12 #[.slice A0 n0 c0, .int .i64 a1] w fun e w' => e = .returned (.bool true) ∧ Below w.heap.size w w'

theorem laidOut : laidOutB Try.prog = true := by kernel_rfl
set_option maxRecDepth 100000 in
theorem lifted (hwalk : Walked) (os : Os) (started : os.Started) (H : Type) (enc : TypeId × Value → H) :
    ReturnsInHanded {} Try.checked os 12 .any (Rows.shapeHulledSpec.pre6 enc Try.prog Try.f12 Rows.shapeHulledRow.domain false) (Rows.shapeHulledSpec.post enc Try.prog Try.f12 false true false false) := by
  refine returnsInHanded_of_change (C := Try.checked) own started (by kernel_rfl) Try.func12
    (ChangeSpec.witness6 (enc := enc) (C := Try.checked) false ⟨#[], #[.slice none 0 0, .int .i64 0], []⟩ 8 (by kernel_rfl) (by kernel_rfl) (by kernel_rfl) (by kernel_rfl)) ?_
  intro W base args ds gs before hval0 hW hcnd _
  have hval : ∀ (j : Nat) t v, Try.f12.params[j]? = some t → args[j]? = some v → Value.okWide Try.prog W .any base t v := hval0
  have hW' := hW
  obtain ⟨p, q, hA0, hV, rfl, hfz, hnd⟩ := hW
  have hA : DataW.TrodAll enc Try.prog W 0 (fun _ => true) true Try.f12.params.toList args.toList ds p := hA0
  rw [Try.params12] at hA hval
  obtain ⟨v0, vs0, d0, ds0, p0, q0, hargs, rfl, rfl, h0, r0⟩ := trodAll_cons hA
  obtain ⟨v1, vs1, d1, ds1, p1, q1, rfl, rfl, rfl, h1, r1⟩ := trodAll_cons r0
  obtain ⟨rfl, rfl, rfl⟩ := trodAll_nil r1
  obtain rfl : args = #[v0, v1] := by cases args; simp_all
  obtain ⟨rfl, rfl⟩ := trodVars_none hV
  obtain ⟨A0, n0, c0, rfl⟩ := okWide_slice Try.underlying22 (hval 0 22 v0 rfl rfl)
  have k0 := h0
  obtain ⟨xs0, y01, y02, y03, y04, y05⟩ := pts_open k0
  obtain ⟨a1, rfl, rfl, rfl, w1⟩ := open_int Try.underlying3 (hval 1 3 v1 rfl rfl) h1
  clear hA0 hval0
  simp only [List.append_nil] at hW'
  have hlt : ∀ x ∈ p0, x.block < W.heap.size := fun x hx => by simpa using hW'.lt x (by simpa using hx)
  have l0 : ∀ x ∈ p0, x.block < W.heap.size := fun x hx => hlt x (by simp [hx])
  refine (hwalk A0 n0 c0 xs0 a1 W y01 y02 y03 y04 y05 w1).mono fun e W' ⟨he, hg⟩ => ?_
  subst he
  have e1 : Rows.shapeHulledSpec.fn H ([d0, (.lit (.int .i64 a1))] ++ []) = { results := [.lit (.bool true)], args := [d0, (.lit (.int .i64 a1))] } := by simp [Rows.shapeHulledSpec]
  refine ⟨_, rfl, _, _, _, [], p0, [], by simpa using hW', ?_, ?_, ?_, hg.frame _, fun h => by cases h⟩
  · rw [e1]; exact trodAll_cons_mk (shut_bool Try.underlying4 true) trodAll_mk0
  · rw [e1]
    have t := (trodAll_cons_mk (Below.trod laidOut (by kernel_rfl) (of_decide_eq_true (by kernel_rfl)) k0 hg l0) (trodAll_cons_mk (shut_int Try.underlying3 w1) trodAll_mk0))
    simp only [List.append_nil, List.nil_append] at t
    exact t
  · rw [e1]; rfl

theorem inst : Try.f12.isInstance Try.prog Rows.shapeHulledRow.origin Rows.shapeHulledRow.targs := of_decide_eq_true (by kernel_rfl)
theorem wrapper : Try.f12.isWrapper Try.prog Rows.shapeHulledRow.wrapper Rows.shapeHulledRow.mainSum := by
  unfold Func.isWrapper
  first | (rw [if_pos (by decide +kernel)]; kernel_rfl) | (rw [if_neg (by decide +kernel)]; exact ⟨rfl, rfl⟩)
theorem named : Try.prog.funcNamed "cracknel/cracknellaw04.ShapeHulled" = some 12 := by kernel_rfl

theorem over (joined : joinedFacts Try.prog 12 Try.f12 Rows.shapeHulledSpec Rows.shapeHulledRow = true) (hwalk : Walked) : Rows.ShapeHulledSaid :=
  OpenClaim.holds_of_wide 12 Try.f12 rfl rfl rfl rfl rfl rfl rfl ⟨rfl, rfl, rfl, rfl, rfl⟩ rfl rfl rfl rfl rfl named Try.func12 joined inst wrapper
    (fun os started H enc _ => lifted hwalk os started H enc)
#print axioms over
end Go.Proofs.Ytnijcdphmibjaaa.shapeHulled
