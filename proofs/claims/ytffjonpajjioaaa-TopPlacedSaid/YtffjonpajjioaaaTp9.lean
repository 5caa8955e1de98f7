/- Parts of the proof, one after the other: HullsSort. -/
import Derived.Test.YtffjonpajjioaaaShelf
import Derived.Test.YtffjonpajjioaaaTp4
/- The library's sort and reverse at points. -/
namespace Go.Proofs.Ytffjonpajjioaaa
open Go.RowKit Go.Sort

theorem ltOf_cmpQ (x y : Pt) : ltOf cmpQ x y = firstP x y := cmpQ_first x y
theorem ltP_iff {a b : Pt} : firstP a b = true ↔ ltP a b := by
  unfold firstP firstB ltP
  simp only [Bool.or_eq_true, Bool.and_eq_true, decide_eq_true_eq, beq_iff_eq]
theorem swoPts : SWO (ltOf cmpQ) where
  irrefl x := by
    rw [ltOf_cmpQ]
    cases h : firstP x x
    · rfl
    · exact absurd (ltP_iff.1 h) (ltP_irrefl x)
  trans x y z h1 h2 := by
    rw [ltOf_cmpQ] at *
    exact ltP_iff.2 (ltP_trans (ltP_iff.1 h1) (ltP_iff.1 h2))
  ntrans x y z h1 h2 := by
    rw [ltOf_cmpQ] at *
    have k1 : leP y x := by
      rcases leP_total y x with g | g
      · exact g
      · rw [ltP_iff.2 g] at h1; cases h1
    have k2 : leP z y := by
      rcases leP_total z y with g | g
      · exact g
      · rw [ltP_iff.2 g] at h2; cases h2
    cases h : firstP x z
    · rfl
    · exact absurd (leP_ltP (leP_trans k2 k1) (ltP_iff.1 h)) (ltP_irrefl z)

theorem encP_one (x : Pt) : ∀ v ∈ encP x, v.oneCell' = true := fun v hv => by
  simp [encP] at hv; rcases hv with rfl | rfl <;> rfl

theorem sortsPts : SortsPts := fun blk off cap d w hH hblk hsz => by
  have eg : ∀ args w, (callFunc 44 args).run Try.prog w = .ok (.enter 44 args) w := enters_of Try.func44 (by kernel_rfl) rfl
  have h := AnyQ.slices_SortFunc Try.sortPt 2 Try.isAgg27 Try.sizeOf27 encP (fun _ => rfl) encP_one cmpQ swoPts 44 #[] blk off cap d w eg (fun _ _ _ _ x y => compare_lays x.1 x.2 y.1 y.2 _) hH hblk hsz
  exact h

theorem reversesPts : ReversesPts := fun blk off cap d w hH hsz h0 => by
  have h := AnyQ.slices_Reverse Try.reversePt 2 Try.isAgg27 Try.sizeOf27 encP (fun _ => rfl) encP_one blk off cap d w hH (by omega)
  exact h
end Go.Proofs.Ytffjonpajjioaaa
