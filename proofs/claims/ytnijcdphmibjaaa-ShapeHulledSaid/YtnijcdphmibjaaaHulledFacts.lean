/- The closed facts of the row of ShapeHulled. -/
import Derived.Test.YtnijcdphmibjaaaRows
import Derived.JoinedOf
namespace Go.Proofs.Ytnijcdphmibjaaa.shapeHulled

theorem j1 : Rows.shapeHulledRow.wf (OpenSpec.ofChange Rows.shapeHulledSpec) = true := by kernel_rfl
theorem j2 : laidOutB Try.prog = true := by kernel_rfl
theorem j3 : mapsRowed Try.prog = true := by kernel_rfl
theorem j4 : Try.f12.params.all (Try.prog.readableRec ·) = true := by kernel_rfl
theorem j5 : namedTie Try.prog Rows.shapeHulledRow.named Rows.shapeHulledSpec.vars = true := by kernel_rfl
theorem j6 : (Rows.shapeHulledRow.stops == []) = true := by kernel_rfl
theorem j7 : (Try.prog.stops == []) = true := by kernel_rfl
theorem j8 : (Rows.shapeHulledRow.knobs == []) = true := by kernel_rfl
theorem j9 : (Try.prog.stopKnobs == []) = true := by kernel_rfl
theorem j10 : (Rows.shapeHulledRow.inPlace == Try.prog.inPlace 12) = true := by kernel_rfl
theorem j11 : (Rows.shapeHulledRow.unfollowed == Try.prog.unfollowed 12) = true := by kernel_rfl
theorem j12 : (Rows.shapeHulledRow.recurses == Try.prog.recurses 12) = true := by kernel_rfl
theorem j13 : (Rows.shapeHulledRow.named == Try.prog.varsNamed 12) = true := by kernel_rfl
theorem j14 : (Rows.shapeHulledRow.maps == (Try.f12.params.toList ++ Rows.shapeHulledSpec.plain.varTypes Try.prog).any (Try.prog.mapsRec ·)) = true := by kernel_rfl
theorem j15 : (Rows.shapeHulledRow.ifaces == (Try.f12.params.toList ++ Rows.shapeHulledSpec.plain.varTypes Try.prog).any (Try.prog.ifacesRec ·)) = true := by kernel_rfl
theorem j16 : (Rows.shapeHulledRow.mapsOut == Try.prog.mapsAmong Try.f12.resultTypes.toList) = true := by kernel_rfl
theorem j17 : (Rows.shapeHulledRow.loops == (Try.f12.params.toList ++ Rows.shapeHulledSpec.plain.varTypes Try.prog).any (Try.prog.loopsFrom ·)) = true := by kernel_rfl
theorem j18 : (Rows.shapeHulledRow.wideKeys == (Try.f12.params.toList ++ Rows.shapeHulledSpec.plain.varTypes Try.prog ++ Try.f12.resultTypes.toList).any (Try.prog.wideKeysFrom ·)) = true := by kernel_rfl
theorem j19 : Rows.shapeHulledSpec.vars.all (Try.prog.varReadable ·) = true := by kernel_rfl
theorem j20 : Try.f12.resultTypes.all (fun t => Try.prog.readableRec t && decide (t < Try.prog.types.size)) = true := by kernel_rfl
theorem j21 : (Rows.shapeHulledRow.ifacesOut == Try.f12.resultTypes.toList.any (Try.prog.ifacesRec ·)) = true := by kernel_rfl
theorem j22 : (Rows.shapeHulledRow.loopsOut == Try.f12.resultTypes.toList.any (Try.prog.loopsFrom ·)) = true := by kernel_rfl
theorem j23 : (Rows.shapeHulledRow.plainKeys == Try.prog.plainKeys) = true := by kernel_rfl
theorem j24 : Rows.shapeHulledRow.shortTexts.isNone = true := by kernel_rfl
theorem j25 : Try.prog.stopsHeard = true := by kernel_rfl
theorem j26 : Try.prog.mayEnter = true := by kernel_rfl
theorem j27 : (Rows.shapeHulledRow.lifted == Try.prog.liftsFinal) = true := by kernel_rfl
theorem j28 : (Try.prog.make == some Rows.shapeHulledRow.make) = true := by kernel_rfl
theorem j29 : (Rows.shapeHulledRow.kinds == (if Rows.shapeHulledRow.domain.isEmpty then [] else Try.f12.params.toList.map fun t => match Try.prog.underlying t with | some (.int k) => some k | _ => none)) = true := by kernel_rfl
theorem j30 : (Rows.shapeHulledRow.pinned == Rows.shapeHulledRow.pinnedBy) = true := by kernel_rfl
theorem j31 : (Rows.shapeHulledRow.veiled == (Try.f12.params.toList ++ Rows.shapeHulledSpec.plain.varTypes Try.prog ++ Try.f12.resultTypes.toList).any (Try.prog.veiledRec ·)) = true := by kernel_rfl
theorem j32 : Rows.shapeHulledRow.veiledFits Try.prog Try.f12.params.toList (Try.f12.params.toList ++ Rows.shapeHulledSpec.plain.varTypes Try.prog ++ Try.f12.resultTypes.toList) = true := by kernel_rfl
theorem and2 {a b : Bool} (h : a = true) (k : b = true) : (a && b) = true := by rw [h, k]; rfl
set_option maxRecDepth 100000 in
theorem joined : joinedFacts Try.prog 12 Try.f12 Rows.shapeHulledSpec Rows.shapeHulledRow = true := (and2 (and2 (and2 (and2 (and2 (and2 (and2 (and2 (and2 (and2 (and2 (and2 (and2 (and2 (and2 (and2 (and2 (and2 (and2 (and2 (and2 (and2 (and2 (and2 (and2 (and2 (and2 (and2 (and2 (and2 (and2 j1 j2) j3) j4) j5) j6) j7) j8) j9) j10) j11) j12) j13) j14) j15) j16) j17) j18) j19) j20) j21) j22) j23) j24) j25) j26) j27) j28) j29) j30) j31) j32)
end Go.Proofs.Ytnijcdphmibjaaa.shapeHulled
