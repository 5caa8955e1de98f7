/- The closed facts of the row of ShapeNoFit. -/
import Derived.Test.YtlmdmgbhfoehgaaRows
import Derived.JoinedOf
namespace Go.Proofs.Ytlmdmgbhfoehgaa.shapeNoFit

theorem j1 : Rows.shapeNoFitRow.wf (OpenSpec.ofChange Rows.shapeNoFitSpec) = true := by kernel_rfl
theorem j2 : laidOutB Try.prog = true := by kernel_rfl
theorem j3 : mapsRowed Try.prog = true := by kernel_rfl
theorem j4 : Try.f7.params.all (Try.prog.readableRec ·) = true := by kernel_rfl
theorem j5 : namedTie Try.prog Rows.shapeNoFitRow.named Rows.shapeNoFitSpec.vars = true := by kernel_rfl
theorem j6 : (Rows.shapeNoFitRow.stops == []) = true := by kernel_rfl
theorem j7 : (Try.prog.stops == []) = true := by kernel_rfl
theorem j8 : (Rows.shapeNoFitRow.knobs == []) = true := by kernel_rfl
theorem j9 : (Try.prog.stopKnobs == []) = true := by kernel_rfl
theorem j10 : (Rows.shapeNoFitRow.inPlace == Try.prog.inPlace 7) = true := by kernel_rfl
theorem j11 : (Rows.shapeNoFitRow.unfollowed == Try.prog.unfollowed 7) = true := by kernel_rfl
theorem j12 : (Rows.shapeNoFitRow.recurses == Try.prog.recurses 7) = true := by kernel_rfl
theorem j13 : (Rows.shapeNoFitRow.named == Try.prog.varsNamed 7) = true := by kernel_rfl
theorem j14 : (Rows.shapeNoFitRow.maps == (Try.f7.params.toList ++ Rows.shapeNoFitSpec.plain.varTypes Try.prog).any (Try.prog.mapsRec ·)) = true := by kernel_rfl
theorem j15 : (Rows.shapeNoFitRow.ifaces == (Try.f7.params.toList ++ Rows.shapeNoFitSpec.plain.varTypes Try.prog).any (Try.prog.ifacesRec ·)) = true := by kernel_rfl
theorem j16 : (Rows.shapeNoFitRow.mapsOut == Try.prog.mapsAmong Try.f7.resultTypes.toList) = true := by kernel_rfl
theorem j17 : (Rows.shapeNoFitRow.loops == (Try.f7.params.toList ++ Rows.shapeNoFitSpec.plain.varTypes Try.prog).any (Try.prog.loopsFrom ·)) = true := by kernel_rfl
theorem j18 : (Rows.shapeNoFitRow.wideKeys == (Try.f7.params.toList ++ Rows.shapeNoFitSpec.plain.varTypes Try.prog ++ Try.f7.resultTypes.toList).any (Try.prog.wideKeysFrom ·)) = true := by kernel_rfl
theorem j19 : Rows.shapeNoFitSpec.vars.all (Try.prog.varReadable ·) = true := by kernel_rfl
theorem j20 : Try.f7.resultTypes.all (fun t => Try.prog.readableRec t && decide (t < Try.prog.types.size)) = true := by kernel_rfl
theorem j21 : (Rows.shapeNoFitRow.ifacesOut == Try.f7.resultTypes.toList.any (Try.prog.ifacesRec ·)) = true := by kernel_rfl
theorem j22 : (Rows.shapeNoFitRow.loopsOut == Try.f7.resultTypes.toList.any (Try.prog.loopsFrom ·)) = true := by kernel_rfl
theorem j23 : (Rows.shapeNoFitRow.plainKeys == Try.prog.plainKeys) = true := by kernel_rfl
theorem j24 : Rows.shapeNoFitRow.shortTexts.isNone = true := by kernel_rfl
theorem j25 : Try.prog.stopsHeard = true := by kernel_rfl
theorem j26 : Try.prog.mayEnter = true := by kernel_rfl
theorem j27 : (Rows.shapeNoFitRow.lifted == Try.prog.liftsFinal) = true := by kernel_rfl
theorem j28 : (Try.prog.make == some Rows.shapeNoFitRow.make) = true := by kernel_rfl
theorem j29 : (Rows.shapeNoFitRow.kinds == (if Rows.shapeNoFitRow.domain.isEmpty then [] else Try.f7.params.toList.map fun t => match Try.prog.underlying t with | some (.int k) => some k | _ => none)) = true := by kernel_rfl
theorem j30 : (Rows.shapeNoFitRow.pinned == Rows.shapeNoFitRow.pinnedBy) = true := by kernel_rfl
theorem j31 : (Rows.shapeNoFitRow.veiled == (Try.f7.params.toList ++ Rows.shapeNoFitSpec.plain.varTypes Try.prog ++ Try.f7.resultTypes.toList).any (Try.prog.veiledRec ·)) = true := by kernel_rfl
theorem j32 : Rows.shapeNoFitRow.veiledFits Try.prog Try.f7.params.toList (Try.f7.params.toList ++ Rows.shapeNoFitSpec.plain.varTypes Try.prog ++ Try.f7.resultTypes.toList) = true := by kernel_rfl
theorem and2 {a b : Bool} (h : a = true) (k : b = true) : (a && b) = true := by rw [h, k]; rfl
set_option maxRecDepth 100000 in
theorem joined : joinedFacts Try.prog 7 Try.f7 Rows.shapeNoFitSpec Rows.shapeNoFitRow = true := (and2 (and2 (and2 (and2 (and2 (and2 (and2 (and2 (and2 (and2 (and2 (and2 (and2 (and2 (and2 (and2 (and2 (and2 (and2 (and2 (and2 (and2 (and2 (and2 (and2 (and2 (and2 (and2 (and2 (and2 (and2 j1 j2) j3) j4) j5) j6) j7) j8) j9) j10) j11) j12) j13) j14) j15) j16) j17) j18) j19) j20) j21) j22) j23) j24) j25) j26) j27) j28) j29) j30) j31) j32)
end Go.Proofs.Ytlmdmgbhfoehgaa.shapeNoFit
