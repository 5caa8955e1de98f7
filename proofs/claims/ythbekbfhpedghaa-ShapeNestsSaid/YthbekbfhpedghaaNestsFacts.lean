/- The closed facts of the row of ShapeNests. -/
import Derived.Test.YthbekbfhpedghaaRows
import Derived.JoinedOf
namespace Go.Proofs.Ythbekbfhpedghaa.shapeNests

theorem j1 : Rows.shapeNestsRow.wf (OpenSpec.ofChange Rows.shapeNestsSpec) = true := by kernel_rfl
theorem j2 : laidOutB Try.prog = true := by kernel_rfl
theorem j3 : mapsRowed Try.prog = true := by kernel_rfl
theorem j4 : Try.f3.params.all (Try.prog.readableRec ·) = true := by kernel_rfl
theorem j5 : namedTie Try.prog Rows.shapeNestsRow.named Rows.shapeNestsSpec.vars = true := by kernel_rfl
theorem j6 : (Rows.shapeNestsRow.stops == []) = true := by kernel_rfl
theorem j7 : (Try.prog.stops == []) = true := by kernel_rfl
theorem j8 : (Rows.shapeNestsRow.knobs == []) = true := by kernel_rfl
theorem j9 : (Try.prog.stopKnobs == []) = true := by kernel_rfl
theorem j10 : (Rows.shapeNestsRow.inPlace == Try.prog.inPlace 3) = true := by kernel_rfl
theorem j11 : (Rows.shapeNestsRow.unfollowed == Try.prog.unfollowed 3) = true := by kernel_rfl
theorem j12 : (Rows.shapeNestsRow.recurses == Try.prog.recurses 3) = true := by kernel_rfl
theorem j13 : (Rows.shapeNestsRow.named == Try.prog.varsNamed 3) = true := by kernel_rfl
theorem j14 : (Rows.shapeNestsRow.maps == (Try.f3.params.toList ++ Rows.shapeNestsSpec.plain.varTypes Try.prog).any (Try.prog.mapsRec ·)) = true := by kernel_rfl
theorem j15 : (Rows.shapeNestsRow.ifaces == (Try.f3.params.toList ++ Rows.shapeNestsSpec.plain.varTypes Try.prog).any (Try.prog.ifacesRec ·)) = true := by kernel_rfl
theorem j16 : (Rows.shapeNestsRow.mapsOut == Try.prog.mapsAmong Try.f3.resultTypes.toList) = true := by kernel_rfl
theorem j17 : (Rows.shapeNestsRow.loops == (Try.f3.params.toList ++ Rows.shapeNestsSpec.plain.varTypes Try.prog).any (Try.prog.loopsFrom ·)) = true := by kernel_rfl
theorem j18 : (Rows.shapeNestsRow.wideKeys == (Try.f3.params.toList ++ Rows.shapeNestsSpec.plain.varTypes Try.prog ++ Try.f3.resultTypes.toList).any (Try.prog.wideKeysFrom ·)) = true := by kernel_rfl
theorem j19 : Rows.shapeNestsSpec.vars.all (Try.prog.varReadable ·) = true := by kernel_rfl
theorem j20 : Try.f3.resultTypes.all (fun t => Try.prog.readableRec t && decide (t < Try.prog.types.size)) = true := by kernel_rfl
theorem j21 : (Rows.shapeNestsRow.ifacesOut == Try.f3.resultTypes.toList.any (Try.prog.ifacesRec ·)) = true := by kernel_rfl
theorem j22 : (Rows.shapeNestsRow.loopsOut == Try.f3.resultTypes.toList.any (Try.prog.loopsFrom ·)) = true := by kernel_rfl
theorem j23 : (Rows.shapeNestsRow.plainKeys == Try.prog.plainKeys) = true := by kernel_rfl
theorem j24 : Rows.shapeNestsRow.shortTexts.isNone = true := by kernel_rfl
theorem j25 : Try.prog.stopsHeard = true := by kernel_rfl
theorem j26 : Try.prog.mayEnter = true := by kernel_rfl
theorem j27 : (Rows.shapeNestsRow.lifted == Try.prog.liftsFinal) = true := by kernel_rfl
theorem j28 : (Try.prog.make == some Rows.shapeNestsRow.make) = true := by kernel_rfl
theorem j29 : (Rows.shapeNestsRow.kinds == (if Rows.shapeNestsRow.domain.isEmpty then [] else Try.f3.params.toList.map fun t => match Try.prog.underlying t with | some (.int k) => some k | _ => none)) = true := by kernel_rfl
theorem j30 : (Rows.shapeNestsRow.pinned == Rows.shapeNestsRow.pinnedBy) = true := by kernel_rfl
theorem j31 : (Rows.shapeNestsRow.veiled == (Try.f3.params.toList ++ Rows.shapeNestsSpec.plain.varTypes Try.prog ++ Try.f3.resultTypes.toList).any (Try.prog.veiledRec ·)) = true := by kernel_rfl
theorem j32 : Rows.shapeNestsRow.veiledFits Try.prog Try.f3.params.toList (Try.f3.params.toList ++ Rows.shapeNestsSpec.plain.varTypes Try.prog ++ Try.f3.resultTypes.toList) = true := by kernel_rfl
theorem and2 {a b : Bool} (h : a = true) (k : b = true) : (a && b) = true := by rw [h, k]; rfl
set_option maxRecDepth 100000 in
theorem joined : joinedFacts Try.prog 3 Try.f3 Rows.shapeNestsSpec Rows.shapeNestsRow = true := (and2 (and2 (and2 (and2 (and2 (and2 (and2 (and2 (and2 (and2 (and2 (and2 (and2 (and2 (and2 (and2 (and2 (and2 (and2 (and2 (and2 (and2 (and2 (and2 (and2 (and2 (and2 (and2 (and2 (and2 (and2 j1 j2) j3) j4) j5) j6) j7) j8) j9) j10) j11) j12) j13) j14) j15) j16) j17) j18) j19) j20) j21) j22) j23) j24) j25) j26) j27) j28) j29) j30) j31) j32)
end Go.Proofs.Ythbekbfhpedghaa.shapeNests
