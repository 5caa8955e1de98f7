/- The closed facts of the row of ShapeMinkowski. -/
import Derived.Test.YtlmdmgbhfoehgaaRows
import Derived.JoinedOf
namespace Go.Proofs.Ytlmdmgbhfoehgaa.shapeMinkowski

theorem j1 : Rows.shapeMinkowskiRow.wf (OpenSpec.ofChange Rows.shapeMinkowskiSpec) = true := by kernel_rfl
theorem j2 : laidOutB Try.prog = true := by kernel_rfl
theorem j3 : mapsRowed Try.prog = true := by kernel_rfl
theorem j4 : Try.f6.params.all (Try.prog.readableRec ·) = true := by kernel_rfl
theorem j5 : namedTie Try.prog Rows.shapeMinkowskiRow.named Rows.shapeMinkowskiSpec.vars = true := by kernel_rfl
theorem j6 : (Rows.shapeMinkowskiRow.stops == []) = true := by kernel_rfl
theorem j7 : (Try.prog.stops == []) = true := by kernel_rfl
theorem j8 : (Rows.shapeMinkowskiRow.knobs == []) = true := by kernel_rfl
theorem j9 : (Try.prog.stopKnobs == []) = true := by kernel_rfl
theorem j10 : (Rows.shapeMinkowskiRow.inPlace == Try.prog.inPlace 6) = true := by kernel_rfl
theorem j11 : (Rows.shapeMinkowskiRow.unfollowed == Try.prog.unfollowed 6) = true := by kernel_rfl
theorem j12 : (Rows.shapeMinkowskiRow.recurses == Try.prog.recurses 6) = true := by kernel_rfl
theorem j13 : (Rows.shapeMinkowskiRow.named == Try.prog.varsNamed 6) = true := by kernel_rfl
theorem j14 : (Rows.shapeMinkowskiRow.maps == (Try.f6.params.toList ++ Rows.shapeMinkowskiSpec.plain.varTypes Try.prog).any (Try.prog.mapsRec ·)) = true := by kernel_rfl
theorem j15 : (Rows.shapeMinkowskiRow.ifaces == (Try.f6.params.toList ++ Rows.shapeMinkowskiSpec.plain.varTypes Try.prog).any (Try.prog.ifacesRec ·)) = true := by kernel_rfl
theorem j16 : (Rows.shapeMinkowskiRow.mapsOut == Try.prog.mapsAmong Try.f6.resultTypes.toList) = true := by kernel_rfl
theorem j17 : (Rows.shapeMinkowskiRow.loops == (Try.f6.params.toList ++ Rows.shapeMinkowskiSpec.plain.varTypes Try.prog).any (Try.prog.loopsFrom ·)) = true := by kernel_rfl
theorem j18 : (Rows.shapeMinkowskiRow.wideKeys == (Try.f6.params.toList ++ Rows.shapeMinkowskiSpec.plain.varTypes Try.prog ++ Try.f6.resultTypes.toList).any (Try.prog.wideKeysFrom ·)) = true := by kernel_rfl
theorem j19 : Rows.shapeMinkowskiSpec.vars.all (Try.prog.varReadable ·) = true := by kernel_rfl
theorem j20 : Try.f6.resultTypes.all (fun t => Try.prog.readableRec t && decide (t < Try.prog.types.size)) = true := by kernel_rfl
theorem j21 : (Rows.shapeMinkowskiRow.ifacesOut == Try.f6.resultTypes.toList.any (Try.prog.ifacesRec ·)) = true := by kernel_rfl
theorem j22 : (Rows.shapeMinkowskiRow.loopsOut == Try.f6.resultTypes.toList.any (Try.prog.loopsFrom ·)) = true := by kernel_rfl
theorem j23 : (Rows.shapeMinkowskiRow.plainKeys == Try.prog.plainKeys) = true := by kernel_rfl
theorem j24 : Rows.shapeMinkowskiRow.shortTexts.isNone = true := by kernel_rfl
theorem j25 : Try.prog.stopsHeard = true := by kernel_rfl
theorem j26 : Try.prog.mayEnter = true := by kernel_rfl
theorem j27 : (Rows.shapeMinkowskiRow.lifted == Try.prog.liftsFinal) = true := by kernel_rfl
theorem j28 : (Try.prog.make == some Rows.shapeMinkowskiRow.make) = true := by kernel_rfl
theorem j29 : (Rows.shapeMinkowskiRow.kinds == (if Rows.shapeMinkowskiRow.domain.isEmpty then [] else Try.f6.params.toList.map fun t => match Try.prog.underlying t with | some (.int k) => some k | _ => none)) = true := by kernel_rfl
theorem j30 : (Rows.shapeMinkowskiRow.pinned == Rows.shapeMinkowskiRow.pinnedBy) = true := by kernel_rfl
theorem j31 : (Rows.shapeMinkowskiRow.veiled == (Try.f6.params.toList ++ Rows.shapeMinkowskiSpec.plain.varTypes Try.prog ++ Try.f6.resultTypes.toList).any (Try.prog.veiledRec ·)) = true := by kernel_rfl
theorem j32 : Rows.shapeMinkowskiRow.veiledFits Try.prog Try.f6.params.toList (Try.f6.params.toList ++ Rows.shapeMinkowskiSpec.plain.varTypes Try.prog ++ Try.f6.resultTypes.toList) = true := by kernel_rfl
theorem and2 {a b : Bool} (h : a = true) (k : b = true) : (a && b) = true := by rw [h, k]; rfl
set_option maxRecDepth 100000 in
theorem joined : joinedFacts Try.prog 6 Try.f6 Rows.shapeMinkowskiSpec Rows.shapeMinkowskiRow = true := (and2 (and2 (and2 (and2 (and2 (and2 (and2 (and2 (and2 (and2 (and2 (and2 (and2 (and2 (and2 (and2 (and2 (and2 (and2 (and2 (and2 (and2 (and2 (and2 (and2 (and2 (and2 (and2 (and2 (and2 (and2 j1 j2) j3) j4) j5) j6) j7) j8) j9) j10) j11) j12) j13) j14) j15) j16) j17) j18) j19) j20) j21) j22) j23) j24) j25) j26) j27) j28) j29) j30) j31) j32)
end Go.Proofs.Ytlmdmgbhfoehgaa.shapeMinkowski
