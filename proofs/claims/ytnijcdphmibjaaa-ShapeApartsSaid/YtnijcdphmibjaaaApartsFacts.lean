/- The closed facts of the row of ShapeAparts. -/
import Derived.Test.YtnijcdphmibjaaaRows
import Derived.JoinedOf
namespace Go.Proofs.Ytnijcdphmibjaaa.shapeAparts

theorem j1 : Rows.shapeApartsRow.wf (OpenSpec.ofChange Rows.shapeApartsSpec) = true := by kernel_rfl
theorem j2 : laidOutB Try.prog = true := by kernel_rfl
theorem j3 : mapsRowed Try.prog = true := by kernel_rfl
theorem j4 : Try.f7.params.all (Try.prog.readableRec ·) = true := by kernel_rfl
theorem j5 : namedTie Try.prog Rows.shapeApartsRow.named Rows.shapeApartsSpec.vars = true := by kernel_rfl
theorem j6 : (Rows.shapeApartsRow.stops == []) = true := by kernel_rfl
theorem j7 : (Try.prog.stops == []) = true := by kernel_rfl
theorem j8 : (Rows.shapeApartsRow.knobs == []) = true := by kernel_rfl
theorem j9 : (Try.prog.stopKnobs == []) = true := by kernel_rfl
theorem j10 : (Rows.shapeApartsRow.inPlace == Try.prog.inPlace 7) = true := by kernel_rfl
theorem j11 : (Rows.shapeApartsRow.unfollowed == Try.prog.unfollowed 7) = true := by kernel_rfl
theorem j12 : (Rows.shapeApartsRow.recurses == Try.prog.recurses 7) = true := by kernel_rfl
theorem j13 : (Rows.shapeApartsRow.named == Try.prog.varsNamed 7) = true := by kernel_rfl
theorem j14 : (Rows.shapeApartsRow.maps == (Try.f7.params.toList ++ Rows.shapeApartsSpec.plain.varTypes Try.prog).any (Try.prog.mapsRec ·)) = true := by kernel_rfl
theorem j15 : (Rows.shapeApartsRow.ifaces == (Try.f7.params.toList ++ Rows.shapeApartsSpec.plain.varTypes Try.prog).any (Try.prog.ifacesRec ·)) = true := by kernel_rfl
theorem j16 : (Rows.shapeApartsRow.mapsOut == Try.prog.mapsAmong Try.f7.resultTypes.toList) = true := by kernel_rfl
theorem j17 : (Rows.shapeApartsRow.loops == (Try.f7.params.toList ++ Rows.shapeApartsSpec.plain.varTypes Try.prog).any (Try.prog.loopsFrom ·)) = true := by kernel_rfl
theorem j18 : (Rows.shapeApartsRow.wideKeys == (Try.f7.params.toList ++ Rows.shapeApartsSpec.plain.varTypes Try.prog ++ Try.f7.resultTypes.toList).any (Try.prog.wideKeysFrom ·)) = true := by kernel_rfl
theorem j19 : Rows.shapeApartsSpec.vars.all (Try.prog.varReadable ·) = true := by kernel_rfl
theorem j20 : Try.f7.resultTypes.all (fun t => Try.prog.readableRec t && decide (t < Try.prog.types.size)) = true := by kernel_rfl
theorem j21 : (Rows.shapeApartsRow.ifacesOut == Try.f7.resultTypes.toList.any (Try.prog.ifacesRec ·)) = true := by kernel_rfl
theorem j22 : (Rows.shapeApartsRow.loopsOut == Try.f7.resultTypes.toList.any (Try.prog.loopsFrom ·)) = true := by kernel_rfl
theorem j23 : (Rows.shapeApartsRow.plainKeys == Try.prog.plainKeys) = true := by kernel_rfl
theorem j24 : Rows.shapeApartsRow.shortTexts.isNone = true := by kernel_rfl
theorem j25 : Try.prog.stopsHeard = true := by kernel_rfl
theorem j26 : Try.prog.mayEnter = true := by kernel_rfl
theorem j27 : (Rows.shapeApartsRow.lifted == Try.prog.liftsFinal) = true := by kernel_rfl
theorem j28 : (Try.prog.make == some Rows.shapeApartsRow.make) = true := by kernel_rfl
theorem j29 : (Rows.shapeApartsRow.kinds == (if Rows.shapeApartsRow.domain.isEmpty then [] else Try.f7.params.toList.map fun t => match Try.prog.underlying t with | some (.int k) => some k | _ => none)) = true := by kernel_rfl
theorem j30 : (Rows.shapeApartsRow.pinned == Rows.shapeApartsRow.pinnedBy) = true := by kernel_rfl
theorem j31 : (Rows.shapeApartsRow.veiled == (Try.f7.params.toList ++ Rows.shapeApartsSpec.plain.varTypes Try.prog ++ Try.f7.resultTypes.toList).any (Try.prog.veiledRec ·)) = true := by kernel_rfl
theorem j32 : Rows.shapeApartsRow.veiledFits Try.prog Try.f7.params.toList (Try.f7.params.toList ++ Rows.shapeApartsSpec.plain.varTypes Try.prog ++ Try.f7.resultTypes.toList) = true := by kernel_rfl
theorem and2 {a b : Bool} (h : a = true) (k : b = true) : (a && b) = true := by rw [h, k]; rfl
set_option maxRecDepth 100000 in
theorem joined : joinedFacts Try.prog 7 Try.f7 Rows.shapeApartsSpec Rows.shapeApartsRow = true := (and2 (and2 (and2 (and2 (and2 (and2 (and2 (and2 (and2 (and2 (and2 (and2 (and2 (and2 (and2 (and2 (and2 (and2 (and2 (and2 (and2 (and2 (and2 (and2 (and2 (and2 (and2 (and2 (and2 (and2 (and2 j1 j2) j3) j4) j5) j6) j7) j8) j9) j10) j11) j12) j13) j14) j15) j16) j17) j18) j19) j20) j21) j22) j23) j24) j25) j26) j27) j28) j29) j30) j31) j32)
end Go.Proofs.Ytnijcdphmibjaaa.shapeAparts
