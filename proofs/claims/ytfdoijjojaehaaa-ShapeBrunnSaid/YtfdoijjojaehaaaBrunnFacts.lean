/- The closed facts of the row of ShapeBrunn. -/
import Derived.Test.YtfdoijjojaehaaaRows
import Derived.JoinedOf
namespace Go.Proofs.Ytfdoijjojaehaaa.shapeBrunn

theorem j1 : Rows.shapeBrunnRow.wf (OpenSpec.ofChange Rows.shapeBrunnSpec) = true := by kernel_rfl
theorem j2 : laidOutB Try.prog = true := by kernel_rfl
theorem j3 : mapsRowed Try.prog = true := by kernel_rfl
theorem j4 : Try.f3.params.all (Try.prog.readableRec ·) = true := by kernel_rfl
theorem j5 : namedTie Try.prog Rows.shapeBrunnRow.named Rows.shapeBrunnSpec.vars = true := by kernel_rfl
theorem j6 : (Rows.shapeBrunnRow.stops == []) = true := by kernel_rfl
theorem j7 : (Try.prog.stops == []) = true := by kernel_rfl
theorem j8 : (Rows.shapeBrunnRow.knobs == []) = true := by kernel_rfl
theorem j9 : (Try.prog.stopKnobs == []) = true := by kernel_rfl
theorem j10 : (Rows.shapeBrunnRow.inPlace == Try.prog.inPlace 3) = true := by kernel_rfl
theorem j11 : (Rows.shapeBrunnRow.unfollowed == Try.prog.unfollowed 3) = true := by kernel_rfl
theorem j12 : (Rows.shapeBrunnRow.recurses == Try.prog.recurses 3) = true := by kernel_rfl
theorem j13 : (Rows.shapeBrunnRow.named == Try.prog.varsNamed 3) = true := by kernel_rfl
theorem j14 : (Rows.shapeBrunnRow.maps == (Try.f3.params.toList ++ Rows.shapeBrunnSpec.plain.varTypes Try.prog).any (Try.prog.mapsRec ·)) = true := by kernel_rfl
theorem j15 : (Rows.shapeBrunnRow.ifaces == (Try.f3.params.toList ++ Rows.shapeBrunnSpec.plain.varTypes Try.prog).any (Try.prog.ifacesRec ·)) = true := by kernel_rfl
theorem j16 : (Rows.shapeBrunnRow.mapsOut == Try.prog.mapsAmong Try.f3.resultTypes.toList) = true := by kernel_rfl
theorem j17 : (Rows.shapeBrunnRow.loops == (Try.f3.params.toList ++ Rows.shapeBrunnSpec.plain.varTypes Try.prog).any (Try.prog.loopsFrom ·)) = true := by kernel_rfl
theorem j18 : (Rows.shapeBrunnRow.wideKeys == (Try.f3.params.toList ++ Rows.shapeBrunnSpec.plain.varTypes Try.prog ++ Try.f3.resultTypes.toList).any (Try.prog.wideKeysFrom ·)) = true := by kernel_rfl
theorem j19 : Rows.shapeBrunnSpec.vars.all (Try.prog.varReadable ·) = true := by kernel_rfl
theorem j20 : Try.f3.resultTypes.all (fun t => Try.prog.readableRec t && decide (t < Try.prog.types.size)) = true := by kernel_rfl
theorem j21 : (Rows.shapeBrunnRow.ifacesOut == Try.f3.resultTypes.toList.any (Try.prog.ifacesRec ·)) = true := by kernel_rfl
theorem j22 : (Rows.shapeBrunnRow.loopsOut == Try.f3.resultTypes.toList.any (Try.prog.loopsFrom ·)) = true := by kernel_rfl
theorem j23 : (Rows.shapeBrunnRow.plainKeys == Try.prog.plainKeys) = true := by kernel_rfl
theorem j24 : Rows.shapeBrunnRow.shortTexts.isNone = true := by kernel_rfl
theorem j25 : Try.prog.stopsHeard = true := by kernel_rfl
theorem j26 : Try.prog.mayEnter = true := by kernel_rfl
theorem j27 : (Rows.shapeBrunnRow.lifted == Try.prog.liftsFinal) = true := by kernel_rfl
theorem j28 : (Try.prog.make == some Rows.shapeBrunnRow.make) = true := by kernel_rfl
theorem j29 : (Rows.shapeBrunnRow.kinds == (if Rows.shapeBrunnRow.domain.isEmpty then [] else Try.f3.params.toList.map fun t => match Try.prog.underlying t with | some (.int k) => some k | _ => none)) = true := by kernel_rfl
theorem j30 : (Rows.shapeBrunnRow.pinned == Rows.shapeBrunnRow.pinnedBy) = true := by kernel_rfl
theorem j31 : (Rows.shapeBrunnRow.veiled == (Try.f3.params.toList ++ Rows.shapeBrunnSpec.plain.varTypes Try.prog ++ Try.f3.resultTypes.toList).any (Try.prog.veiledRec ·)) = true := by kernel_rfl
theorem j32 : Rows.shapeBrunnRow.veiledFits Try.prog Try.f3.params.toList (Try.f3.params.toList ++ Rows.shapeBrunnSpec.plain.varTypes Try.prog ++ Try.f3.resultTypes.toList) = true := by kernel_rfl
theorem and2 {a b : Bool} (h : a = true) (k : b = true) : (a && b) = true := by rw [h, k]; rfl
set_option maxRecDepth 100000 in
theorem joined : joinedFacts Try.prog 3 Try.f3 Rows.shapeBrunnSpec Rows.shapeBrunnRow = true := (and2 (and2 (and2 (and2 (and2 (and2 (and2 (and2 (and2 (and2 (and2 (and2 (and2 (and2 (and2 (and2 (and2 (and2 (and2 (and2 (and2 (and2 (and2 (and2 (and2 (and2 (and2 (and2 (and2 (and2 (and2 j1 j2) j3) j4) j5) j6) j7) j8) j9) j10) j11) j12) j13) j14) j15) j16) j17) j18) j19) j20) j21) j22) j23) j24) j25) j26) j27) j28) j29) j30) j31) j32)
end Go.Proofs.Ytfdoijjojaehaaa.shapeBrunn
