/- The closed facts of the row of TopPlaced. -/
import Derived.Test.YtffjonpajjioaaaRows
import Derived.JoinedOf
namespace Go.Proofs.Ytffjonpajjioaaa.topPlaced

theorem j1 : Rows.topPlacedRow.wf (OpenSpec.ofChange Rows.topPlacedSpec) = true := by kernel_rfl
theorem j2 : laidOutB Try.prog = true := by kernel_rfl
theorem j3 : mapsRowed Try.prog = true := by kernel_rfl
theorem j4 : Try.f3.params.all (Try.prog.readableRec ·) = true := by kernel_rfl
theorem j5 : namedTie Try.prog Rows.topPlacedRow.named Rows.topPlacedSpec.vars = true := by kernel_rfl
theorem j6 : (Rows.topPlacedRow.stops == []) = true := by kernel_rfl
theorem j7 : (Try.prog.stops == []) = true := by kernel_rfl
theorem j8 : (Rows.topPlacedRow.knobs == []) = true := by kernel_rfl
theorem j9 : (Try.prog.stopKnobs == []) = true := by kernel_rfl
theorem j10 : (Rows.topPlacedRow.inPlace == Try.prog.inPlace 3) = true := by kernel_rfl
theorem j11 : (Rows.topPlacedRow.unfollowed == Try.prog.unfollowed 3) = true := by kernel_rfl
theorem j12 : (Rows.topPlacedRow.recurses == Try.prog.recurses 3) = true := by kernel_rfl
theorem j13 : (Rows.topPlacedRow.named == Try.prog.varsNamed 3) = true := by kernel_rfl
theorem j14 : (Rows.topPlacedRow.maps == (Try.f3.params.toList ++ Rows.topPlacedSpec.plain.varTypes Try.prog).any (Try.prog.mapsRec ·)) = true := by kernel_rfl
theorem j15 : (Rows.topPlacedRow.ifaces == (Try.f3.params.toList ++ Rows.topPlacedSpec.plain.varTypes Try.prog).any (Try.prog.ifacesRec ·)) = true := by kernel_rfl
theorem j16 : (Rows.topPlacedRow.mapsOut == Try.prog.mapsAmong Try.f3.resultTypes.toList) = true := by kernel_rfl
theorem j17 : (Rows.topPlacedRow.loops == (Try.f3.params.toList ++ Rows.topPlacedSpec.plain.varTypes Try.prog).any (Try.prog.loopsFrom ·)) = true := by kernel_rfl
theorem j18 : (Rows.topPlacedRow.wideKeys == (Try.f3.params.toList ++ Rows.topPlacedSpec.plain.varTypes Try.prog ++ Try.f3.resultTypes.toList).any (Try.prog.wideKeysFrom ·)) = true := by kernel_rfl
theorem j19 : Rows.topPlacedSpec.vars.all (Try.prog.varReadable ·) = true := by kernel_rfl
theorem j20 : Try.f3.resultTypes.all (fun t => Try.prog.readableRec t && decide (t < Try.prog.types.size)) = true := by kernel_rfl
theorem j21 : (Rows.topPlacedRow.ifacesOut == Try.f3.resultTypes.toList.any (Try.prog.ifacesRec ·)) = true := by kernel_rfl
theorem j22 : (Rows.topPlacedRow.loopsOut == Try.f3.resultTypes.toList.any (Try.prog.loopsFrom ·)) = true := by kernel_rfl
theorem j23 : (Rows.topPlacedRow.plainKeys == Try.prog.plainKeys) = true := by kernel_rfl
theorem j24 : Rows.topPlacedRow.shortTexts.isNone = true := by kernel_rfl
theorem j25 : Try.prog.stopsHeard = true := by kernel_rfl
theorem j26 : Try.prog.mayEnter = true := by kernel_rfl
theorem j27 : (Rows.topPlacedRow.lifted == Try.prog.liftsFinal) = true := by kernel_rfl
theorem j28 : (Try.prog.make == some Rows.topPlacedRow.make) = true := by kernel_rfl
theorem j29 : (Rows.topPlacedRow.kinds == (if Rows.topPlacedRow.domain.isEmpty then [] else Try.f3.params.toList.map fun t => match Try.prog.underlying t with | some (.int k) => some k | _ => none)) = true := by kernel_rfl
theorem j30 : (Rows.topPlacedRow.pinned == Rows.topPlacedRow.pinnedBy) = true := by kernel_rfl
theorem j31 : (Rows.topPlacedRow.veiled == (Try.f3.params.toList ++ Rows.topPlacedSpec.plain.varTypes Try.prog ++ Try.f3.resultTypes.toList).any (Try.prog.veiledRec ·)) = true := by kernel_rfl
theorem j32 : Rows.topPlacedRow.veiledFits Try.prog Try.f3.params.toList (Try.f3.params.toList ++ Rows.topPlacedSpec.plain.varTypes Try.prog ++ Try.f3.resultTypes.toList) = true := by kernel_rfl
theorem and2 {a b : Bool} (h : a = true) (k : b = true) : (a && b) = true := by rw [h, k]; rfl
set_option maxRecDepth 100000 in
theorem joined : joinedFacts Try.prog 3 Try.f3 Rows.topPlacedSpec Rows.topPlacedRow = true := (and2 (and2 (and2 (and2 (and2 (and2 (and2 (and2 (and2 (and2 (and2 (and2 (and2 (and2 (and2 (and2 (and2 (and2 (and2 (and2 (and2 (and2 (and2 (and2 (and2 (and2 (and2 (and2 (and2 (and2 (and2 j1 j2) j3) j4) j5) j6) j7) j8) j9) j10) j11) j12) j13) j14) j15) j16) j17) j18) j19) j20) j21) j22) j23) j24) j25) j26) j27) j28) j29) j30) j31) j32)
end Go.Proofs.Ytffjonpajjioaaa.topPlaced
