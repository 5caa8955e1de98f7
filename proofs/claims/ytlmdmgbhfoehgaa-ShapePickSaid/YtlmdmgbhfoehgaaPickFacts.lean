/- The closed facts of the row of ShapePick. -/
import Derived.Test.YtlmdmgbhfoehgaaRows
import Derived.JoinedOf
namespace Go.Proofs.Ytlmdmgbhfoehgaa.shapePick

theorem j1 : Rows.shapePickRow.wf (OpenSpec.ofChange Rows.shapePickSpec) = true := by kernel_rfl
theorem j2 : laidOutB Try.prog = true := by kernel_rfl
theorem j3 : mapsRowed Try.prog = true := by kernel_rfl
theorem j4 : Try.f5.params.all (Try.prog.readableRec ·) = true := by kernel_rfl
theorem j5 : namedTie Try.prog Rows.shapePickRow.named Rows.shapePickSpec.vars = true := by kernel_rfl
theorem j6 : (Rows.shapePickRow.stops == []) = true := by kernel_rfl
theorem j7 : (Try.prog.stops == []) = true := by kernel_rfl
theorem j8 : (Rows.shapePickRow.knobs == []) = true := by kernel_rfl
theorem j9 : (Try.prog.stopKnobs == []) = true := by kernel_rfl
theorem j10 : (Rows.shapePickRow.inPlace == Try.prog.inPlace 5) = true := by kernel_rfl
theorem j11 : (Rows.shapePickRow.unfollowed == Try.prog.unfollowed 5) = true := by kernel_rfl
theorem j12 : (Rows.shapePickRow.recurses == Try.prog.recurses 5) = true := by kernel_rfl
theorem j13 : (Rows.shapePickRow.named == Try.prog.varsNamed 5) = true := by kernel_rfl
theorem j14 : (Rows.shapePickRow.maps == (Try.f5.params.toList ++ Rows.shapePickSpec.plain.varTypes Try.prog).any (Try.prog.mapsRec ·)) = true := by kernel_rfl
theorem j15 : (Rows.shapePickRow.ifaces == (Try.f5.params.toList ++ Rows.shapePickSpec.plain.varTypes Try.prog).any (Try.prog.ifacesRec ·)) = true := by kernel_rfl
theorem j16 : (Rows.shapePickRow.mapsOut == Try.prog.mapsAmong Try.f5.resultTypes.toList) = true := by kernel_rfl
theorem j17 : (Rows.shapePickRow.loops == (Try.f5.params.toList ++ Rows.shapePickSpec.plain.varTypes Try.prog).any (Try.prog.loopsFrom ·)) = true := by kernel_rfl
theorem j18 : (Rows.shapePickRow.wideKeys == (Try.f5.params.toList ++ Rows.shapePickSpec.plain.varTypes Try.prog ++ Try.f5.resultTypes.toList).any (Try.prog.wideKeysFrom ·)) = true := by kernel_rfl
theorem j19 : Rows.shapePickSpec.vars.all (Try.prog.varReadable ·) = true := by kernel_rfl
theorem j20 : Try.f5.resultTypes.all (fun t => Try.prog.readableRec t && decide (t < Try.prog.types.size)) = true := by kernel_rfl
theorem j21 : (Rows.shapePickRow.ifacesOut == Try.f5.resultTypes.toList.any (Try.prog.ifacesRec ·)) = true := by kernel_rfl
theorem j22 : (Rows.shapePickRow.loopsOut == Try.f5.resultTypes.toList.any (Try.prog.loopsFrom ·)) = true := by kernel_rfl
theorem j23 : (Rows.shapePickRow.plainKeys == Try.prog.plainKeys) = true := by kernel_rfl
theorem j24 : Rows.shapePickRow.shortTexts.isNone = true := by kernel_rfl
theorem j25 : Try.prog.stopsHeard = true := by kernel_rfl
theorem j26 : Try.prog.mayEnter = true := by kernel_rfl
theorem j27 : (Rows.shapePickRow.lifted == Try.prog.liftsFinal) = true := by kernel_rfl
theorem j28 : (Try.prog.make == some Rows.shapePickRow.make) = true := by kernel_rfl
theorem j29 : (Rows.shapePickRow.kinds == (if Rows.shapePickRow.domain.isEmpty then [] else Try.f5.params.toList.map fun t => match Try.prog.underlying t with | some (.int k) => some k | _ => none)) = true := by kernel_rfl
theorem j30 : (Rows.shapePickRow.pinned == Rows.shapePickRow.pinnedBy) = true := by kernel_rfl
theorem j31 : (Rows.shapePickRow.veiled == (Try.f5.params.toList ++ Rows.shapePickSpec.plain.varTypes Try.prog ++ Try.f5.resultTypes.toList).any (Try.prog.veiledRec ·)) = true := by kernel_rfl
theorem j32 : Rows.shapePickRow.veiledFits Try.prog Try.f5.params.toList (Try.f5.params.toList ++ Rows.shapePickSpec.plain.varTypes Try.prog ++ Try.f5.resultTypes.toList) = true := by kernel_rfl
theorem and2 {a b : Bool} (h : a = true) (k : b = true) : (a && b) = true := by rw [h, k]; rfl
set_option maxRecDepth 100000 in
theorem joined : joinedFacts Try.prog 5 Try.f5 Rows.shapePickSpec Rows.shapePickRow = true := (and2 (and2 (and2 (and2 (and2 (and2 (and2 (and2 (and2 (and2 (and2 (and2 (and2 (and2 (and2 (and2 (and2 (and2 (and2 (and2 (and2 (and2 (and2 (and2 (and2 (and2 (and2 (and2 (and2 (and2 (and2 j1 j2) j3) j4) j5) j6) j7) j8) j9) j10) j11) j12) j13) j14) j15) j16) j17) j18) j19) j20) j21) j22) j23) j24) j25) j26) j27) j28) j29) j30) j31) j32)
end Go.Proofs.Ytlmdmgbhfoehgaa.shapePick
