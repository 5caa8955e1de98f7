/- The closed facts of the row of ShapeNested. -/
import Derived.Test.YthbekbfhpedghaaRows
import Derived.JoinedOf
namespace Go.Proofs.Ythbekbfhpedghaa.shapeNested

theorem j1 : Rows.shapeNestedRow.wf (OpenSpec.ofChange Rows.shapeNestedSpec) = true := by kernel_rfl
theorem j2 : laidOutB Try.prog = true := by kernel_rfl
theorem j3 : mapsRowed Try.prog = true := by kernel_rfl
theorem j4 : Try.f4.params.all (Try.prog.readableRec ·) = true := by kernel_rfl
theorem j5 : namedTie Try.prog Rows.shapeNestedRow.named Rows.shapeNestedSpec.vars = true := by kernel_rfl
theorem j6 : (Rows.shapeNestedRow.stops == []) = true := by kernel_rfl
theorem j7 : (Try.prog.stops == []) = true := by kernel_rfl
theorem j8 : (Rows.shapeNestedRow.knobs == []) = true := by kernel_rfl
theorem j9 : (Try.prog.stopKnobs == []) = true := by kernel_rfl
theorem j10 : (Rows.shapeNestedRow.inPlace == Try.prog.inPlace 4) = true := by kernel_rfl
theorem j11 : (Rows.shapeNestedRow.unfollowed == Try.prog.unfollowed 4) = true := by kernel_rfl
theorem j12 : (Rows.shapeNestedRow.recurses == Try.prog.recurses 4) = true := by kernel_rfl
theorem j13 : (Rows.shapeNestedRow.named == Try.prog.varsNamed 4) = true := by kernel_rfl
theorem j14 : (Rows.shapeNestedRow.maps == (Try.f4.params.toList ++ Rows.shapeNestedSpec.plain.varTypes Try.prog).any (Try.prog.mapsRec ·)) = true := by kernel_rfl
theorem j15 : (Rows.shapeNestedRow.ifaces == (Try.f4.params.toList ++ Rows.shapeNestedSpec.plain.varTypes Try.prog).any (Try.prog.ifacesRec ·)) = true := by kernel_rfl
theorem j16 : (Rows.shapeNestedRow.mapsOut == Try.prog.mapsAmong Try.f4.resultTypes.toList) = true := by kernel_rfl
theorem j17 : (Rows.shapeNestedRow.loops == (Try.f4.params.toList ++ Rows.shapeNestedSpec.plain.varTypes Try.prog).any (Try.prog.loopsFrom ·)) = true := by kernel_rfl
theorem j18 : (Rows.shapeNestedRow.wideKeys == (Try.f4.params.toList ++ Rows.shapeNestedSpec.plain.varTypes Try.prog ++ Try.f4.resultTypes.toList).any (Try.prog.wideKeysFrom ·)) = true := by kernel_rfl
theorem j19 : Rows.shapeNestedSpec.vars.all (Try.prog.varReadable ·) = true := by kernel_rfl
theorem j20 : Try.f4.resultTypes.all (fun t => Try.prog.readableRec t && decide (t < Try.prog.types.size)) = true := by kernel_rfl
theorem j21 : (Rows.shapeNestedRow.ifacesOut == Try.f4.resultTypes.toList.any (Try.prog.ifacesRec ·)) = true := by kernel_rfl
theorem j22 : (Rows.shapeNestedRow.loopsOut == Try.f4.resultTypes.toList.any (Try.prog.loopsFrom ·)) = true := by kernel_rfl
theorem j23 : (Rows.shapeNestedRow.plainKeys == Try.prog.plainKeys) = true := by kernel_rfl
theorem j24 : Rows.shapeNestedRow.shortTexts.isNone = true := by kernel_rfl
theorem j25 : Try.prog.stopsHeard = true := by kernel_rfl
theorem j26 : Try.prog.mayEnter = true := by kernel_rfl
theorem j27 : (Rows.shapeNestedRow.lifted == Try.prog.liftsFinal) = true := by kernel_rfl
theorem j28 : (Try.prog.make == some Rows.shapeNestedRow.make) = true := by kernel_rfl
theorem j29 : (Rows.shapeNestedRow.kinds == (if Rows.shapeNestedRow.domain.isEmpty then [] else Try.f4.params.toList.map fun t => match Try.prog.underlying t with | some (.int k) => some k | _ => none)) = true := by kernel_rfl
theorem j30 : (Rows.shapeNestedRow.pinned == Rows.shapeNestedRow.pinnedBy) = true := by kernel_rfl
theorem j31 : (Rows.shapeNestedRow.veiled == (Try.f4.params.toList ++ Rows.shapeNestedSpec.plain.varTypes Try.prog ++ Try.f4.resultTypes.toList).any (Try.prog.veiledRec ·)) = true := by kernel_rfl
theorem j32 : Rows.shapeNestedRow.veiledFits Try.prog Try.f4.params.toList (Try.f4.params.toList ++ Rows.shapeNestedSpec.plain.varTypes Try.prog ++ Try.f4.resultTypes.toList) = true := by kernel_rfl
theorem and2 {a b : Bool} (h : a = true) (k : b = true) : (a && b) = true := by rw [h, k]; rfl
set_option maxRecDepth 100000 in
theorem joined : joinedFacts Try.prog 4 Try.f4 Rows.shapeNestedSpec Rows.shapeNestedRow = true := (and2 (and2 (and2 (and2 (and2 (and2 (and2 (and2 (and2 (and2 (and2 (and2 (and2 (and2 (and2 (and2 (and2 (and2 (and2 (and2 (and2 (and2 (and2 (and2 (and2 (and2 (and2 (and2 (and2 (and2 (and2 j1 j2) j3) j4) j5) j6) j7) j8) j9) j10) j11) j12) j13) j14) j15) j16) j17) j18) j19) j20) j21) j22) j23) j24) j25) j26) j27) j28) j29) j30) j31) j32)
end Go.Proofs.Ythbekbfhpedghaa.shapeNested
