/- What the evaluator asks of a program of layer 9: functions without a text are bytealg's alone. -/
import Derived.Test.YtpeinngifknpkaaGreatDoorEngAt
namespace Go.Proofs.YtpeinngifknpkaaGreatDoor
open Go.RowKit (Below)

theorem eng_none : Tryz.prog.funcs[99999]? = none := by kernel_rfl
theorem eng_lack {e : Array Value → Sem Value} : Eng.Entry Tryz.prog 99999 e := ⟨fun fn h => by rw [eng_none] at h; cases h⟩
theorem eng_indexBytes : Eng.Entry Tryz.prog 127 Extern.BytealgIndexByte.indexByte := ⟨fun fn h => by
  obtain rfl := Option.some.inj (Tryz.func127.symm.trans h)
  exact ⟨by kernel_rfl, by kernel_rfl, by kernel_rfl, by kernel_rfl⟩⟩
noncomputable def eng9_prims : Eng.Base := (Eng.bareOf 139 99999 99999).with (Eng.knownIB 127)
theorem eng9_ok [Eng.Syms] {ro : Eng.Lo} : Eng.ProgOk Tryz.prog ro eng9_prims :=
  (Eng.progOk Tryz.checked.mixed eng_names eng_index eng_lack eng_lack).bytes eng_indexBytes (by kernel_rfl)
end Go.Proofs.YtpeinngifknpkaaGreatDoor
