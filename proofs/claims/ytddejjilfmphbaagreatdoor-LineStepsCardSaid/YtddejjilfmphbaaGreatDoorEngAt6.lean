/- What the evaluator asks of a program of layer 6 without strings' search: functions without a text are Add64 and Sub64 alone. -/
import Derived.Test.YtddejjilfmphbaaGreatDoorEngAt
namespace Go.Proofs.YtddejjilfmphbaaGreatDoor

theorem eng_none6 : Tryz.prog.funcs[99999]? = none := by kernel_rfl
theorem eng_lack6 {e : Array Value → Sem Value} : Eng.Entry Tryz.prog 99999 e := ⟨fun fn h => by rw [eng_none6] at h; cases h⟩
noncomputable def eng6_prims : Eng.Base := Eng.bareOf 99999 105 106
theorem eng6_ok {ro : Eng.Lo} : Eng.ProgOk Tryz.prog ro eng6_prims := Eng.progOk Tryz.checked.mixed eng_names eng_lack6 eng_add eng_sub
end Go.Proofs.YtddejjilfmphbaaGreatDoor
