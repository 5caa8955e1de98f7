/- The call of regime in layer 6's lives. -/
import Derived.Test.YtddejjilfmphbaaGreatDoorEnts6C
import Derived.Test.YtddejjilfmphbaaGreatDoorEnts6D
namespace Go.Proofs.YtddejjilfmphbaaGreatDoor

theorem pents6_ok : ∀ e ∈ [pent0], ∃ b fuel, Eng.ProgOk Tryz.prog ⟨eng_ro, e.nx⟩ b ∧ Eng.entOk Tryz.prog eng_ro b fuel 34 e = true := fun e he => by
  simp only [List.mem_cons, List.not_mem_nil, or_false] at he
  subst he
  exact ⟨_, _, eng6_ok, pent0_ok⟩
noncomputable def prims6s : Eng.Base := (prims6r.with (Eng.knownOf 34 [pent0])).with (Eng.knownOf 38 [cent0, cent1])
theorem prims6s_ok {r : Nat} : Eng.ProgOk Tryz.prog ⟨eng_ro, r⟩ prims6s := Eng.ProgOk.with (Eng.ProgOk.with (Eng.ProgOk.with eng6_ok ents6_ok) pents6_ok) cents6_ok
theorem gent0_ok : Eng.entOk Tryz.prog eng_ro prims6s 100000 42 gent0 = true := by kernel_rfl

end Go.Proofs.YtddejjilfmphbaaGreatDoor
