/- Parts of the proof, one after the other: TileLaw. -/
import Derived.Test.YtlekncamokiekaaGreatDoorTw5
import Derived.Test.YtlekncamokiekaaGreatDoorTw6
/- TileWays: the law's walk, on the law's few (Few5) and lives (Lives5Ok). -/
namespace Go.Proofs.YtlekncamokiekaaGreatDoor
open Go.RowKit Go.Sort
attribute [local go_sem ↓] run_min_mn run_max_mx

def Lives5Ok (w : World) : Prop := ∀ W, Below w.heap.size w W → Calls Tryz.prog 7 #[] W fun e w' => e = .returned (.bool true) ∧ Below W.heap.size W w'
def Few5To (l : List Pt) (t f : Bool) (w : World) (e : Ending) (w' : World) : Prop := ∃ (A0 : Option Addr) (n0 c0 g c2 : Nat) (A1 : Option Addr) (n1 c1 : Nat),
  e = .returned (.agg #[.int .i64 0, .int .i64 0, .slice A0 n0 c0, .slice (some ⟨g, 0, none⟩) 1 c2]) ∧ (w'.cell? ⟨g, 0, none⟩ = some (.slice A1 n1 c1) ∧ w'.cell? ⟨g, 1, none⟩ = some (.bool t) ∧ w'.cell? ⟨g, 2, none⟩ = some (.bool f)) ∧ (l.take 7).length = n1 ∧ n1 ≤ c1 ∧ PtsAt w' A1 (l.take 7) ∧ Below w.heap.size w w'
/-- What few does to a bench of one cutter. -/
def Few5 : Prop := ∀ (g : Nat) (A : Option Addr) (n c : Nat) (l : List Pt) (t f : Bool) (w : World), l.length = n → n ≤ c → n ≤ 9223372036854775807 → PtsAt w A l → w.cell? ⟨g, 0, none⟩ = some (.slice A n c) → w.cell? ⟨g, 1, none⟩ = some (.bool t) → w.cell? ⟨g, 2, none⟩ = some (.bool f) →
  Calls Tryz.prog 4 #[.agg #[.int .i64 0, .int .i64 0, .slice none 0 0, .slice (some ⟨g, 0, none⟩) 1 1]] w (Few5To l t f w)
/-- What the law holds while it calls. -/
def TlC (w : World) (g : Nat) (A : Option Addr) (n c : Nat) (t f : Bool) (l : List Pt) (w' : World) : Prop := Blk w' g 24 #[.slice A n c, .bool t, .bool f] ∧ PtsAt w' A l ∧ Below w.heap.size w w'
theorem TlC.go {w w' w'' : World} {g : Nat} {A : Option Addr} {n c : Nat} {t f : Bool} {l : List Pt} (h : TlC w g A n c t f l w') (hb : Below w'.heap.size w' w'') : TlC w g A n c t f l w'' :=
  ⟨h.1.same (hb.block g h.1.lt), h.2.1.below hb, h.2.2.trans (hb.mono h.2.2.size)⟩
theorem TlC.cells {w w' : World} {g : Nat} {A : Option Addr} {n c : Nat} {t f : Bool} {l : List Pt} (h : TlC w g A n c t f l w') : w'.cell? ⟨g, 0, none⟩ = some (.slice A n c) ∧ w'.cell? ⟨g, 1, none⟩ = some (.bool t) ∧ w'.cell? ⟨g, 2, none⟩ = some (.bool f) := ⟨h.1.cell 0, h.1.cell 1, h.1.cell 2⟩

set_option maxRecDepth 100000 in
set_option maxHeartbeats 4000000 in
theorem tiles_law (hS : SortsPts) (hF : Few5) (A : Option Addr) (n c : Nat) (l : List Pt) (t f : Bool) (w : World) (hT : Lives5Ok w) (hl : l.length = n) (hc : n ≤ c) (hbig : n ≤ 9223372036854775807) (hx : PtsAt w A l) :
    Calls Tryz.prog 3 #[.agg #[.slice A n c, .bool t, .bool f]] w fun e w' => e = .returned (.bool true) ∧ Below w.heap.size w w' := by
  have HT := Lib.hid hT
  have HL := Lib.hid hl
  have HX := Lib.hid hx
  clear hT hl hx
  go_enter Tryz.func3, Tryz.ntmps3
  have HB1 : Hid (Below w.heap.size w ((w.alloc (.cells #[.slice A n c, .bool t, .bool f] 24)).alloc (.cells #[.slice A n c, .bool t, .bool f] 24))) := Lib.hid (((Below.refl _ _).alloc (Nat.le_refl _) _).alloc (by simp) _)
  have KF := Lib.hid (hF (w.heap.size + 1) A n c l t f ((w.alloc (.cells #[.slice A n c, .bool t, .bool f] 24)).alloc (.cells #[.slice A n c, .bool t, .bool f] 24)) HL.out hc hbig (HX.out.below HB1.out) (by simp) (by simp) (by simp))
  go_wp2_with fail
  refine KF.out.mono ?_
  clear KF
  rintro e w2 ⟨A0, n0, c0, g, c2, A1, n1, c1, rfl, ⟨k0, k1, k2⟩, hn1, hc1, hat, hb2⟩
  have HN1 := Lib.hid hn1
  have hn7 : n1 ≤ 7 := by rw [← hn1, List.length_take]; omega
  have HC : Hid (TlC w w2.heap.size A1 n1 c1 t f (l.take 7) (w2.alloc (.cells #[.slice A1 n1 c1, .bool t, .bool f] 24))) := Lib.hid
    ⟨Blk.new _ _ _, hat.below ((Below.refl _ _).alloc (Nat.le_refl _) _), (HB1.out.trans (hb2.mono HB1.out.size)).alloc (HB1.out.trans (hb2.mono HB1.out.size)).size _⟩
  clear hn1 hat hb2 HB1
  generalize l.take 7 = L at *
  have hfld : ∀ W, (Instr.field 29 (.agg #[.int .i64 0, .int .i64 0, .slice A0 n0 c0, .slice (some ⟨g, 0, none⟩) 1 c2]) 1).run Tryz.prog W = .ok (.slice (some ⟨g, 0, none⟩) 1 c2) W := fun W => by rfl
  go_upto_region 2 with (fail)
  generalize (w2.alloc (.cells #[.slice A1 n1 c1, .bool t, .bool f] 24)) = w3 at *
  generalize w2.heap.size = q at *
  clear k0 k1 k2
  obtain ⟨k0, k1, k2⟩ := HC.out.cells
  go_wp2_with fail
  refine (ways_any hS A1 n1 c1 L t f w3 HN1.out (by omega) hc1 HC.out.2.1).mono ?_
  rintro e w4 ⟨hb4, h4⟩
  have HC4 := Lib.hid (HC.out.go hb4)
  clear k0 k1 k2 HC
  have KC := Lib.hid (fun W (h : TlC w q A1 n1 c1 t f L W) => cutter5_any A1 n1 c1 L t f W HN1.out (by omega) hc1 h.2.1)
  rcases h4 with ⟨hcb, rfl⟩ | ⟨hcb, v, rfl, hv⟩
  · rw [hcb] at KC
    have hcl : ∀ W, Below w.heap.size w W → Calls Tryz.prog 7 #[] W fun e w' => e = .returned (.bool true) ∧ Below W.heap.size W w' := HT.out
    clear hcb hb4
    obtain ⟨k0, k1, k2⟩ := HC4.out.cells
    go_wp2_with fail
    refine (KC.out _ HC4.out).mono ?_
    rintro e w5 ⟨rfl, hb5⟩
    have HC5 := Lib.hid (HC4.out.go hb5)
    clear hb5 k0 k1 k2 HC4
    go_wp2_with fail
    refine (HT.out w5 HC5.out.2.2).mono ?_
    rintro e w6 ⟨rfl, hb6⟩
    have HC6 := Lib.hid (HC5.out.go hb6)
    clear hb6
    go_wp2_with fail
    go_ret
    exact ⟨rfl, HC6.out.2.2⟩
  · rw [hcb] at KC
    obtain ⟨hn0, hn6, hsm⟩ := cutterB_sm hcb
    rw [HN1.out] at hn0 hn6
    have HSM := Lib.hid hsm
    have HV := Lib.hid hv
    have HWL : Hid ((waysL t f L).length ≤ 8 ∧ ∀ b ∈ waysL t f L, b.length = n1) := Lib.hid (by
      rw [ways_out]
      refine ⟨?_, outS_mem HN1.out _⟩
      have := outS_length L (turnsN t) (sidesN f)
      have h2 : sidesN f * turnsN t ≤ 2 * 4 := Nat.mul_le_mul (sides_le f) (turns_le t)
      omega)
    obtain ⟨A4, c4, rfl, hp4⟩ := hv.slice (fun b hb => by rw [HWL.out.2 b hb]; omega)
    have HP4 := Lib.hid hp4
    clear hcb hb4 hsm hv hp4
    obtain ⟨k0, k1, k2⟩ := HC4.out.cells
    go_wp2_with fail
    refine (KC.out _ HC4.out).mono ?_
    rintro e w5 ⟨rfl, hb5⟩
    have HC5 := Lib.hid (HC4.out.go hb5)
    have HP5 := Lib.hid (HP4.out.below hb5)
    clear hb5 k0 k1 k2 HC4 HP4 HV
    obtain ⟨k0, k1, k2⟩ := HC5.out.cells
    have KR := Lib.hid (refWays_any A1 n1 c1 L t f w5 HN1.out (by omega) (by omega) hc1 HSM.out HC5.out.2.1)
    have HWM : Hid (∀ b ∈ waysL t f L, b.length ≤ 1000000) := Lib.hid fun b hb => by rw [HWL.out.2 b hb]; omega
    generalize waysL t f L = Z at *
    go_wp2_with fail
    refine KR.out.mono ?_
    rintro e w6 ⟨v6, rfl, hv6, hb6⟩
    obtain ⟨A6, c6, rfl, hp6⟩ := hv6.slice HWM.out
    have HC6 := Lib.hid (HC5.out.go hb6)
    have HP6 := Lib.hid hp6
    have HQ6 := Lib.hid (HP5.out.below hb6)
    clear hv6 hp6 hb6 KR k0 k1 k2 HC5 HP5
    go_wp2_with fail
    refine (HT.out w6 HC6.out.2.2).mono ?_
    rintro e w7 ⟨rfl, hb7⟩
    have HC7 := Lib.hid (HC6.out.go hb7)
    have HP7 := Lib.hid (HP6.out.below hb7)
    have HQ7 := Lib.hid (HQ6.out.below hb7)
    clear hb7 HC6 HP6 HQ6
    go_wp2_with fail
    go_loopw [7] (fun i wr => ∃ k : Nat, k ≤ Z.length ∧ i = .int .i64 k ∧ TlC w q A1 n1 c1 t f L wr ∧ Below w7.heap.size w7 wr) (fun i _ => Z.length - (intOf i).toNat)
    case atStart => exact ⟨0, Nat.zero_le _, rfl, HC7.out, Below.refl _ _⟩
    case round =>
      obtain ⟨k, hk, rfl, hc7, hbw⟩ := hrel
      have HCR := Lib.hid hc7
      have HBW := Lib.hid hbw
      have hk12 : k ≤ 8 := Nat.le_trans hk HWL.out.1
      clear hc7 hbw
      by_cases hlt : k < Z.length
      · obtain ⟨b, off, rfl, hbl, hps⟩ := HQ7.out (by intro e; rw [e] at hlt; simp at hlt)
        obtain ⟨X1, m1, d1, h1, h2, h3, h4⟩ := (hps.below HBW.out hbl) k _ (List.getElem?_eq_getElem hlt)
        obtain ⟨b2, off2, rfl, hbl2, hps2⟩ := HP7.out (by intro e; rw [e] at hlt; simp at hlt)
        obtain ⟨X2, m2, d2, g1, g2, g3, g4⟩ := (hps2.below HBW.out hbl2) k _ (List.getElem?_eq_getElem hlt)
        have hz := HWL.out.2 _ (List.getElem_mem hlt)
        have K := fun d os => Lib.hid (Calls.regrown_of (same5_any X1 X2 m1 m2 d1 d2 Z[k] Z[k] (grow (redrawn wr d) os) h2 (by omega) (h4.below (below_regrown wr d os)) g2 (by omega) (g4.below (below_regrown wr d os))))
        rw [decide_eq_true rfl] at K
        have t1 := cell_regrown h1
        have t2 := cell_regrown g1
        have hk0 : (0 : Int) ≤ (k : Int) := by omega
        have hkn : (k : Int) < (Z.length : Int) := by omega
        clear h1 g1 hps hps2
        go_wp2_with fail
        refine wp_region_quiet_below (by kernel_rfl) (by kernel_rfl) ?_
        repeat (go_big_quiet_step (first | (with_reducible exact (K _ _).out)))
        refine wpQuiet_nil ?_
        intro _ hw'
        obtain ⟨⟨dq, osq⟩, hw''⟩ := hw'
        subst hw''
        have HBE := Lib.hid (below_regrown wr dq osq)
        have HCE := Lib.hid (HCR.out.go HBE.out)
        have HBF := Lib.hid (HBW.out.trans (HBE.out.mono HBW.out.size))
        go_wp2_with fail
        go_roundw
        case rel => exact ⟨k + 1, by omega, by go_num, HCE.out, HBF.out⟩
        case measure => simp [intOf]; omega
      · go_wp2_with fail
        go_ret
        exact ⟨rfl, HCR.out.2.2⟩
end Go.Proofs.YtlekncamokiekaaGreatDoor
