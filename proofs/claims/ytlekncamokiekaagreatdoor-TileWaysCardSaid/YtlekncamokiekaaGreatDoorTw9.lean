/- Parts of the proof, one after the other: TileFew. -/
import Derived.Test.YtlekncamokiekaaGreatDoorTw7
import Derived.Test.YtlekncamokiekaaGreatDoorTw8
/- The laws' few at a bench of one cutter. -/
namespace Go.Proofs.YtlekncamokiekaaGreatDoor
open Go.RowKit Go.Sort
attribute [local go_sem ↓] run_min_mn run_max_mx

/-- What region 1 leaves. -/
def F1To (w : World) (g : Nat) (s : Value) (wx : World) : Prop := ∃ (q : Nat) (A0 : Option Addr) (n0 c0 : Nat), s = .pointer (some ⟨q, 0, none⟩) ∧ w.heap.size + 2 ≤ q ∧ Blk wx q 29 #[.int .i64 0, .int .i64 0, .slice A0 n0 c0, .slice none 0 0] ∧
  Blk wx w.heap.size 29 #[.int .i64 0, .int .i64 0, .slice none 0 0, .slice (some ⟨g, 0, none⟩) 1 1] ∧ Blk wx (w.heap.size + 1) 29 #[.int .i64 0, .int .i64 0, .slice none 0 0, .slice none 0 0] ∧ Below w.heap.size w wx
theorem f1_end {w wb wx : World} {g q : Nat} {A0 : Option Addr} {n0 c0 : Nat} (h1 : Blk wb w.heap.size 29 #[.int .i64 0, .int .i64 0, .slice none 0 0, .slice (some ⟨g, 0, none⟩) 1 1]) (h2 : Blk wb (w.heap.size + 1) 29 #[.int .i64 0, .int .i64 0, .slice none 0 0, .slice none 0 0]) (h3 : Below w.heap.size w wb)
    (hs : wb.heap.size = w.heap.size + 2) (hq : wb.heap.size ≤ q) (hk : Blk wx q 29 #[.int .i64 0, .int .i64 0, .slice A0 n0 c0, .slice none 0 0]) (hb : Below wb.heap.size wb wx) : F1To w g (.pointer (some ⟨q, 0, none⟩)) wx :=
  ⟨q, A0, n0, c0, rfl, by omega, hk, h1.same (hb.block _ h1.lt), h2.same (hb.block _ h2.lt), h3.trans (hb.mono (by omega))⟩
theorem pts_far {w : World} {A : Option Addr} {l : List Pt} (h : PtsAt w A l) {p : Addr} (hp : ∀ a, A = some a → a.block ≠ p.block) (u : Value) : PtsAt (w.setCell p u) A l := fun hne => by
  obtain ⟨b, off, e, hlt, hc⟩ := h hne
  have ho : ∀ j, (w.setCell p u).cell? ⟨b, j, none⟩ = w.cell? ⟨b, j, none⟩ := fun j => World.cell?_setCell_other _ _ _ _ (fun k => hp _ e (by rw [k]))
  refine ⟨b, off, e, by simpa using hlt, fun i q hq => ?_⟩
  rw [ho, ho]
  exact hc i q hq
theorem put4 {w5 : World} {r : Nat} {t : TypeId} {u0 u1 u2 u3 : Value} (v0 v1 v2 v3 : Value) (h : Blk w5 r t #[u0, u1, u2, u3]) :
    Blk ((((w5.setCell ⟨r, 0, none⟩ v0).setCell ⟨r, 1, none⟩ v1).setCell ⟨r, 2, none⟩ v2).setCell ⟨r, 3, none⟩ v3) r t #[v0, v1, v2, v3] ∧
    (∀ k j : Nat, k ≠ r → ((((w5.setCell ⟨r, 0, none⟩ v0).setCell ⟨r, 1, none⟩ v1).setCell ⟨r, 2, none⟩ v2).setCell ⟨r, 3, none⟩ v3).cell? ⟨k, j, none⟩ = w5.cell? ⟨k, j, none⟩) ∧
    (∀ {w : World} {B : Nat}, Below B w w5 → B ≤ r → Below B w ((((w5.setCell ⟨r, 0, none⟩ v0).setCell ⟨r, 1, none⟩ v1).setCell ⟨r, 2, none⟩ v2).setCell ⟨r, 3, none⟩ v3)) := by
  refine ⟨(((h.set_ 0 v0).set_ 1 v1).set_ 2 v2).set_ 3 v3, fun k j hk => ?_, fun hb hr => (((hb.setCell (p := ⟨r, 0, none⟩) hr v0).setCell (p := ⟨r, 1, none⟩) hr v1).setCell (p := ⟨r, 2, none⟩) hr v2).setCell (p := ⟨r, 3, none⟩) hr v3⟩
  have hx : ∀ i, (⟨r, i, none⟩ : Addr) ≠ ⟨k, j, none⟩ := fun i e => hk (congrArg Addr.block e).symm
  rw [World.cell?_setCell_other _ _ _ _ (hx 3), World.cell?_setCell_other _ _ _ _ (hx 2), World.cell?_setCell_other _ _ _ _ (hx 1), World.cell?_setCell_other _ _ _ _ (hx 0)]
theorem f1_two (w : World) (t : TypeId) (cs ds : Array Value) : Blk ((w.alloc (.cells cs t)).alloc (.cells ds t)) w.heap.size t cs ∧ Blk ((w.alloc (.cells cs t)).alloc (.cells ds t)) (w.heap.size + 1) t ds ∧ Below w.heap.size w ((w.alloc (.cells cs t)).alloc (.cells ds t)) ∧ ((w.alloc (.cells cs t)).alloc (.cells ds t)).heap.size = w.heap.size + 2 := by
  have h2 := Blk.new (w.alloc (.cells cs t)) t ds
  rw [World.size_alloc] at h2
  exact ⟨(Blk.new w t cs).alloc _, h2, ((Below.refl _ w).alloc (Nat.le_refl _) _).alloc (by rw [World.size_alloc]; omega) _, by rw [World.size_alloc, World.size_alloc]⟩
theorem blk_new2 (w : World) (o : Obj) (t : TypeId) (cs : Array Value) {q : Nat} (hq : w.heap.size + 1 = q) : Blk ((w.alloc o).alloc (.cells cs t)) q t cs := by
  have h := Blk.new (w.alloc o) t cs
  rw [World.size_alloc, hq] at h
  exact h
theorem blk_new1 (w : World) (o : Obj) (t : TypeId) (cs : Array Value) {q : Nat} (hq : w.heap.size = q) : Blk ((w.alloc (.cells cs t)).alloc o) q t cs := by
  subst hq
  exact (Blk.new w t cs).alloc o
theorem bel_two (w : World) (o o' : Obj) : Below w.heap.size w ((w.alloc o).alloc o') := ((Below.refl _ w).alloc (Nat.le_refl _) _).alloc (by rw [World.size_alloc]; omega) _
set_option maxRecDepth 100000 in
set_option maxHeartbeats 4000000 in
theorem few5_any : Few5 := by
  intro g A n c l t f w hl hc hbig hx h0 h1 h2
  have HL := Lib.hid hl
  have HX := Lib.hid hx
  have H0 := Lib.hid (And.intro h0 (And.intro h1 h2))
  clear hl hx h0 h1 h2
  go_enter Tryz.func4, Tryz.ntmps4
  go_upto_region 1 with (fail)
  have HT := Lib.hid (f1_two w 29 #[.int .i64 0, .int .i64 0, .slice none 0 0, .slice (some ⟨g, 0, none⟩) 1 1] #[.int .i64 0, .int .i64 0, .slice none 0 0, .slice none 0 0])
  go_cut [3] from 7 to 63 (fun s wx => F1To w g s wx)
  case first =>
    have hmn : mn 0 37 = 0 := rfl
    go_region
    all_goals (go_wp2_with fail; go_meet)
    · exact f1_end HT.out.1 HT.out.2.1 HT.out.2.2.1 HT.out.2.2.2 (by rw [HT.out.2.2.2]; omega) (blk_new2 _ _ _ _ (by rw [HT.out.2.2.2])) (bel_two _ _ _).drew
    · exact f1_end HT.out.1 HT.out.2.1 HT.out.2.2.1 HT.out.2.2.2 (by rw [HT.out.2.2.2]; omega) (blk_new1 _ _ _ _ HT.out.2.2.2) (bel_two _ _ _).drew
  case rest =>
    obtain ⟨q, A0, n0, c0, rfl, hq, hbk, hb1, hb2, hB⟩ := hcut
    have hg : g < w.heap.size := World.block_lt_of_cell? w _ H0.out.1
    have g0 := (hB.cell (p := ⟨g, 0, none⟩) hg).trans H0.out.1
    have g1 := (hB.cell (p := ⟨g, 1, none⟩) hg).trans H0.out.2.1
    have g2 := (hB.cell (p := ⟨g, 2, none⟩) hg).trans H0.out.2.2
    have k3 := (hb1.cell 3).trans (show _ = some (Value.slice (some ⟨g, 0, none⟩) 1 1) from rfl)
    have HXC := Lib.hid (HX.out.below hB)
    have HB := Lib.hid hB
    have HBK := Lib.hid hbk
    have HR := Lib.hid hb2
    have H1 := Lib.hid hb1
    have hqlt := hbk.lt
    clear hbk hb1 hb2 hB HX H0 HT
    have hE : (l.take 7).length = min n 7 := by rw [List.length_take, HL.out, Nat.min_comm]
    have hmn := mn_nat n 7
    generalize hm : min n 7 = m at *
    have hmc : m ≤ c := by omega
    have hm7 : m ≤ 7 := by omega
    have hmn' : mn (n : Int) 7 = (m : Int) := hmn
    have HLM := Lib.hid hE
    clear hE hm hmn HL
    go_wp2_with fail
    refine wp_loop_rounds 2 ?_
    rw [rounds_succ]
    go_upto_region 9 with (fail)
    have HBX := Lib.hid (Blk.new wc 24 #[.slice A n c, .bool t, .bool f])
    have hE1 : Below wc.heap.size wc (wc.alloc (.cells #[.slice A n c, .bool t, .bool f] 24)) := (Below.refl _ _).alloc (Nat.le_refl _) _
    have hz1 : (wc.alloc (.cells #[.slice A n c, .bool t, .bool f] 24)).heap.size = wc.heap.size + 1 := World.size_alloc _ _
    have HX1 := Lib.hid (HXC.out.below hE1)
    have HE1 := Lib.hid hE1
    clear hE1
    generalize hw1 : (wc.alloc (.cells #[.slice A n c, .bool t, .bool f] 24)) = w1 at *
    clear hw1
    have HPE : Hid (PtsOwn (w1.alloc (.cells #[] 41)) (wc.heap.size + 1) (.slice (some ⟨wc.heap.size + 1, 0, none⟩) 0 0) []) := Lib.hid (by
      have h := PtsOwn.empty w1
      rw [hz1] at h
      exact h)
    have HXE := Lib.hid ((HX1.out.take 7).below ((Below.refl _ w1).alloc (Nat.le_refl _) (.cells #[] 41)))
    have HBE := Lib.hid (HBX.out.alloc (.cells #[] 41))
    have HEE := Lib.hid (HE1.out.alloc (by omega) (.cells #[] 41))
    have hzE : (w1.alloc (.cells #[] 41)).heap.size = wc.heap.size + 2 := by rw [World.size_alloc, hz1]
    obtain ⟨b0, b1, b2⟩ : w1.cell? ⟨wc.heap.size, 0, none⟩ = some (.slice A n c) ∧ w1.cell? ⟨wc.heap.size, 1, none⟩ = some (.bool t) ∧ w1.cell? ⟨wc.heap.size, 2, none⟩ = some (.bool f) := ⟨HBX.out.cell 0, HBX.out.cell 1, HBX.out.cell 2⟩
    generalize hwc : wc.heap.size = zc at *
    go_upto_region 10 with (at_builtin; refine wpList_papp rfl (.tmp 47) (.tmp 54) rfl (zc + 1) (.slice (some ⟨zc + 1, 0, none⟩) 0 0) [] (l.take 7) A m c rfl rfl HPE.out HLM.out HXE.out (by rw [HLM.out]; simp; omega) (by rw [hzE]; omega) ?_; intro v1 w2 ho hg2 hat; rw [List.nil_append] at ho; obtain ⟨A1, c1, e1, hc1, hat1, hbs1⟩ := ho.slice; rw [HLM.out] at e1 hc1; subst e1; have HAT1 := Lib.hid hat1; have HBS1 := Lib.hid hbs1; have HG2 := Lib.hid hg2; have hbx := HBE.out.same (hg2.block zc (by rw [hzE]; omega) (fun e => by have e2 : zc = zc + 1 := Option.some.inj e; omega)); have HB2 := Lib.hid hbx; have hc0 := hbx.cell 0; have hf0 := hbx.frozen 0; clear ho hg2 hat hat1 hbs1 b0 b1 b2 hbx)
    have HB3 := Lib.hid (HB2.out.set_ 0 (.slice A1 m c1))
    have HE3 := Lib.hid ((HEE.out.grown HG2.out (by rw [hzE]; omega) (fun k hk => by have e2 : zc + 1 = k := Option.some.inj hk; omega)).setCell (p := ⟨zc, 0, none⟩) (Nat.le_refl _) (.slice A1 m c1))
    have HP3 := Lib.hid (pts_far (p := ⟨zc, 0, none⟩) HAT1.out (fun a e => by have := HBS1.out a e; show a.block ≠ zc; omega) (.slice A1 m c1))
    change Code.wp _ _ _ _ (w2.setCell ⟨zc, 0, none⟩ (.slice A1 m c1))
    clear HB2 HG2 HAT1 hc0 hf0 HBE HEE HXE HPE HX1 HE1 HBX
    generalize (w2.setCell ⟨zc, 0, none⟩ (.slice A1 m c1)) = w3 at *
    obtain ⟨b0, b1, b2⟩ : w3.cell? ⟨zc, 0, none⟩ = some (.slice A1 m c1) ∧ w3.cell? ⟨zc, 1, none⟩ = some (.bool t) ∧ w3.cell? ⟨zc, 2, none⟩ = some (.bool f) := ⟨HB3.out.cell 0, HB3.out.cell 1, HB3.out.cell 2⟩
    have hq3 : Blk w3 q 29 #[.int .i64 0, .int .i64 0, .slice A0 n0 c0, .slice none 0 0] := HBK.out.same (HE3.out.block _ hqlt)
    have q3 := (hq3.cell 3).trans (show _ = some (Value.slice none 0 0) from rfl)
    have HQ3 := Lib.hid hq3
    have hz3 : zc ≤ w3.heap.size := by have := HE3.out.size; omega
    clear hq3
    go_upto_region 7 with (at_builtin; go_loud (refine wpList_capp rfl (.tmp 58) (.tmp 60) rfl w3.heap.size (.slice A1 m c1) (.bool t) (.bool f) rfl rfl (by simp) (by simp) (by simp) rfl rfl rfl ?_; intro gq c2 w4 hgq hcs hgr; have HCS := Lib.hid hcs; have HGR := Lib.hid hgr; have hq4 := (HQ3.out.alloc _).same (hgr.block q (by rw [World.size_alloc]; omega) (fun e => by cases e)); have HQ4 := Lib.hid hq4; have k40 := hq4.cell 3; have kf4 := hq4.frozen 3; clear hcs hgr hq4 b0 b1 b2 q3))
    have hgq3 : w3.heap.size ≤ gq := by rw [World.size_alloc] at hgq; omega
    have hE4 := (HE3.out.alloc hz3 (.cells #[.slice A1 m c1, .bool t, .bool f] 24)).grown HGR.out (by rw [World.size_alloc]; omega) (fun k hk => by cases hk)
    have hW4 : Below w3.heap.size w3 w4 := ((Below.refl _ w3).alloc (Nat.le_refl _) (.cells #[.slice A1 m c1, .bool t, .bool f] 24)).grown HGR.out (by rw [World.size_alloc]; omega) (fun k hk => by cases hk)
    have hwz : w.heap.size + 1 < zc := by omega
    have HQ5 := Lib.hid (HQ4.out.set_ 3 (.slice (some ⟨gq, 0, none⟩) 1 c2))
    have h15 := (H1.out.same (hE4.block _ (by omega))).same (Below.heap_setCell w4 ⟨q, 3, none⟩ (.slice (some ⟨gq, 0, none⟩) 1 c2) _ (by show w.heap.size ≠ q; omega))
    have k5 := (h15.cell 3).trans (show _ = some (Value.slice (some ⟨g, 0, none⟩) 1 1) from rfl)
    have HR5 := Lib.hid ((HR.out.same (hE4.block _ (by omega))).same (Below.heap_setCell w4 ⟨q, 3, none⟩ (.slice (some ⟨gq, 0, none⟩) 1 c2) _ (by show w.heap.size + 1 ≠ q; omega)))
    have HB5 := Lib.hid ((HB.out.trans (hE4.mono (by omega))).setCell (p := ⟨q, 3, none⟩) (by show w.heap.size ≤ q; omega) (.slice (some ⟨gq, 0, none⟩) 1 c2))
    have HP5 := Lib.hid (pts_far (p := ⟨q, 3, none⟩) (HP3.out.below hW4) (fun a e => by have := HBS1.out a e; show a.block ≠ q; omega) (.slice (some ⟨gq, 0, none⟩) 1 c2))
    have hoc : ∀ i v, w4.cell? ⟨gq, i, none⟩ = some v → (w4.setCell ⟨q, 3, none⟩ (.slice (some ⟨gq, 0, none⟩) 1 c2)).cell? ⟨gq, i, none⟩ = some v := fun i v hv => by
      rw [World.cell?_setCell_other _ _ _ _ (fun k => by have e2 : q = gq := congrArg Addr.block k; omega)]
      exact hv
    have HC5 := Lib.hid (And.intro (hoc _ _ HCS.out.1) (And.intro (hoc _ _ HCS.out.2.1) (hoc _ _ HCS.out.2.2)))
    change Code.wp _ _ _ _ (w4.setCell ⟨q, 3, none⟩ (.slice (some ⟨gq, 0, none⟩) 1 c2))
    clear hoc hW4 hE4 HCS HGR HQ4 k40 kf4 h15 HP3 HQ3 HB3 HE3 HB HBK H1 HR HXC g0 g1 g2 k3
    generalize (w4.setCell ⟨q, 3, none⟩ (.slice (some ⟨gq, 0, none⟩) 1 c2)) = w5 at *
    go_wp2_with fail
    rw [rounds_succ]
    go_upto_region 11 with (fail)
    have HK5 : Hid (Blk w5 q 29 #[.int .i64 0, .int .i64 0, .slice A0 n0 c0, .slice (some ⟨gq, 0, none⟩) 1 c2]) := HQ5
    clear HQ5 k5
    have q0 := (HK5.out.cell 0).trans (show _ = some (Value.int .i64 0) from rfl)
    have q1 := (HK5.out.cell 1).trans (show _ = some (Value.int .i64 0) from rfl)
    have q2 := (HK5.out.cell 2).trans (show _ = some (Value.slice A0 n0 c0) from rfl)
    have q3 := (HK5.out.cell 3).trans (show _ = some (Value.slice (some ⟨gq, 0, none⟩) 1 c2) from rfl)
    have r0 := (HR5.out.cell 0).trans (show _ = some (Value.int .i64 0) from rfl)
    have r1 := (HR5.out.cell 1).trans (show _ = some (Value.int .i64 0) from rfl)
    have r2 := (HR5.out.cell 2).trans (show _ = some (Value.slice none 0 0) from rfl)
    have r3 := (HR5.out.cell 3).trans (show _ = some (Value.slice none 0 0) from rfl)
    have f0 := HR5.out.frozen 0
    have f1 := HR5.out.frozen 1
    have f2 := HR5.out.frozen 2
    have f3 := HR5.out.frozen 3
    go_wp2_with fail
    obtain ⟨hR6, hO6, hB6⟩ := put4 (.int .i64 0) (.int .i64 0) (.slice A0 n0 c0) (.slice (some ⟨gq, 0, none⟩) 1 c2) HR5.out
    have HN6 := Lib.hid (hB6 HB5.out (by omega))
    have HP6 := Lib.hid (pts_far (p := ⟨w.heap.size + 1, 3, none⟩) (pts_far (p := ⟨w.heap.size + 1, 2, none⟩) (pts_far (p := ⟨w.heap.size + 1, 1, none⟩) (pts_far (p := ⟨w.heap.size + 1, 0, none⟩) HP5.out (fun a e => by have := HBS1.out a e; show a.block ≠ w.heap.size + 1; omega) (.int .i64 0)) (fun a e => by have := HBS1.out a e; show a.block ≠ w.heap.size + 1; omega) (.int .i64 0)) (fun a e => by have := HBS1.out a e; show a.block ≠ w.heap.size + 1; omega) (.slice A0 n0 c0)) (fun a e => by have := HBS1.out a e; show a.block ≠ w.heap.size + 1; omega) (.slice (some ⟨gq, 0, none⟩) 1 c2))
    have HC6 := Lib.hid (And.intro ((hO6 gq 0 (by omega)).trans HC5.out.1) (And.intro ((hO6 gq 1 (by omega)).trans HC5.out.2.1) ((hO6 gq 2 (by omega)).trans HC5.out.2.2)))
    have p0 := (hR6.cell 0).trans (show _ = some (Value.int .i64 0) from rfl)
    have p1 := (hR6.cell 1).trans (show _ = some (Value.int .i64 0) from rfl)
    have p2 := (hR6.cell 2).trans (show _ = some (Value.slice A0 n0 c0) from rfl)
    have p3 := (hR6.cell 3).trans (show _ = some (Value.slice (some ⟨gq, 0, none⟩) 1 c2) from rfl)
    refine bodyPost_ret (v := .agg #[.int .i64 0, .int .i64 0, .slice A0 n0 c0, .slice (some ⟨gq, 0, none⟩) 1 c2]) (by simp [results, Tryz.results4, go_sem, p0, p1, p2, p3]) rfl ?_
    exact ⟨A0, n0, c0, gq, c2, A1, m, c1, rfl, HC6.out, HLM.out, hc1, HP6.out, HN6.out⟩
end Go.Proofs.YtlekncamokiekaaGreatDoor
