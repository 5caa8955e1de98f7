/- The laws' few. -/
import Derived.Test.YtddejjilfmphbaaGreatDoorMadeKit
namespace Go.Proofs.YtddejjilfmphbaaGreatDoor
open Go.RowKit Go.Sort
attribute [local go_sem ↓] run_min_mn run_max_mx

def fewN (gn : Int) : Int := if 7 < gn ∧ gn ≤ 16 then gn % 7 + 1 else gn
def fewK (n : Nat) : Nat := if 256 < n then 257 else 14
def FewTo (gn : Int) (l : List Arc) (w : World) (e : Ending) (w' : World) : Prop := ∃ v, e = .returned (.agg #[.int .i64 (fewN gn), v]) ∧ ArcsOwn w' w.heap.size v (l.take (fewK l.length)) ∧ Below w.heap.size w w'

theorem ArcsOwn.less {w : World} {b b' : Nat} {v : Value} {l : List Arc} (h : ArcsOwn w b v l) (hb : b' ≤ b) : ArcsOwn w b' v l := by
  refine ⟨h.1, ?_⟩
  rcases h.2 with h2 | ⟨g, cap, cur, e, hb2, r⟩
  · exact .inl h2
  · exact .inr ⟨g, cap, cur, e, Nat.le_trans hb hb2, r⟩
theorem ArcsOwn.far {w w' : World} {b : Nat} {v : Value} {l : List Arc} (h : ArcsOwn w b v l) {g : Nat} (hg : v.ownBlock ≠ some g) (hw : ∀ k, k ≠ g → w'.heap[k]? = w.heap[k]?) : ArcsOwn w' b v l := by
  refine ⟨h.1, ?_⟩
  rcases h.2 with h2 | ⟨g2, cap, cur, rfl, hb2, hh, r⟩
  · exact .inl h2
  · exact .inr ⟨g2, cap, cur, rfl, hb2, (hw g2 (fun e => hg (by rw [← e]; rfl))).trans hh, r⟩
theorem Blk.grown {W W' : World} {g : Nat} {t : TypeId} {cs : Array Value} {row : Option Nat} (h : Blk W g t cs) (hg : W.grownBy W' row) (hr : row ≠ some g) : Blk W' g t cs :=
  h.same (hg.block g h.lt (Ne.symm hr))
theorem own_ne {g h n c : Nat} (e : g ≠ h) : (Value.slice (some ⟨g, 0, none⟩) n c).ownBlock ≠ some h := fun k => e (Option.some.inj k)
structure FwS (w wb : World) (gn : Int) (A : Option Addr) (n c : Nat) (w' : World) : Prop where
  b : Below wb.heap.size wb w'
  k0 : w'.cell? ⟨w.heap.size, 0, none⟩ = some (.int .i64 gn)
  k1 : w'.cell? ⟨w.heap.size, 1, none⟩ = some (.slice A n c)
theorem FwS.all {w wb w' : World} {gn : Int} {A : Option Addr} {n c : Nat} (h : FwS w wb gn A n c w') : FwS w wb gn A n c w' ∧ w'.cell? ⟨w.heap.size, 0, none⟩ = some (.int .i64 gn) ∧ w'.cell? ⟨w.heap.size, 1, none⟩ = some (.slice A n c) := ⟨h, h.k0, h.k1⟩
theorem FwS.to {w wb w' w'' : World} {gn : Int} {A : Option Addr} {n c : Nat} (h : FwS w wb gn A n c w') (hlt : w.heap.size < wb.heap.size) (hb : Below wb.heap.size w' w'') : FwS w wb gn A n c w'' :=
  ⟨h.b.trans hb, (hb.cell (p := ⟨w.heap.size, _, none⟩) hlt).trans h.k0, (hb.cell (p := ⟨w.heap.size, _, none⟩) hlt).trans h.k1⟩
theorem FwS.drew_ {w wb w' : World} {gn : Int} {A : Option Addr} {n c : Nat} (h : FwS w wb gn A n c w') : FwS w wb gn A n c w'.drew := ⟨h.b.drew, h.k0, h.k1⟩
theorem FwS.al {w wb w' : World} {gn : Int} {A : Option Addr} {n c : Nat} (h : FwS w wb gn A n c w') (hlt : w.heap.size < wb.heap.size) (o : Obj) : FwS w wb gn A n c (w'.alloc o) := h.to hlt ((Below.refl _ _).alloc h.b.size _)
theorem FwS.put {w wb w' : World} {gn : Int} {A : Option Addr} {n c : Nat} (h : FwS w wb gn A n c w') (hlt : w.heap.size < wb.heap.size) {p : Addr} (hp : wb.heap.size ≤ p.block) (u : Value) : FwS w wb gn A n c (w'.setCell p u) := h.to hlt ((Below.refl _ _).setCell hp _)

/-- What the region leaves: the new box and its slice. -/
def FwTo (wb : World) (gn : Int) (l : List Arc) (s : Value) (wx : World) : Prop := ∃ (g : Nat) (v : Value), s = .pointer (some ⟨g, 0, none⟩) ∧ wb.heap.size ≤ g ∧ Blk wx g 24 #[.int .i64 gn, v] ∧ ArcsOwn wx wb.heap.size v l ∧ v.ownBlock ≠ some g ∧ Below wb.heap.size wb wx

theorem fw_endA {wb w5 : World} {gn : Int} {v : Value} {l : List Arc} (ho : ArcsOwn w5 wb.heap.size v l) (hb : Below wb.heap.size wb w5) :
    FwTo wb gn l (.pointer (some ⟨w5.heap.size, 0, none⟩)) (w5.alloc (.cells #[.int .i64 gn, v] 24)) :=
  ⟨_, v, rfl, hb.size, Blk.new _ _ _, ho.alloc _, fun e => by have := (ho.base _ e).2; omega, hb.alloc hb.size _⟩
theorem fw_endB {wb w5 : World} {gn : Int} {v a b : Value} {l : List Arc} {g : Nat} (hg : wb.heap.size ≤ g) (hx : Blk w5 g 24 #[a, b]) (ho : ArcsOwn w5 wb.heap.size v l) (hv : v.ownBlock ≠ some g) (hb : Below wb.heap.size wb w5) :
    FwTo wb gn l (.pointer (some ⟨g, 0, none⟩)) ((w5.setCell ⟨g, 0, none⟩ (.int .i64 gn)).setCell ⟨g, 1, none⟩ v) :=
  ⟨g, v, rfl, hg, (hx.set_ 0 _).set_ 1 _, ho.far hv (fun k hk => (Below.heap_setCell _ _ _ k hk).trans (Below.heap_setCell _ _ _ k hk)), hv, (hb.setCell hg _).setCell hg _⟩

set_option maxHeartbeats 4000000 in
set_option maxRecDepth 100000 in
theorem few_any (gn : Int) (A : Option Addr) (n c : Nat) (l : List Arc) (w : World) (hn : l.length = n) (hc : n ≤ c) (hbig : n ≤ 9223372036854775807) (hA : ArcsAt w A l) :
    Calls Tryz.prog 5 #[.agg #[.int .i64 gn, .slice A n c]] w (FewTo gn l w) := by
  have HN := Lib.hid hn
  have HA := Lib.hid hA
  clear hn hA
  go_enter Tryz.func5, Tryz.ntmps5
  go_upto_if 8 with (fail)
  go_cut [3] from 9 to 35 (fun s wx => s = .int .i64 (fewK n : Nat) ∧ wx = ((w.alloc (.cells #[.int .i64 gn, .slice A n c] 24)).alloc (.cells #[.int .i64 0, .slice none 0 0] 24)))
  case first =>
    by_cases h256 : 256 < n
    · go_wp2_with fail
      go_meet
      exact ⟨by unfold fewK; rw [if_pos h256]; rfl, rfl⟩
    · go_wp2_with fail
      go_meet
      exact ⟨by unfold fewK; rw [if_neg h256]; rfl, rfl⟩
  case rest =>
    obtain ⟨rfl, rfl⟩ := hcut
    have HT : Hid (Blk ((w.alloc (.cells #[.int .i64 gn, .slice A n c] 24)).alloc (.cells #[.int .i64 0, .slice none 0 0] 24)) w.heap.size 24 #[.int .i64 gn, .slice A n c] ∧ Blk ((w.alloc (.cells #[.int .i64 gn, .slice A n c] 24)).alloc (.cells #[.int .i64 0, .slice none 0 0] 24)) (w.heap.size + 1) 24 #[.int .i64 0, .slice none 0 0] ∧ Below w.heap.size w ((w.alloc (.cells #[.int .i64 gn, .slice A n c] 24)).alloc (.cells #[.int .i64 0, .slice none 0 0] 24))) := Lib.hid ⟨(Blk.new w _ _).alloc _, Blk.newAt _ _ _ (by simp), ((Below.refl _ w).alloc (Nat.le_refl _) _).alloc (by simp) _⟩
    generalize ((w.alloc (.cells #[.int .i64 gn, .slice A n c] 24)).alloc (.cells #[.int .i64 0, .slice none 0 0] 24)) = wb at *
    have HF0 : Hid (FwS w wb gn A n c wb) := Lib.hid ⟨Below.refl _ _, by rw [HT.out.1.cell]; rfl, by rw [HT.out.1.cell]; rfl⟩
    have HAB := Lib.hid (HA.out.below HT.out.2.2)
    have hmn : mn (n : Int) (fewK n : Nat) = ((min n (fewK n) : Nat) : Int) := mn_nat n (fewK n)
    have HLQ : Hid ((l.take (fewK n)).length = min n (fewK n) ∧ min n (fewK n) ≤ 257) := Lib.hid (by rw [List.length_take, HN.out]; unfold fewK; split <;> omega)
    have HTQ : Hid (l.take (fewK n) = l.take (min n (fewK n))) := Lib.hid (by rw [← HN.out, List.take_eq_take_iff]; omega)
    generalize hq : min n (fewK n) = q at *
    have hqc : q ≤ c := by omega
    have hq14 : q ≤ 257 := HLQ.out.2
    have HL2 : Hid ((l.take q).length = q) := Lib.hid (by rw [← HTQ.out]; exact HLQ.out.1)
    have hwl : w.heap.size < wb.heap.size := HT.out.1.lt
    have hif : (if ((fewK n : Nat) : Int) < (n : Int) then ((fewK n : Nat) : Int) else (n : Int)) = (q : Int) := by split <;> omega
    have hq0 : (0 : Int) ≤ (q : Int) := by omega
    have hqc2 : (q : Int) ≤ (c : Int) := by omega
    clear hq
    go_upto_region 4 with (fail)
    go_cut [4] from 9 to 35 (fun s wx => FwTo wb gn (l.take q) s wx)
    case first =>
      have E1 : Hid (ArcsOwn (wb.drew.alloc (.cells #[] 56)) wb.heap.size (.slice (some ⟨wb.heap.size, 0, none⟩) 0 0) []) := Lib.hid (ArcsOwn.empty wb.drew)
      have E2 : Hid (ArcsOwn ((wb.drew.alloc (.cells #[] 56)).alloc (.cells #[.int .i64 0, .slice none 0 0] 24)) wb.heap.size (.slice (some ⟨wb.heap.size, 0, none⟩) 0 0) []) := Lib.hid (E1.out.alloc _)
      have E3 : Hid (ArcsOwn ((wb.drew.alloc (.cells #[.int .i64 0, .slice none 0 0] 24)).alloc (.cells #[] 56)) wb.heap.size (.slice (some ⟨wb.heap.size + 1, 0, none⟩) 0 0) []) := Lib.hid (by
        have h := (ArcsOwn.empty (wb.drew.alloc (.cells #[.int .i64 0, .slice none 0 0] 24))).less (b' := wb.heap.size) (by simp)
        simpa using h)
      have B2 : Hid (Blk ((wb.alloc (.cells #[] 56)).alloc (.cells #[.int .i64 0, .slice none 0 0] 24)).drew (wb.heap.size + 1) 24 #[.int .i64 0, .slice none 0 0]) := Lib.hid (Blk.newAt _ _ _ (by simp)).drew
      have B3 : Hid (Blk ((wb.alloc (.cells #[.int .i64 0, .slice none 0 0] 24)).alloc (.cells #[] 56)).drew wb.heap.size 24 #[.int .i64 0, .slice none 0 0]) := Lib.hid ((Blk.newAt _ _ _ (by simp)).alloc _).drew
      have HP1 : Hid (FwS w wb gn A n c wb.drew) := Lib.hid HF0.out.drew_
      obtain ⟨-, k0, k1⟩ := HF0.out.all
      go_region_held3 (fun w' => FwS w wb gn A n c w' ∧ w'.cell? ⟨w.heap.size, 0, none⟩ = some (.int .i64 gn) ∧ w'.cell? ⟨w.heap.size, 1, none⟩ = some (.slice A n c))
        (first | assumption | exact HP1.out.all | (with_reducible exact hS) | exact (FwS.al (And.left (by assumption)) hwl _).all | exact (FwS.put (FwS.put (And.left (by assumption)) hwl (by simp) _) hwl (by simp) _).all)
        (first | (refine step_aapp (by rfl) _ _ (by rfl) wb.heap.size (.slice (some ⟨wb.heap.size, 0, none⟩) 0 0) [] (l.take q) A q c (by rfl) (by rfl) E1.out HL2.out ((HAB.out.below (FwS.b (And.left (by assumption)))).take _) (by rw [HL2.out]; simp; omega) (by simp <;> omega) ?_; intro v5 w5 ho5 hg5 hat5; have hs5 : FwS w wb gn A n c w5 := FwS.to (And.left (by assumption)) hwl ((Below.refl _ _).grown hg5 (by simp <;> omega) (by intro k hk; cases hk; simp <;> omega)); have hS := hs5.all; have HS5 := Lib.hid hs5; have HO5 := Lib.hid ho5; have HV5 := Lib.hid hat5; obtain ⟨A5, c5, rfl, -, -, -⟩ := ho5.slice; clear hg5 hat5 hs5) | (refine step_aapp (by rfl) _ _ (by rfl) wb.heap.size (.slice (some ⟨wb.heap.size, 0, none⟩) 0 0) [] (l.take q) A q c (by rfl) (by rfl) E2.out HL2.out ((HAB.out.below (FwS.b (And.left (by assumption)))).take _) (by rw [HL2.out]; simp; omega) (by simp <;> omega) ?_; intro v5 w5 ho5 hg5 hat5; have hs5 : FwS w wb gn A n c w5 := FwS.to (And.left (by assumption)) hwl ((Below.refl _ _).grown hg5 (by simp <;> omega) (by intro k hk; cases hk; simp <;> omega)); have hS := hs5.all; have HS5 := Lib.hid hs5; have HO5 := Lib.hid ho5; have HV5 := Lib.hid hat5; have hbx := Blk.grown B2.out hg5 (own_ne (by omega)); have HBX := Lib.hid hbx; have b0 := (hbx.cell 0).trans (show _ = some (Value.int .i64 0) from rfl); have b1 := (hbx.cell 1).trans (show _ = some (Value.slice none 0 0) from rfl); have f0 := hbx.frozen 0; have f1 := hbx.frozen 1; clear hbx; obtain ⟨A5, c5, rfl, -, -, -⟩ := ho5.slice; clear hg5 hat5 hs5) | (refine step_aapp (by rfl) _ _ (by rfl) wb.heap.size (.slice (some ⟨wb.heap.size + 1, 0, none⟩) 0 0) [] (l.take q) A q c (by rfl) (by rfl) E3.out HL2.out ((HAB.out.below (FwS.b (And.left (by assumption)))).take _) (by rw [HL2.out]; simp; omega) (by simp <;> omega) ?_; intro v5 w5 ho5 hg5 hat5; have hs5 : FwS w wb gn A n c w5 := FwS.to (And.left (by assumption)) hwl ((Below.refl _ _).grown hg5 (by simp <;> omega) (by intro k hk; cases hk; simp <;> omega)); have hS := hs5.all; have HS5 := Lib.hid hs5; have HO5 := Lib.hid ho5; have HV5 := Lib.hid hat5; have hbx := Blk.grown B3.out hg5 (own_ne (by omega)); have HBX := Lib.hid hbx; have b0 := (hbx.cell 0).trans (show _ = some (Value.int .i64 0) from rfl); have b1 := (hbx.cell 1).trans (show _ = some (Value.slice none 0 0) from rfl); have f0 := hbx.frozen 0; have f1 := hbx.frozen 1; clear hbx; obtain ⟨A5, c5, rfl, -, -, -⟩ := ho5.slice; clear hg5 hat5 hs5) | at_builtin)
      all_goals (go_wp2_with fail; go_meet)
      all_goals first
        | exact fw_endA (by simpa using HO5.out) HS5.out.b
        | exact fw_endB (by omega) HBX.out (by simpa using HO5.out) (fun e => by
            rw [show min q l.length = ([] ++ List.take q l).length by simp [List.length_take]] at e
            rcases HV5.out with h | h
            · exact own_ne (by omega) (h.symm.trans e)
            · have e2 := Option.some.inj (h.symm.trans e); (simp at e2 <;> omega)) HS5.out.b
    case rest =>
      obtain ⟨g, v, rfl, hg, hbk, ho, hne, hb⟩ := hcut
      obtain ⟨A5, c5, rfl, -, -, -⟩ := ho.slice
      have HO := Lib.hid ho
      have HB := Lib.hid hb
      have HNE := Lib.hid hne
      have HBK := Lib.hid hbk
      have HR : Hid (Blk wc (w.heap.size + 1) 24 #[.int .i64 0, .slice none 0 0]) := Lib.hid (HT.out.2.1.below hb HT.out.2.1.lt)
      have k0 := (hbk.cell 0).trans (show _ = some (Value.int .i64 gn) from rfl)
      have k1 := (hbk.cell 1).trans (show _ = some (Value.slice A5 (l.take q).length c5) from rfl)
      have f0 := hbk.frozen 0
      have f1 := hbk.frozen 1
      have r0 := (HR.out.cell 0).trans (show _ = some (Value.int .i64 0) from rfl)
      have r1 := (HR.out.cell 1).trans (show _ = some (Value.slice none 0 0) from rfl)
      have q0 := HR.out.frozen 0
      have q1 := HR.out.frozen 1
      have hgw : w.heap.size + 1 < g := by have := HT.out.2.1.lt; omega
      have hne2 : g ≠ w.heap.size + 1 := by omega
      have ELEN : Hid (min q l.length = (l.take q).length) := Lib.hid (by rw [List.length_take])
      have FIN : Hid (∀ (x : Int) (W : World), x = fewN gn → Blk W (w.heap.size + 1) 24 #[.int .i64 x, .slice A5 (min q l.length) c5] → ArcsOwn W wb.heap.size (.slice A5 (l.take q).length c5) (l.take q) → Below w.heap.size w W → FewTo gn l w (.returned (.agg #[.int .i64 x, .slice A5 (min q l.length) c5])) W) := Lib.hid fun x W hx _ h2 h3 => by
        subst hx
        refine ⟨.slice A5 (min q l.length) c5, rfl, ?_, h3⟩
        rw [ELEN.out, HN.out, HTQ.out]
        exact h2.less (by omega)
      have hbw : Below w.heap.size w wc := HT.out.2.2.trans (hb.mono (by omega))
      have HBW := Lib.hid hbw
      have hne3 : (Value.slice A5 (l.take q).length c5).ownBlock ≠ some (w.heap.size + 1) := fun e => by
        have := (ho.base _ e).1; have := HT.out.2.1.lt; omega
      have HNE3 := Lib.hid hne3
      clear ho hb hne hbk hbw hne3
      by_cases h7 : 7 < gn
      · by_cases h16 : gn ≤ 16
        · go_wp2_with fail
          have HW : Hid (Blk (((wc.setCell ⟨g, 0, none⟩ (.int .i64 (gn % 7 + 1))).setCell ⟨w.heap.size + 1, 0, none⟩ (.int .i64 (gn % 7 + 1))).setCell ⟨w.heap.size + 1, 1, none⟩ (.slice A5 (min q l.length) c5)) (w.heap.size + 1) 24 #[.int .i64 (gn % 7 + 1), .slice A5 (min q l.length) c5]) := Lib.hid (((HR.out.far hne2.symm _).set_ 0 _).set_ 1 _)
          have HO2 : Hid (ArcsOwn (((wc.setCell ⟨g, 0, none⟩ (.int .i64 (gn % 7 + 1))).setCell ⟨w.heap.size + 1, 0, none⟩ (.int .i64 (gn % 7 + 1))).setCell ⟨w.heap.size + 1, 1, none⟩ (.slice A5 (min q l.length) c5)) wb.heap.size (.slice A5 (l.take q).length c5) (l.take q)) := Lib.hid (((HO.out.far HNE.out fun k hk => Below.heap_setCell _ _ _ k hk).far HNE3.out fun k hk => Below.heap_setCell _ _ _ k hk).far HNE3.out fun k hk => Below.heap_setCell _ _ _ k hk)
          have HB2 : Hid (Below w.heap.size w (((wc.setCell ⟨g, 0, none⟩ (.int .i64 (gn % 7 + 1))).setCell ⟨w.heap.size + 1, 0, none⟩ (.int .i64 (gn % 7 + 1))).setCell ⟨w.heap.size + 1, 1, none⟩ (.slice A5 (min q l.length) c5))) := Lib.hid (((HBW.out.setCell (p := ⟨g, 0, none⟩) (by show _ ≤ g; omega) _).setCell (p := ⟨w.heap.size + 1, 0, none⟩) (Nat.le_succ _) _).setCell (p := ⟨w.heap.size + 1, 1, none⟩) (Nat.le_succ _) _)
          generalize (((wc.setCell ⟨g, 0, none⟩ (.int .i64 (gn % 7 + 1))).setCell ⟨w.heap.size + 1, 0, none⟩ (.int .i64 (gn % 7 + 1))).setCell ⟨w.heap.size + 1, 1, none⟩ (.slice A5 (min q l.length) c5)) = W at *
          have p0 := (HW.out.cell 0).trans (show _ = some (Value.int .i64 (gn % 7 + 1)) from rfl)
          have p1 := (HW.out.cell 1).trans (show _ = some (Value.slice A5 (min q l.length) c5) from rfl)
          refine bodyPost_ret (v := .agg #[.int .i64 (gn % 7 + 1), .slice A5 (min q l.length) c5]) (by simp [results, Tryz.results5, go_sem, p0, p1]) rfl ?_
          exact FIN.out _ _ (by unfold fewN; rw [if_pos ⟨h7, h16⟩]) HW.out HO2.out HB2.out
        · go_wp2_with fail
          have HW : Hid (Blk ((wc.setCell ⟨w.heap.size + 1, 0, none⟩ (.int .i64 gn)).setCell ⟨w.heap.size + 1, 1, none⟩ (.slice A5 (min q l.length) c5)) (w.heap.size + 1) 24 #[.int .i64 gn, .slice A5 (min q l.length) c5]) := Lib.hid ((HR.out.set_ 0 _).set_ 1 _)
          have HO2 : Hid (ArcsOwn ((wc.setCell ⟨w.heap.size + 1, 0, none⟩ (.int .i64 gn)).setCell ⟨w.heap.size + 1, 1, none⟩ (.slice A5 (min q l.length) c5)) wb.heap.size (.slice A5 (l.take q).length c5) (l.take q)) := Lib.hid ((HO.out.far HNE3.out fun k hk => Below.heap_setCell _ _ _ k hk).far HNE3.out fun k hk => Below.heap_setCell _ _ _ k hk)
          have HB2 : Hid (Below w.heap.size w ((wc.setCell ⟨w.heap.size + 1, 0, none⟩ (.int .i64 gn)).setCell ⟨w.heap.size + 1, 1, none⟩ (.slice A5 (min q l.length) c5))) := Lib.hid ((HBW.out.setCell (p := ⟨w.heap.size + 1, 0, none⟩) (Nat.le_succ _) _).setCell (p := ⟨w.heap.size + 1, 1, none⟩) (Nat.le_succ _) _)
          generalize ((wc.setCell ⟨w.heap.size + 1, 0, none⟩ (.int .i64 gn)).setCell ⟨w.heap.size + 1, 1, none⟩ (.slice A5 (min q l.length) c5)) = W at *
          have p0 := (HW.out.cell 0).trans (show _ = some (Value.int .i64 gn) from rfl)
          have p1 := (HW.out.cell 1).trans (show _ = some (Value.slice A5 (min q l.length) c5) from rfl)
          refine bodyPost_ret (v := .agg #[.int .i64 gn, .slice A5 (min q l.length) c5]) (by simp [results, Tryz.results5, go_sem, p0, p1]) rfl ?_
          exact FIN.out _ _ (by unfold fewN; rw [if_neg (by omega)]) HW.out HO2.out HB2.out
      · go_wp2_with fail
        have HW : Hid (Blk ((wc.setCell ⟨w.heap.size + 1, 0, none⟩ (.int .i64 gn)).setCell ⟨w.heap.size + 1, 1, none⟩ (.slice A5 (min q l.length) c5)) (w.heap.size + 1) 24 #[.int .i64 gn, .slice A5 (min q l.length) c5]) := Lib.hid ((HR.out.set_ 0 _).set_ 1 _)
        have HO2 : Hid (ArcsOwn ((wc.setCell ⟨w.heap.size + 1, 0, none⟩ (.int .i64 gn)).setCell ⟨w.heap.size + 1, 1, none⟩ (.slice A5 (min q l.length) c5)) wb.heap.size (.slice A5 (l.take q).length c5) (l.take q)) := Lib.hid ((HO.out.far HNE3.out fun k hk => Below.heap_setCell _ _ _ k hk).far HNE3.out fun k hk => Below.heap_setCell _ _ _ k hk)
        have HB2 : Hid (Below w.heap.size w ((wc.setCell ⟨w.heap.size + 1, 0, none⟩ (.int .i64 gn)).setCell ⟨w.heap.size + 1, 1, none⟩ (.slice A5 (min q l.length) c5))) := Lib.hid ((HBW.out.setCell (p := ⟨w.heap.size + 1, 0, none⟩) (Nat.le_succ _) _).setCell (p := ⟨w.heap.size + 1, 1, none⟩) (Nat.le_succ _) _)
        generalize ((wc.setCell ⟨w.heap.size + 1, 0, none⟩ (.int .i64 gn)).setCell ⟨w.heap.size + 1, 1, none⟩ (.slice A5 (min q l.length) c5)) = W at *
        have p0 := (HW.out.cell 0).trans (show _ = some (Value.int .i64 gn) from rfl)
        have p1 := (HW.out.cell 1).trans (show _ = some (Value.slice A5 (min q l.length) c5) from rfl)
        refine bodyPost_ret (v := .agg #[.int .i64 gn, .slice A5 (min q l.length) c5]) (by simp [results, Tryz.results5, go_sem, p0, p1]) rfl ?_
        exact FIN.out _ _ (by unfold fewN; rw [if_neg (by omega)]) HW.out HO2.out HB2.out
end Go.Proofs.YtddejjilfmphbaaGreatDoor
