/- Disks: the document's own acts (written by genrefs.py). -/
import Derived.Test.YtpeinngifknpkaaGreatDoorDiskPut
namespace Go.Proofs.YtpeinngifknpkaaGreatDoor
open Go.RowKit Go.Sort

theorem below_put {B g : Nat} {w w3 w4 : World} (h : Below B w w3) (t : Turn w3 w4 g none) (hg : B ≤ g) (hB : B ≤ w.heap.size) : Below B w w4 :=
  ⟨t.os.trans h.os, t.tape.trans h.tape, t.output.trans h.output, Nat.le_trans h.size t.size, fun k hk => (t.block k (by have := h.size; omega) (by omega) (by simp)).trans (h.block k hk)⟩

def Rk.synced (r : Rk) : Rk := if r.off ≠ 0 then r else if r.falls = true then r.acted else { r.acted with safe := (r.acted.s.size : Int) }
def Rk.syncedE (r : Rk) : Int := if r.off ≠ 0 then r.off else if r.falls = true then 9 else 0
theorem Rk.synced_no {r : Rk} (h : r.off ≠ 0) : r.synced = r ∧ r.syncedE = r.off := by unfold Rk.synced Rk.syncedE; rw [if_pos h, if_pos h]; exact ⟨rfl, rfl⟩
theorem Rk.synced_falls {r : Rk} (h : r.off = 0) (hf : r.falls = true) : r.synced = r.acted ∧ r.syncedE = 9 := by
  unfold Rk.synced Rk.syncedE; rw [if_neg (show ¬ r.off ≠ 0 from fun e => e h), if_neg (show ¬ r.off ≠ 0 from fun e => e h), if_pos hf, if_pos hf]; exact ⟨rfl, rfl⟩
theorem Rk.synced_ok {r : Rk} (h : r.off = 0) (hf : r.falls = false) : r.synced = { r.acted with safe := (r.acted.s.size : Int) } ∧ r.syncedE = 0 := by
  unfold Rk.synced Rk.syncedE; rw [if_neg (show ¬ r.off ≠ 0 from fun e => e h), if_neg (show ¬ r.off ≠ 0 from fun e => e h), if_neg (show ¬ r.falls = true by rw [hf]; simp), if_neg (show ¬ r.falls = true by rw [hf]; simp)]; exact ⟨rfl, rfl⟩

theorem refSync_any (r : Rk) (w : World) (hl : r.off = 0 → 1 ≤ r.left ∧ r.left ≤ 9223372036854775807 ∨ r.armed = false) : Calls Tryz.prog 17 #[r.val] w (AggTo r.synced.val (.int .i64 r.syncedE) w) := by
  have KO := fun W => Lib.hid (refOff_any r W)
  by_cases ho : r.off = 0
  · have KA := fun W => Lib.hid (refAct_any r W (hl ho))
    clear hl
    have E1 := Lib.hid (fun hf => Rk.synced_falls ho (r := r) hf)
    have E2 := Lib.hid (fun hf => Rk.synced_ok ho (r := r) hf)
    rw [ho] at KO
    clear ho
    generalize r.synced = rs at *
    generalize r.syncedE = rx at *
    generalize r.acted = q at *
    generalize r.falls = fl at *
    obtain ⟨s, safe, down, lost, armed, left⟩ := r
    obtain ⟨s', safe', down', lost', armed', left'⟩ := q
    unfold Rk.val
    go_enter Tryz.func17, Tryz.ntmps17
    go_wp2_with fail
    refine (KO _).out.mono ?_
    rintro e w2 ⟨rfl, hb⟩
    obtain ⟨b1, b2, hbw⟩ := two_of hb
    have B1 := Lib.hid b1
    have B2 := Lib.hid b2
    have hz := hbw.size
    have hz1 : w.heap.size + 1 < w2.heap.size := (Array.getElem?_eq_some_iff.1 b2).1
    clear hb b1 b2
    obtain ⟨⟨c0, c1, c2, c3, c4, c5⟩, f1⟩ := six_of B1.out
    obtain ⟨⟨d0, d1, d2, d3, d4, d5⟩, f2⟩ := six_of B2.out
    go_wp2_with fail
    refine (KA _).out.mono ?_
    rintro e w3 ⟨rfl, hb3⟩
    have hz3 := hb3.size
    have B1 := Lib.hid ((hb3.block _ (by omega)).trans B1.out)
    have B2 := Lib.hid ((hb3.block _ (by omega)).trans B2.out)
    have hbw : Below w.heap.size w w3 := hbw.trans (hb3.mono (by omega))
    clear hb3
    clear c0 c1 c2 c3 c4 c5 f1 d0 d1 d2 d3 d4 d5 f2; obtain ⟨⟨c0, c1, c2, c3, c4, c5⟩, f1⟩ := six_of B1.out; obtain ⟨⟨d0, d1, d2, d3, d4, d5⟩, f2⟩ := six_of B2.out
    dsimp only [Rk.val]
    cases fl with
    | true =>
      obtain ⟨rfl, rfl⟩ := E1.out rfl
      go_wp2_with (first | (refine wpList_put6 rfl rfl (.tmp 1) _ rfl w.heap.size _ _ _ _ _ _ _ _ _ _ _ _ rfl rfl (by with_reducible exact B1.out) ?_; intro w4 hb4 hk4 ht4; have hbw := below_put hbw ht4 (Nat.le_refl _) (Nat.le_refl _); have B2 := Lib.hid ((hk4 _ (by omega)).trans B2.out); have B1 := Lib.hid hb4; clear c0 c1 c2 c3 c4 c5 f1 d0 d1 d2 d3 d4 d5 f2; obtain ⟨⟨c0, c1, c2, c3, c4, c5⟩, f1⟩ := six_of B1.out; obtain ⟨⟨d0, d1, d2, d3, d4, d5⟩, f2⟩ := six_of B2.out) | (refine wpList_put6 rfl rfl (.tmp 2) _ rfl (w.heap.size + 1) _ _ _ _ _ _ _ _ _ _ _ _ rfl rfl (by first | with_reducible exact B2.out | (refine Eq.trans ?_ B2.out; simp [World.setCell, World.drew, Array.getElem?_modify]; done)) ?_; intro w4 hb4 hk4 ht4; have hbw := below_put (B := w.heap.size) (w := w) (by go_grown) ht4 (by omega) (Nat.le_refl _); have B2 := Lib.hid hb4; clear d0 d1 d2 d3 d4 d5 f2; obtain ⟨⟨d0, d1, d2, d3, d4, d5⟩, f2⟩ := six_of B2.out))
      refine bodyPost_ret (v := .tuple #[.agg #[.string s', .int .i64 safe', .bool down', .bool lost', .bool armed', .int .i64 left'], .int .i64 9]) (by simp [results, Tryz.results17, go_sem, d0, d1, d2, d3, d4, d5]) rfl ⟨rfl, hbw⟩
    | false =>
      obtain ⟨rfl, rfl⟩ := E2.out rfl
      go_wp2_with (first | (refine wpList_put6 rfl rfl (.tmp 1) _ rfl w.heap.size _ _ _ _ _ _ _ _ _ _ _ _ rfl rfl (by with_reducible exact B1.out) ?_; intro w4 hb4 hk4 ht4; have hbw := below_put hbw ht4 (Nat.le_refl _) (Nat.le_refl _); have B2 := Lib.hid ((hk4 _ (by omega)).trans B2.out); have B1 := Lib.hid hb4; clear c0 c1 c2 c3 c4 c5 f1 d0 d1 d2 d3 d4 d5 f2; obtain ⟨⟨c0, c1, c2, c3, c4, c5⟩, f1⟩ := six_of B1.out; obtain ⟨⟨d0, d1, d2, d3, d4, d5⟩, f2⟩ := six_of B2.out) | (refine wpList_put6 rfl rfl (.tmp 2) _ rfl (w.heap.size + 1) _ _ _ _ _ _ _ _ _ _ _ _ rfl rfl (by first | with_reducible exact B2.out | (refine Eq.trans ?_ B2.out; simp [World.setCell, World.drew, Array.getElem?_modify]; done)) ?_; intro w4 hb4 hk4 ht4; have hbw := below_put (B := w.heap.size) (w := w) (by go_grown) ht4 (by omega) (Nat.le_refl _); have B2 := Lib.hid hb4; clear d0 d1 d2 d3 d4 d5 f2; obtain ⟨⟨d0, d1, d2, d3, d4, d5⟩, f2⟩ := six_of B2.out))
      refine bodyPost_ret (v := .tuple #[.agg #[.string s', .int .i64 (s'.size : Int), .bool down', .bool lost', .bool armed', .int .i64 left'], .int .i64 0]) (by simp [results, Tryz.results17, go_sem, d0, d1, d2, d3, d4, d5]) rfl ⟨rfl, hbw⟩
  · have E1 := Lib.hid (Rk.synced_no (r := r) ho)
    generalize hrs : r.synced = rs at *
    generalize hrx : r.syncedE = rx at *
    obtain ⟨e1, e2⟩ := E1.out
    rw [e1, e2]
    clear E1 e1 e2 hrs hrx hl
    generalize r.off = x at *
    obtain ⟨s, safe, down, lost, armed, left⟩ := r
    unfold Rk.val
    dsimp only
    go_enter Tryz.func17, Tryz.ntmps17
    go_wp2_with fail
    refine (KO _).out.mono ?_
    rintro e w2 ⟨rfl, hb⟩
    obtain ⟨b1, b2, hbw⟩ := two_of hb
    have B1 := Lib.hid b1
    have B2 := Lib.hid b2
    have hz := hbw.size
    have hz1 : w.heap.size + 1 < w2.heap.size := (Array.getElem?_eq_some_iff.1 b2).1
    clear hb b1 b2
    obtain ⟨⟨c0, c1, c2, c3, c4, c5⟩, f1⟩ := six_of B1.out
    obtain ⟨⟨d0, d1, d2, d3, d4, d5⟩, f2⟩ := six_of B2.out
    go_wp2_with (first | (refine wpList_put6 rfl rfl (.tmp 1) _ rfl w.heap.size _ _ _ _ _ _ _ _ _ _ _ _ rfl rfl (by with_reducible exact B1.out) ?_; intro w4 hb4 hk4 ht4; have hbw := below_put hbw ht4 (Nat.le_refl _) (Nat.le_refl _); have B2 := Lib.hid ((hk4 _ (by omega)).trans B2.out); have B1 := Lib.hid hb4; clear c0 c1 c2 c3 c4 c5 f1 d0 d1 d2 d3 d4 d5 f2; obtain ⟨⟨c0, c1, c2, c3, c4, c5⟩, f1⟩ := six_of B1.out; obtain ⟨⟨d0, d1, d2, d3, d4, d5⟩, f2⟩ := six_of B2.out) | (refine wpList_put6 rfl rfl (.tmp 2) _ rfl (w.heap.size + 1) _ _ _ _ _ _ _ _ _ _ _ _ rfl rfl (by first | with_reducible exact B2.out | (refine Eq.trans ?_ B2.out; simp [World.setCell, World.drew, Array.getElem?_modify]; done)) ?_; intro w4 hb4 hk4 ht4; have hbw := below_put (B := w.heap.size) (w := w) (by go_grown) ht4 (by omega) (Nat.le_refl _); have B2 := Lib.hid hb4; clear d0 d1 d2 d3 d4 d5 f2; obtain ⟨⟨d0, d1, d2, d3, d4, d5⟩, f2⟩ := six_of B2.out))
    refine bodyPost_ret (v := .tuple #[.agg #[.string s, .int .i64 safe, .bool down, .bool lost, .bool armed, .int .i64 left], .int .i64 x]) (by simp [results, Tryz.results17, go_sem, d0, d1, d2, d3, d4, d5]) rfl ⟨rfl, hbw⟩

def Rk.cut (r : Rk) (n : Int) : Rk := if r.off ≠ 0 then r else if n < 0 ∨ (r.s.size : Int) < n then r else if r.falls = true then r.acted else { r.acted with s := r.acted.s.extract 0 n.toNat, safe := if n < r.acted.safe then n else r.acted.safe }
def Rk.cutE (r : Rk) (n : Int) : Int := if r.off ≠ 0 then r.off else if n < 0 ∨ (r.s.size : Int) < n then 1 else if r.falls = true then 9 else 0
theorem Rk.cut_no {r : Rk} (n : Int) (h : r.off ≠ 0) : r.cut n = r ∧ r.cutE n = r.off := by unfold Rk.cut Rk.cutE; rw [if_pos h, if_pos h]; exact ⟨rfl, rfl⟩
theorem Rk.cut_arg {r : Rk} {n : Int} (h : r.off = 0) (hn : n < 0 ∨ (r.s.size : Int) < n) : r.cut n = r ∧ r.cutE n = 1 := by
  unfold Rk.cut Rk.cutE; rw [if_neg (show ¬ r.off ≠ 0 from fun e => e h), if_neg (show ¬ r.off ≠ 0 from fun e => e h), if_pos hn, if_pos hn]; exact ⟨rfl, rfl⟩
theorem Rk.cut_falls {r : Rk} {n : Int} (h : r.off = 0) (hn : ¬ (n < 0 ∨ (r.s.size : Int) < n)) (hf : r.falls = true) : r.cut n = r.acted ∧ r.cutE n = 9 := by
  unfold Rk.cut Rk.cutE; rw [if_neg (show ¬ r.off ≠ 0 from fun e => e h), if_neg (show ¬ r.off ≠ 0 from fun e => e h), if_neg hn, if_neg hn, if_pos hf, if_pos hf]; exact ⟨rfl, rfl⟩
theorem Rk.cut_ok {r : Rk} {n : Int} (h : r.off = 0) (hn : ¬ (n < 0 ∨ (r.s.size : Int) < n)) (hf : r.falls = false) : r.cut n = { r.acted with s := r.acted.s.extract 0 n.toNat, safe := if n < r.acted.safe then n else r.acted.safe } ∧ r.cutE n = 0 := by
  unfold Rk.cut Rk.cutE; rw [if_neg (show ¬ r.off ≠ 0 from fun e => e h), if_neg (show ¬ r.off ≠ 0 from fun e => e h), if_neg hn, if_neg hn, if_neg (show ¬ r.falls = true by rw [hf]; simp), if_neg (show ¬ r.falls = true by rw [hf]; simp)]; exact ⟨rfl, rfl⟩
theorem Rk.acted_s (r : Rk) : r.acted.s = r.s := by unfold Rk.acted; split <;> rfl

theorem refCut_any (r : Rk) (n : Int) (w : World) (hl : r.off = 0 → 1 ≤ r.left ∧ r.left ≤ 9223372036854775807 ∨ r.armed = false) : Calls Tryz.prog 19 #[r.val, .int .i64 n] w (AggTo (r.cut n).val (.int .i64 (r.cutE n)) w) := by
  have KO := fun W => Lib.hid (refOff_any r W)
  by_cases ho : r.off = 0
  · by_cases hn : n < 0 ∨ (r.s.size : Int) < n
    · have E1 := Lib.hid (Rk.cut_arg ho (r := r) hn)
      rw [ho] at KO
      clear ho hl
      generalize r.cut n = rs at *
      generalize r.cutE n = rx at *
      obtain ⟨rfl, rfl⟩ := E1.out
      clear E1
      obtain ⟨s, safe, down, lost, armed, left⟩ := rs
      unfold Rk.val
      dsimp only at hn
      have hcase : n < 0 ∨ (¬ n < 0 ∧ (s.size : Int) < n) := by omega
      clear hn
      rcases hcase with h0 | ⟨h0, h1⟩
      all_goals (
        go_enter Tryz.func19, Tryz.ntmps19
        go_wp2_with fail
        refine (KO _).out.mono ?_
        rintro e w2 ⟨rfl, hb⟩
        obtain ⟨b1, b2, hbw⟩ := two_of hb
        have B1 := Lib.hid b1
        have B2 := Lib.hid b2
        have hz := hbw.size
        have hz1 : w.heap.size + 1 < w2.heap.size := (Array.getElem?_eq_some_iff.1 b2).1
        clear hb b1 b2
        obtain ⟨⟨c0, c1, c2, c3, c4, c5⟩, f1⟩ := six_of B1.out
        obtain ⟨⟨d0, d1, d2, d3, d4, d5⟩, f2⟩ := six_of B2.out
        go_wp2_with (first | (refine wpList_put6 rfl rfl (.tmp 2) _ rfl w.heap.size _ _ _ _ _ _ _ _ _ _ _ _ rfl rfl (by with_reducible exact B1.out) ?_; intro w4 hb4 hk4 ht4; have hbw := below_put hbw ht4 (Nat.le_refl _) (Nat.le_refl _); have B2 := Lib.hid ((hk4 _ (by omega)).trans B2.out); have B1 := Lib.hid hb4; clear c0 c1 c2 c3 c4 c5 f1 d0 d1 d2 d3 d4 d5 f2; obtain ⟨⟨c0, c1, c2, c3, c4, c5⟩, f1⟩ := six_of B1.out; obtain ⟨⟨d0, d1, d2, d3, d4, d5⟩, f2⟩ := six_of B2.out) | (refine wpList_put6 rfl rfl (.tmp 4) _ rfl (w.heap.size + 1) _ _ _ _ _ _ _ _ _ _ _ _ rfl rfl (by first | with_reducible exact B2.out | (refine Eq.trans ?_ B2.out; simp [World.setCell, World.drew, Array.getElem?_modify]; done)) ?_; intro w4 hb4 hk4 ht4; have hbw := below_put (B := w.heap.size) (w := w) (by go_grown) ht4 (by omega) (Nat.le_refl _); have B2 := Lib.hid hb4; clear d0 d1 d2 d3 d4 d5 f2; obtain ⟨⟨d0, d1, d2, d3, d4, d5⟩, f2⟩ := six_of B2.out))
        refine bodyPost_ret (v := .tuple #[.agg #[.string s, .int .i64 safe, .bool down, .bool lost, .bool armed, .int .i64 left], .int .i64 1]) (by simp [results, Tryz.results19, go_sem, d0, d1, d2, d3, d4, d5]) rfl ⟨rfl, hbw⟩)
    · have KA := fun W => Lib.hid (refAct_any r W (hl ho))
      clear hl
      have E1 := Lib.hid (fun hf => Rk.cut_falls ho (r := r) hn hf)
      have E2 := Lib.hid (fun hf => Rk.cut_ok ho (r := r) hn hf)
      have hqs := r.acted_s
      rw [ho] at KO
      clear ho
      generalize r.cut n = rs at *
      generalize r.cutE n = rx at *
      generalize r.acted = q at *
      generalize r.falls = fl at *
      obtain ⟨s, safe, down, lost, armed, left⟩ := r
      obtain ⟨s', safe', down', lost', armed', left'⟩ := q
      dsimp only at hn hqs
      subst hqs
      have h0 : ¬ n < 0 := by omega
      have h1 : ¬ (s'.size : Int) < n := by omega
      have h2 : 0 ≤ n := by omega
      have h3 : n ≤ (s'.size : Int) := by omega
      clear hn
      unfold Rk.val
      go_enter Tryz.func19, Tryz.ntmps19
      go_wp2_with fail
      refine (KO _).out.mono ?_
      rintro e w2 ⟨rfl, hb⟩
      obtain ⟨b1, b2, hbw⟩ := two_of hb
      have B1 := Lib.hid b1
      have B2 := Lib.hid b2
      have hz := hbw.size
      have hz1 : w.heap.size + 1 < w2.heap.size := (Array.getElem?_eq_some_iff.1 b2).1
      clear hb b1 b2
      obtain ⟨⟨c0, c1, c2, c3, c4, c5⟩, f1⟩ := six_of B1.out
      obtain ⟨⟨d0, d1, d2, d3, d4, d5⟩, f2⟩ := six_of B2.out
      go_wp2_with fail
      refine (KA _).out.mono ?_
      rintro e w3 ⟨rfl, hb3⟩
      have hz3 := hb3.size
      have B1 := Lib.hid ((hb3.block _ (by omega)).trans B1.out)
      have B2 := Lib.hid ((hb3.block _ (by omega)).trans B2.out)
      have hbw : Below w.heap.size w w3 := hbw.trans (hb3.mono (by omega))
      clear hb3
      clear c0 c1 c2 c3 c4 c5 f1 d0 d1 d2 d3 d4 d5 f2; obtain ⟨⟨c0, c1, c2, c3, c4, c5⟩, f1⟩ := six_of B1.out; obtain ⟨⟨d0, d1, d2, d3, d4, d5⟩, f2⟩ := six_of B2.out
      dsimp only [Rk.val]
      cases fl with
      | true =>
        obtain ⟨rfl, rfl⟩ := E1.out rfl
        go_wp2_with (first | (refine wpList_put6 rfl rfl (.tmp 2) _ rfl w.heap.size _ _ _ _ _ _ _ _ _ _ _ _ rfl rfl (by with_reducible exact B1.out) ?_; intro w4 hb4 hk4 ht4; have hbw := below_put hbw ht4 (Nat.le_refl _) (Nat.le_refl _); have B2 := Lib.hid ((hk4 _ (by omega)).trans B2.out); have B1 := Lib.hid hb4; clear c0 c1 c2 c3 c4 c5 f1 d0 d1 d2 d3 d4 d5 f2; obtain ⟨⟨c0, c1, c2, c3, c4, c5⟩, f1⟩ := six_of B1.out; obtain ⟨⟨d0, d1, d2, d3, d4, d5⟩, f2⟩ := six_of B2.out) | (refine wpList_put6 rfl rfl (.tmp 4) _ rfl (w.heap.size + 1) _ _ _ _ _ _ _ _ _ _ _ _ rfl rfl (by first | with_reducible exact B2.out | (refine Eq.trans ?_ B2.out; simp [World.setCell, World.drew, Array.getElem?_modify]; done)) ?_; intro w4 hb4 hk4 ht4; have hbw := below_put (B := w.heap.size) (w := w) (by go_grown) ht4 (by omega) (Nat.le_refl _); have B2 := Lib.hid hb4; clear d0 d1 d2 d3 d4 d5 f2; obtain ⟨⟨d0, d1, d2, d3, d4, d5⟩, f2⟩ := six_of B2.out))
        refine bodyPost_ret (v := .tuple #[.agg #[.string s', .int .i64 safe', .bool down', .bool lost', .bool armed', .int .i64 left'], .int .i64 9]) (by simp [results, Tryz.results19, go_sem, d0, d1, d2, d3, d4, d5]) rfl ⟨rfl, hbw⟩
      | false =>
        rcases Int.lt_or_le n safe' with hsf | hsf
        · obtain ⟨hrs, rfl⟩ := E2.out rfl
          rw [if_pos hsf] at hrs
          subst hrs
          clear E1 E2
          go_wp2_with (first | (refine wpList_put6 rfl rfl (.tmp 2) _ rfl w.heap.size _ _ _ _ _ _ _ _ _ _ _ _ rfl rfl (by with_reducible exact B1.out) ?_; intro w4 hb4 hk4 ht4; have hbw := below_put hbw ht4 (Nat.le_refl _) (Nat.le_refl _); have B2 := Lib.hid ((hk4 _ (by omega)).trans B2.out); have B1 := Lib.hid hb4; clear c0 c1 c2 c3 c4 c5 f1 d0 d1 d2 d3 d4 d5 f2; obtain ⟨⟨c0, c1, c2, c3, c4, c5⟩, f1⟩ := six_of B1.out; obtain ⟨⟨d0, d1, d2, d3, d4, d5⟩, f2⟩ := six_of B2.out))
          all_goals go_region
          all_goals (
            go_wp2_with (first | (refine wpList_put6 rfl rfl (.tmp 2) _ rfl w.heap.size _ _ _ _ _ _ _ _ _ _ _ _ rfl rfl (by with_reducible exact B1.out) ?_; intro w4 hb4 hk4 ht4; have hbw := below_put hbw ht4 (Nat.le_refl _) (Nat.le_refl _); have B2 := Lib.hid ((hk4 _ (by omega)).trans B2.out); have B1 := Lib.hid hb4; clear c0 c1 c2 c3 c4 c5 f1 d0 d1 d2 d3 d4 d5 f2; obtain ⟨⟨c0, c1, c2, c3, c4, c5⟩, f1⟩ := six_of B1.out; obtain ⟨⟨d0, d1, d2, d3, d4, d5⟩, f2⟩ := six_of B2.out) | (refine wpList_put6 rfl rfl (.tmp 4) _ rfl (w.heap.size + 1) _ _ _ _ _ _ _ _ _ _ _ _ rfl rfl (by first | with_reducible exact B2.out | (refine Eq.trans ?_ B2.out; simp [World.setCell, World.drew, Array.getElem?_modify]; done)) ?_; intro w4 hb4 hk4 ht4; have hbw := below_put (B := w.heap.size) (w := w) (by go_grown) ht4 (by omega) (Nat.le_refl _); have B2 := Lib.hid hb4; clear d0 d1 d2 d3 d4 d5 f2; obtain ⟨⟨d0, d1, d2, d3, d4, d5⟩, f2⟩ := six_of B2.out))
            refine bodyPost_ret (v := .tuple #[.agg #[.string (s'.extract 0 n.toNat), .int .i64 n, .bool down', .bool lost', .bool armed', .int .i64 left'], .int .i64 0]) (by simp [results, Tryz.results19, go_sem, d0, d1, d2, d3, d4, d5]) rfl ⟨rfl, hbw⟩)
        · have hsg : ¬ n < safe' := by omega
          obtain ⟨hrs, rfl⟩ := E2.out rfl
          rw [if_neg hsg] at hrs
          subst hrs
          clear E1 E2
          go_wp2_with (first | (refine wpList_put6 rfl rfl (.tmp 2) _ rfl w.heap.size _ _ _ _ _ _ _ _ _ _ _ _ rfl rfl (by with_reducible exact B1.out) ?_; intro w4 hb4 hk4 ht4; have hbw := below_put hbw ht4 (Nat.le_refl _) (Nat.le_refl _); have B2 := Lib.hid ((hk4 _ (by omega)).trans B2.out); have B1 := Lib.hid hb4; clear c0 c1 c2 c3 c4 c5 f1 d0 d1 d2 d3 d4 d5 f2; obtain ⟨⟨c0, c1, c2, c3, c4, c5⟩, f1⟩ := six_of B1.out; obtain ⟨⟨d0, d1, d2, d3, d4, d5⟩, f2⟩ := six_of B2.out))
          all_goals go_region
          all_goals (
            go_wp2_with (first | (refine wpList_put6 rfl rfl (.tmp 2) _ rfl w.heap.size _ _ _ _ _ _ _ _ _ _ _ _ rfl rfl (by with_reducible exact B1.out) ?_; intro w4 hb4 hk4 ht4; have hbw := below_put hbw ht4 (Nat.le_refl _) (Nat.le_refl _); have B2 := Lib.hid ((hk4 _ (by omega)).trans B2.out); have B1 := Lib.hid hb4; clear c0 c1 c2 c3 c4 c5 f1 d0 d1 d2 d3 d4 d5 f2; obtain ⟨⟨c0, c1, c2, c3, c4, c5⟩, f1⟩ := six_of B1.out; obtain ⟨⟨d0, d1, d2, d3, d4, d5⟩, f2⟩ := six_of B2.out) | (refine wpList_put6 rfl rfl (.tmp 4) _ rfl (w.heap.size + 1) _ _ _ _ _ _ _ _ _ _ _ _ rfl rfl (by first | with_reducible exact B2.out | (refine Eq.trans ?_ B2.out; simp [World.setCell, World.drew, Array.getElem?_modify]; done)) ?_; intro w4 hb4 hk4 ht4; have hbw := below_put (B := w.heap.size) (w := w) (by go_grown) ht4 (by omega) (Nat.le_refl _); have B2 := Lib.hid hb4; clear d0 d1 d2 d3 d4 d5 f2; obtain ⟨⟨d0, d1, d2, d3, d4, d5⟩, f2⟩ := six_of B2.out))
            refine bodyPost_ret (v := .tuple #[.agg #[.string (s'.extract 0 n.toNat), .int .i64 safe', .bool down', .bool lost', .bool armed', .int .i64 left'], .int .i64 0]) (by simp [results, Tryz.results19, go_sem, d0, d1, d2, d3, d4, d5]) rfl ⟨rfl, hbw⟩)
  · have E1 := Lib.hid (Rk.cut_no (r := r) n ho)
    generalize hrs : r.cut n = rs at *
    generalize hrx : r.cutE n = rx at *
    obtain ⟨e1, e2⟩ := E1.out
    rw [e1, e2]
    clear E1 e1 e2 hrs hrx hl
    generalize r.off = x at *
    obtain ⟨s, safe, down, lost, armed, left⟩ := r
    unfold Rk.val
    dsimp only
    go_enter Tryz.func19, Tryz.ntmps19
    go_wp2_with fail
    refine (KO _).out.mono ?_
    rintro e w2 ⟨rfl, hb⟩
    obtain ⟨b1, b2, hbw⟩ := two_of hb
    have B1 := Lib.hid b1
    have B2 := Lib.hid b2
    have hz := hbw.size
    have hz1 : w.heap.size + 1 < w2.heap.size := (Array.getElem?_eq_some_iff.1 b2).1
    clear hb b1 b2
    obtain ⟨⟨c0, c1, c2, c3, c4, c5⟩, f1⟩ := six_of B1.out
    obtain ⟨⟨d0, d1, d2, d3, d4, d5⟩, f2⟩ := six_of B2.out
    go_wp2_with (first | (refine wpList_put6 rfl rfl (.tmp 2) _ rfl w.heap.size _ _ _ _ _ _ _ _ _ _ _ _ rfl rfl (by with_reducible exact B1.out) ?_; intro w4 hb4 hk4 ht4; have hbw := below_put hbw ht4 (Nat.le_refl _) (Nat.le_refl _); have B2 := Lib.hid ((hk4 _ (by omega)).trans B2.out); have B1 := Lib.hid hb4; clear c0 c1 c2 c3 c4 c5 f1 d0 d1 d2 d3 d4 d5 f2; obtain ⟨⟨c0, c1, c2, c3, c4, c5⟩, f1⟩ := six_of B1.out; obtain ⟨⟨d0, d1, d2, d3, d4, d5⟩, f2⟩ := six_of B2.out) | (refine wpList_put6 rfl rfl (.tmp 4) _ rfl (w.heap.size + 1) _ _ _ _ _ _ _ _ _ _ _ _ rfl rfl (by first | with_reducible exact B2.out | (refine Eq.trans ?_ B2.out; simp [World.setCell, World.drew, Array.getElem?_modify]; done)) ?_; intro w4 hb4 hk4 ht4; have hbw := below_put (B := w.heap.size) (w := w) (by go_grown) ht4 (by omega) (Nat.le_refl _); have B2 := Lib.hid hb4; clear d0 d1 d2 d3 d4 d5 f2; obtain ⟨⟨d0, d1, d2, d3, d4, d5⟩, f2⟩ := six_of B2.out))
    refine bodyPost_ret (v := .tuple #[.agg #[.string s, .int .i64 safe, .bool down, .bool lost, .bool armed, .int .i64 left], .int .i64 x]) (by simp [results, Tryz.results19, go_sem, d0, d1, d2, d3, d4, d5]) rfl ⟨rfl, hbw⟩

def Rk.more (r : Rk) (t : ByteArray) : Rk := { r with s := r.s ++ t }
def Rk.app (r : Rk) (t : ByteArray) : Rk := if r.off ≠ 0 then r else if 65536 < r.s.size + t.size then r else (r.more t).acted
def Rk.appE (r : Rk) (t : ByteArray) : Int := if r.off ≠ 0 then r.off else if 65536 < r.s.size + t.size then 8 else if (r.more t).falls = true then 9 else 0
theorem Rk.app_no {r : Rk} (t : ByteArray) (h : r.off ≠ 0) : r.app t = r ∧ r.appE t = r.off := by unfold Rk.app Rk.appE; rw [if_pos h, if_pos h]; exact ⟨rfl, rfl⟩
theorem Rk.app_full {r : Rk} {t : ByteArray} (h : r.off = 0) (hn : 65536 < r.s.size + t.size) : r.app t = r ∧ r.appE t = 8 := by
  unfold Rk.app Rk.appE; rw [if_neg (show ¬ r.off ≠ 0 from fun e => e h), if_neg (show ¬ r.off ≠ 0 from fun e => e h), if_pos hn, if_pos hn]; exact ⟨rfl, rfl⟩
theorem Rk.app_falls {r : Rk} {t : ByteArray} (h : r.off = 0) (hn : ¬ 65536 < r.s.size + t.size) (hf : (r.more t).falls = true) : r.app t = (r.more t).acted ∧ r.appE t = 9 := by
  unfold Rk.app Rk.appE; rw [if_neg (show ¬ r.off ≠ 0 from fun e => e h), if_neg (show ¬ r.off ≠ 0 from fun e => e h), if_neg hn, if_neg hn, if_pos hf]; exact ⟨rfl, rfl⟩
theorem Rk.app_ok {r : Rk} {t : ByteArray} (h : r.off = 0) (hn : ¬ 65536 < r.s.size + t.size) (hf : (r.more t).falls = false) : r.app t = (r.more t).acted ∧ r.appE t = 0 := by
  unfold Rk.app Rk.appE; rw [if_neg (show ¬ r.off ≠ 0 from fun e => e h), if_neg (show ¬ r.off ≠ 0 from fun e => e h), if_neg hn, if_neg hn, if_neg (show ¬ (r.more t).falls = true by rw [hf]; simp)]; exact ⟨rfl, rfl⟩

theorem refAppend_any (r : Rk) (t : ByteArray) (w : World) (hl : r.off = 0 → 1 ≤ r.left ∧ r.left ≤ 9223372036854775807 ∨ r.armed = false) (hs : r.s.size ≤ 1000000) (ht : t.size ≤ 1000000) : Calls Tryz.prog 27 #[r.val, .string t] w (AggTo (r.app t).val (.int .i64 (r.appE t)) w) := by
  have KO := fun W => Lib.hid (refOff_any r W)
  by_cases ho : r.off = 0
  · by_cases hn : 65536 < r.s.size + t.size
    · have E1 := Lib.hid (Rk.app_full ho (r := r) hn)
      rw [ho] at KO
      clear ho hl
      generalize r.app t = rs at *
      generalize r.appE t = rx at *
      obtain ⟨rfl, rfl⟩ := E1.out
      clear E1
      obtain ⟨s, safe, down, lost, armed, left⟩ := rs
      unfold Rk.val
      dsimp only at hn hs
      have hn' : (65536 : Int) < (s.size : Int) + (t.size : Int) := by omega
      go_enter Tryz.func27, Tryz.ntmps27
      go_wp2_with fail
      refine (KO _).out.mono ?_
      rintro e w2 ⟨rfl, hb⟩
      obtain ⟨b1, b2, hbw⟩ := two_of hb
      have B1 := Lib.hid b1
      have B2 := Lib.hid b2
      have hz := hbw.size
      have hz1 : w.heap.size + 1 < w2.heap.size := (Array.getElem?_eq_some_iff.1 b2).1
      clear hb b1 b2
      obtain ⟨⟨c0, c1, c2, c3, c4, c5⟩, f1⟩ := six_of B1.out
      obtain ⟨⟨d0, d1, d2, d3, d4, d5⟩, f2⟩ := six_of B2.out
      go_wp2_with (first | (refine wpList_put6 rfl rfl (.tmp 2) _ rfl w.heap.size _ _ _ _ _ _ _ _ _ _ _ _ rfl rfl (by with_reducible exact B1.out) ?_; intro w4 hb4 hk4 ht4; have hbw := below_put hbw ht4 (Nat.le_refl _) (Nat.le_refl _); have B2 := Lib.hid ((hk4 _ (by omega)).trans B2.out); have B1 := Lib.hid hb4; clear c0 c1 c2 c3 c4 c5 f1 d0 d1 d2 d3 d4 d5 f2; obtain ⟨⟨c0, c1, c2, c3, c4, c5⟩, f1⟩ := six_of B1.out; obtain ⟨⟨d0, d1, d2, d3, d4, d5⟩, f2⟩ := six_of B2.out) | (refine wpList_put6 rfl rfl (.tmp 4) _ rfl (w.heap.size + 1) _ _ _ _ _ _ _ _ _ _ _ _ rfl rfl (by first | with_reducible exact B2.out | (refine Eq.trans ?_ B2.out; simp [World.setCell, World.drew, Array.getElem?_modify]; done)) ?_; intro w4 hb4 hk4 ht4; have hbw := below_put (B := w.heap.size) (w := w) (by go_grown) ht4 (by omega) (Nat.le_refl _); have B2 := Lib.hid hb4; clear d0 d1 d2 d3 d4 d5 f2; obtain ⟨⟨d0, d1, d2, d3, d4, d5⟩, f2⟩ := six_of B2.out))
      refine bodyPost_ret (v := .tuple #[.agg #[.string s, .int .i64 safe, .bool down, .bool lost, .bool armed, .int .i64 left], .int .i64 8]) (by simp [results, Tryz.results27, go_sem, d0, d1, d2, d3, d4, d5]) rfl ⟨rfl, hbw⟩
    · have KA := fun W => Lib.hid (refAct_any (r.more t) W (hl ho))
      clear hl
      have E1 := Lib.hid (fun hf => Rk.app_falls ho (r := r) (t := t) hn hf)
      have E2 := Lib.hid (fun hf => Rk.app_ok ho (r := r) (t := t) hn hf)
      rw [ho] at KO
      clear ho
      generalize r.app t = rs at *
      generalize r.appE t = rx at *
      generalize (r.more t).acted = q at *
      generalize (r.more t).falls = fl at *
      obtain ⟨s, safe, down, lost, armed, left⟩ := r
      obtain ⟨s', safe', down', lost', armed', left'⟩ := q
      dsimp only at hn hs
      have hn' : ¬ (65536 : Int) < (s.size : Int) + (t.size : Int) := by omega
      have hsum : s.size + t.size ≤ 9223372036854775807 := by omega
      unfold Rk.val
      go_enter Tryz.func27, Tryz.ntmps27
      go_wp2_with fail
      refine (KO _).out.mono ?_
      rintro e w2 ⟨rfl, hb⟩
      obtain ⟨b1, b2, hbw⟩ := two_of hb
      have B1 := Lib.hid b1
      have B2 := Lib.hid b2
      have hz := hbw.size
      have hz1 : w.heap.size + 1 < w2.heap.size := (Array.getElem?_eq_some_iff.1 b2).1
      clear hb b1 b2
      obtain ⟨⟨c0, c1, c2, c3, c4, c5⟩, f1⟩ := six_of B1.out
      obtain ⟨⟨d0, d1, d2, d3, d4, d5⟩, f2⟩ := six_of B2.out
      go_wp2_with fail
      refine (KA _).out.mono ?_
      rintro e w3 ⟨rfl, hb3⟩
      have hz3 := hb3.size
      have B1 := Lib.hid ((hb3.block w.heap.size (by simp; omega)).trans (show (w2.setCell ⟨w.heap.size, 0, none⟩ (.string (s ++ t))).heap[w.heap.size]? = some (.cells #[.string (s ++ t), .int .i64 safe, .bool down, .bool lost, .bool armed, .int .i64 left] 26 (0, 0)) by simp [World.setCell, Array.getElem?_modify, B1.out]))
      have B2 := Lib.hid ((hb3.block (w.heap.size + 1) (by simp; omega)).trans ((Below.heap_setCell _ _ _ _ (by simp)).trans B2.out))
      have hbw : Below w.heap.size w w3 := (hbw.setCell (Nat.le_refl _) _).trans (hb3.mono (by simp; omega))
      simp only [World.size_setCell] at hz3
      clear hb3
      clear c0 c1 c2 c3 c4 c5 f1 d0 d1 d2 d3 d4 d5 f2; obtain ⟨⟨c0, c1, c2, c3, c4, c5⟩, f1⟩ := six_of B1.out; obtain ⟨⟨d0, d1, d2, d3, d4, d5⟩, f2⟩ := six_of B2.out
      dsimp only [Rk.val]
      cases fl with
      | true =>
        obtain ⟨rfl, rfl⟩ := E1.out rfl
        go_wp2_with (first | (refine wpList_put6 rfl rfl (.tmp 2) _ rfl w.heap.size _ _ _ _ _ _ _ _ _ _ _ _ rfl rfl (by with_reducible exact B1.out) ?_; intro w4 hb4 hk4 ht4; have hbw := below_put hbw ht4 (Nat.le_refl _) (Nat.le_refl _); have B2 := Lib.hid ((hk4 _ (by omega)).trans B2.out); have B1 := Lib.hid hb4; clear c0 c1 c2 c3 c4 c5 f1 d0 d1 d2 d3 d4 d5 f2; obtain ⟨⟨c0, c1, c2, c3, c4, c5⟩, f1⟩ := six_of B1.out; obtain ⟨⟨d0, d1, d2, d3, d4, d5⟩, f2⟩ := six_of B2.out) | (refine wpList_put6 rfl rfl (.tmp 4) _ rfl (w.heap.size + 1) _ _ _ _ _ _ _ _ _ _ _ _ rfl rfl (by first | with_reducible exact B2.out | (refine Eq.trans ?_ B2.out; simp [World.setCell, World.drew, Array.getElem?_modify]; done)) ?_; intro w4 hb4 hk4 ht4; have hbw := below_put (B := w.heap.size) (w := w) (by go_grown) ht4 (by omega) (Nat.le_refl _); have B2 := Lib.hid hb4; clear d0 d1 d2 d3 d4 d5 f2; obtain ⟨⟨d0, d1, d2, d3, d4, d5⟩, f2⟩ := six_of B2.out))
        refine bodyPost_ret (v := .tuple #[.agg #[.string s', .int .i64 safe', .bool down', .bool lost', .bool armed', .int .i64 left'], .int .i64 9]) (by simp [results, Tryz.results27, go_sem, d0, d1, d2, d3, d4, d5]) rfl ⟨rfl, hbw⟩
      | false =>
        obtain ⟨rfl, rfl⟩ := E2.out rfl
        go_wp2_with (first | (refine wpList_put6 rfl rfl (.tmp 2) _ rfl w.heap.size _ _ _ _ _ _ _ _ _ _ _ _ rfl rfl (by with_reducible exact B1.out) ?_; intro w4 hb4 hk4 ht4; have hbw := below_put hbw ht4 (Nat.le_refl _) (Nat.le_refl _); have B2 := Lib.hid ((hk4 _ (by omega)).trans B2.out); have B1 := Lib.hid hb4; clear c0 c1 c2 c3 c4 c5 f1 d0 d1 d2 d3 d4 d5 f2; obtain ⟨⟨c0, c1, c2, c3, c4, c5⟩, f1⟩ := six_of B1.out; obtain ⟨⟨d0, d1, d2, d3, d4, d5⟩, f2⟩ := six_of B2.out) | (refine wpList_put6 rfl rfl (.tmp 4) _ rfl (w.heap.size + 1) _ _ _ _ _ _ _ _ _ _ _ _ rfl rfl (by first | with_reducible exact B2.out | (refine Eq.trans ?_ B2.out; simp [World.setCell, World.drew, Array.getElem?_modify]; done)) ?_; intro w4 hb4 hk4 ht4; have hbw := below_put (B := w.heap.size) (w := w) (by go_grown) ht4 (by omega) (Nat.le_refl _); have B2 := Lib.hid hb4; clear d0 d1 d2 d3 d4 d5 f2; obtain ⟨⟨d0, d1, d2, d3, d4, d5⟩, f2⟩ := six_of B2.out))
        refine bodyPost_ret (v := .tuple #[.agg #[.string s', .int .i64 safe', .bool down', .bool lost', .bool armed', .int .i64 left'], .int .i64 0]) (by simp [results, Tryz.results27, go_sem, d0, d1, d2, d3, d4, d5]) rfl ⟨rfl, hbw⟩
  · have E1 := Lib.hid (Rk.app_no (r := r) t ho)
    generalize hrs : r.app t = rs at *
    generalize hrx : r.appE t = rx at *
    obtain ⟨e1, e2⟩ := E1.out
    rw [e1, e2]
    clear E1 e1 e2 hrs hrx hl
    generalize r.off = x at *
    obtain ⟨s, safe, down, lost, armed, left⟩ := r
    unfold Rk.val
    dsimp only
    go_enter Tryz.func27, Tryz.ntmps27
    go_wp2_with fail
    refine (KO _).out.mono ?_
    rintro e w2 ⟨rfl, hb⟩
    obtain ⟨b1, b2, hbw⟩ := two_of hb
    have B1 := Lib.hid b1
    have B2 := Lib.hid b2
    have hz := hbw.size
    have hz1 : w.heap.size + 1 < w2.heap.size := (Array.getElem?_eq_some_iff.1 b2).1
    clear hb b1 b2
    obtain ⟨⟨c0, c1, c2, c3, c4, c5⟩, f1⟩ := six_of B1.out
    obtain ⟨⟨d0, d1, d2, d3, d4, d5⟩, f2⟩ := six_of B2.out
    go_wp2_with (first | (refine wpList_put6 rfl rfl (.tmp 2) _ rfl w.heap.size _ _ _ _ _ _ _ _ _ _ _ _ rfl rfl (by with_reducible exact B1.out) ?_; intro w4 hb4 hk4 ht4; have hbw := below_put hbw ht4 (Nat.le_refl _) (Nat.le_refl _); have B2 := Lib.hid ((hk4 _ (by omega)).trans B2.out); have B1 := Lib.hid hb4; clear c0 c1 c2 c3 c4 c5 f1 d0 d1 d2 d3 d4 d5 f2; obtain ⟨⟨c0, c1, c2, c3, c4, c5⟩, f1⟩ := six_of B1.out; obtain ⟨⟨d0, d1, d2, d3, d4, d5⟩, f2⟩ := six_of B2.out) | (refine wpList_put6 rfl rfl (.tmp 4) _ rfl (w.heap.size + 1) _ _ _ _ _ _ _ _ _ _ _ _ rfl rfl (by first | with_reducible exact B2.out | (refine Eq.trans ?_ B2.out; simp [World.setCell, World.drew, Array.getElem?_modify]; done)) ?_; intro w4 hb4 hk4 ht4; have hbw := below_put (B := w.heap.size) (w := w) (by go_grown) ht4 (by omega) (Nat.le_refl _); have B2 := Lib.hid hb4; clear d0 d1 d2 d3 d4 d5 f2; obtain ⟨⟨d0, d1, d2, d3, d4, d5⟩, f2⟩ := six_of B2.out))
    refine bodyPost_ret (v := .tuple #[.agg #[.string s, .int .i64 safe, .bool down, .bool lost, .bool armed, .int .i64 left], .int .i64 x]) (by simp [results, Tryz.results27, go_sem, d0, d1, d2, d3, d4, d5]) rfl ⟨rfl, hbw⟩
end Go.Proofs.YtpeinngifknpkaaGreatDoor
