/- Parts of the proof, one after the other: RefMul, RefTimes. -/
import Derived.Test.YteicddmekhdjeaaGreatDoorEm2
/- cracknelref01.Mul: products at any size. -/
namespace Go.Proofs.YteicddmekhdjeaaGreatDoor
open Go.RowKit Go.Sort

theorem OpenZ.upto {w w1 w2 : World} {g : Nat} {s t : Bool} {v u : Value} (h : OpenZ w w1 g s v t u) (hb : Below (g + 1 + 1 + 1) w1 w2) : OpenZ w w2 g s v t u := by
  obtain ⟨r, B, k, d, hr⟩ := h.R
  exact ⟨h.A.below hb (by omega), h.B.below hb (by omega), ⟨r, B, k, d, hr.below hb (by omega)⟩, h.bel.trans (hb.mono (by omega))⟩
theorem dig_cell {w : World} {A : Option Addr} {a : List Nat} (h : DigAt w A a) {k : Nat} (hk : k < a.length) : ∃ p off, A = some ⟨p, off, none⟩ ∧ w.cell? ⟨p, off + k, none⟩ = some (.int .i64 (a.getD k 0 : Int)) := by
  obtain ⟨p, off, e, -, hcl⟩ := h (by intro e; rw [e] at hk; simp at hk)
  exact ⟨p, off, e, hcl k _ (by rw [List.getD_eq_getElem?_getD, List.getElem?_eq_getElem hk]; rfl)⟩

theorem mul_top {x y : Int} {ds : List Nat} (hD : Digs ds) (hv : val10 ds = x.natAbs * y.natAbs) : trimR ds = digs (x * y).natAbs ∧ (!(decide (x < 0) == decide (y < 0)) && decide (0 < (trimR ds).length)) = decide (x * y < 0) := by
  have e : trimR ds = digs (x * y).natAbs := by rw [trim_digs hD, hv, Int.natAbs_mul]
  refine ⟨e, ?_⟩
  rw [e]
  by_cases h0 : x * y = 0
  · rw [h0]; simp [digs_zero]
  · have h1 : digs (x * y).natAbs ≠ [] := fun q => h0 (by have := digs_nil.1 q; omega)
    have h2 : decide (0 < (digs (x * y).natAbs).length) = true := decide_eq_true (List.length_pos_iff.2 h1)
    rw [h2, Bool.and_true]
    have hx0 : x ≠ 0 := fun q => h0 (by rw [q, Int.zero_mul])
    have hy0 : y ≠ 0 := fun q => h0 (by rw [q, Int.mul_zero])
    by_cases hx : x < 0 <;> by_cases hy : y < 0
    · have := Int.mul_pos_of_neg_of_neg hx hy
      simp [hx, hy]; omega
    · have := Int.mul_neg_of_neg_of_pos hx (show 0 < y by omega)
      simp [hx, hy, this]
    · have := Int.mul_neg_of_pos_of_neg (show 0 < x by omega) hy
      simp [hx, hy, this]
    · have := Int.mul_pos (show 0 < x by omega) (show 0 < y by omega)
      simp [hx, hy]; omega

set_option maxRecDepth 100000 in
set_option maxHeartbeats 4000000 in
theorem mul_any (x y : Int) (v u : Value) (w : World) (hx : ZAt w v x) (hy : ZAt w u y) (hlx : (digs x.natAbs).length ≤ 20000) (hly : (digs y.natAbs).length ≤ 20000) :
    Calls Tryz.prog 91 #[v, u] w (RetZ (x * y) w) := by
  obtain ⟨A, c, rfl, hxk, hxa⟩ := hx
  obtain ⟨A', c', rfl, hyk, hya⟩ := hy
  generalize hg : w.heap.size = g
  have LN := fun V (s : Bool) (A : Option Addr) (c : Nat) (ds : List Nat) n (hn : ds.length = n) hc hbig (h : DigAt V A ds) => Lib.hid (lean_any s A n c ds V hn hc hbig h)
  have hCa := digs_canon x.natAbs
  have hCb := digs_canon y.natAbs
  have HVA := Lib.hid (digs_val x.natAbs)
  have HVB := Lib.hid (digs_val y.natAbs)
  generalize digs x.natAbs = a at *
  generalize digs y.natAbs = b at *
  have HDA := Lib.hid hCa.1
  have HDB := Lib.hid hCb.1
  obtain ⟨n, hn⟩ : ∃ n, a.length = n := ⟨_, rfl⟩
  obtain ⟨m, hm⟩ : ∃ m, b.length = m := ⟨_, rfl⟩
  obtain ⟨s, hs⟩ : ∃ s, decide (x < 0) = s := ⟨_, rfl⟩
  obtain ⟨t, ht⟩ : ∃ t, decide (y < 0) = t := ⟨_, rfl⟩
  rw [hn, hm, hs, ht]
  rw [hn] at hlx
  rw [hm] at hly
  have O0 := OpenZ.new (w := w) (n := n) (c := c) (m := m) (c' := c') (s := s) (t := t) (A := A) (A' := A') hg
  have HST := Lib.hid (And.intro hs ht)
  have HN := Lib.hid (And.intro hn hm)
  have HX := fun V (h : OpenZ w V g s (.slice A n c) t (.slice A' m c')) => Lib.hid (hxa.kept hg h.bel)
  have HY := fun V (h : OpenZ w V g s (.slice A n c) t (.slice A' m c')) => Lib.hid (hya.kept hg h.bel)
  have hsz0 : (((w.alloc (.cells #[.bool s, .slice A n c] 30)).alloc (.cells #[.bool t, .slice A' m c'] 30)).alloc (.cells #[.bool false, .slice none 0 0] 30)).heap.size = g + 1 + 1 + 1 := by simp [hg]
  clear hxa hya hs ht hn hm hCa hCb
  go_enter Tryz.func91, Tryz.ntmps91
  go_upto_region 1 with (fail)
  generalize ((w.alloc (.cells #[.bool s, .slice A n c] 30)).alloc (.cells #[.bool t, .slice A' m c'] 30)).alloc (.cells #[.bool false, .slice none 0 0] 30) = w0 at *
  obtain ⟨c0, c1, c2, c3, -⟩ := O0.held
  have hmk : (Instr.makeSlice 28 (.int .i64 ((n : Int) + (m : Int) + 1)) (.int .i64 ((n : Int) + (m : Int) + 1))).run Tryz.prog w0 = .ok (.slice (some ⟨g + 1 + 1 + 1, 0, none⟩) (n + m + 1) (n + m + 1)) (w0.alloc (.cells (dV (List.replicate (n + m + 1) 0)).toArray 3)) := by
    have h := make_digs w0 (n + m + 1) (by omega)
    rw [hsz0] at h
    simpa using h
  have R0 : DigRow (w0.alloc (.cells (dV (List.replicate (n + m + 1) 0)).toArray 3)) (g + 1 + 1 + 1) (mulTo a b 0) := by
    have h := DigRow.new w0 (List.replicate (n + m + 1) 0)
    rw [hsz0] at h
    rw [mulTo, HN.out.1, HN.out.2]
    exact h
  have E0 := (Below.refl (g + 1 + 1 + 1) w0).alloc (by rw [hsz0]; exact Nat.le_refl _) (.cells (dV (List.replicate (n + m + 1) 0)).toArray 3)
  go_upto_region 2 with (fail)
  generalize w0.alloc (.cells (dV (List.replicate (n + m + 1) 0)).toArray 3) = w1 at *
  clear hmk
  have HR0 := Lib.hid R0
  have HE0 := Lib.hid E0
  clear R0 E0
  go_upto_block 0 with (fail)
  go_cut [6] (fun i wx => DigRow wx (g + 1 + 1 + 1) (mulTo a b n) ∧ Below (g + 1 + 1 + 1) w0 wx)
  case first =>
    go_wp2_with fail
    go_loopw [6, 7, 8, 9] (fun i _ _ _ wr => ∃ k : Nat, k ≤ n ∧ i = .int .i64 (k : Int) ∧ DigRow wr (g + 1 + 1 + 1) (mulTo a b k) ∧ Below (g + 1 + 1 + 1) w0 wr) (fun i _ _ _ _ => n - (intOf i).toNat)
    case atStart => exact ⟨0, Nat.zero_le _, rfl, HR0.out, HE0.out⟩
    case round =>
      clear HR0 HE0
      obtain ⟨k, hk, rfl, hrow, hb⟩ := hrel
      have O1 := O0.upto hb
      obtain ⟨c0, c1, c2, c3, -⟩ := O1.held
      have HROW := Lib.hid hrow
      have HB := Lib.hid hb
      clear hrow hb
      by_cases hkn : k < n
      · go_upto_block 1 with (fail)
        go_cut [7, 8, 9] (fun _ _ _ wx => DigRow wx (g + 1 + 1 + 1) (mulTo a b (k + 1)) ∧ Below (g + 1 + 1 + 1) w0 wx)
        case first =>
          have HLA := Lib.hid (mulTo_len a b k)
          have HQ := getD_lt HDA.out k
          have HOD := Lib.hid (mulTo_digs a b k)
          have HOV : Hid (val10 (mulTo a b k) < 10000 ^ (k + b.length)) := Lib.hid (by rw [mulTo_val HDA.out HDB.out k (by rw [HN.out.1]; omega)]; exact take_lt HDA.out HDB.out (by rw [HN.out.1]; omega))
          have HNX : Hid (mulTo a b (k + 1) = (mulRow (a.getD k 0) b k (mulTo a b k) (b.length + 1)).1) := Lib.hid rfl
          generalize hT : mulTo a b (k + 1) = T at *
          clear hT
          generalize mulTo a b k = o at *
          have HSTOP : Hid (∀ l, m < l → l ≤ m + 1 → (mulRow (a.getD k 0) b k o l).2 = 0) := Lib.hid fun l h1 h2 => mulRow_stop HQ HDB.out HOV.out (by rw [HLA.out, HN.out.1, HN.out.2]; omega) (by rw [HN.out.2]; exact h1) (by rw [HLA.out, HN.out.1, HN.out.2]; omega)
          have HDONE : Hid ((mulRow (a.getD k 0) b k o m).2 = 0 → T = (mulRow (a.getD k 0) b k o m).1) := Lib.hid fun h => by
            have hm := HN.out.2
            subst hm
            rw [HNX.out]
            exact mulRow_done HOD.out (by rw [HLA.out, HN.out.1]; omega) h
          have HFULL : Hid (T = (mulRow (a.getD k 0) b k o (m + 1)).1) := Lib.hid (by rw [HNX.out, HN.out.2])
          have HXK : Hid (k < a.length) := Lib.hid (by rw [HN.out.1]; exact hkn)
          have HQD : Hid (∀ V, DigAt V A a → ∃ p off, A = some ⟨p, off, none⟩ ∧ V.cell? ⟨p, off + k, none⟩ = some (.int .i64 (a.getD k 0 : Int))) := Lib.hid fun V h => dig_cell h HXK.out
          generalize a.getD k 0 = q at *
          go_wp2_with fail
          go_loopw [7, 8, 9] (fun cy j _ wi => ∃ l : Nat, l ≤ m + 1 ∧ j = .int .i64 (l : Int) ∧ cy = .int .i64 ((mulRow q b k o l).2 : Int) ∧ DigRow wi (g + 1 + 1 + 1) (mulRow q b k o l).1 ∧ Below (g + 1 + 1 + 1) w0 wi) (fun _ j _ _ => m + 1 - (intOf j).toNat)
          case atStart => exact ⟨0, Nat.zero_le _, rfl, rfl, HROW.out, HB.out⟩
          case round =>
          clear HROW HB c0 c1 c2 c3 O1
          obtain ⟨l, hl, rfl, rfl, hrow, hb⟩ := hrel
          have O1 := O0.upto hb
          obtain ⟨c0, c1, c2, c3, -⟩ := O1.held
          have HROW := Lib.hid hrow
          have HB := Lib.hid hb
          clear hrow hb
          by_cases hend : m ≤ l ∧ (mulRow q b k o l).2 = 0
          · obtain ⟨h1, h2⟩ := hend
            have HF : Hid (T = (mulRow q b k o l).1) := Lib.hid (by
              rcases (show l = m ∨ l = m + 1 by omega) with rfl | rfl
              · exact HDONE.out h2
              · exact HFULL.out)
            rw [← HF.out] at HROW
            clear HF HSTOP HDONE HFULL HNX
            generalize (mulRow q b k o l).2 = cc at *
            subst h2
            go_wp2_with fail
            go_meet
            exact ⟨HROW.out, HB.out⟩
          have hlm1 : l ≤ m := by
            apply Classical.byContradiction
            intro h
            exact hend ⟨by omega, HSTOP.out l (by omega) hl⟩
          have HXC : Hid (∃ p off, A = some ⟨p, off, none⟩ ∧ wr.cell? ⟨p, off + k, none⟩ = some (.int .i64 (q : Int))) := Lib.hid (HQD.out _ (HX _ O1).out)
          have HYC : Hid (l < m → ∃ p off, A' = some ⟨p, off, none⟩ ∧ wr.cell? ⟨p, off + l, none⟩ = some (.int .i64 (b.getD l 0 : Int))) := Lib.hid fun h => dig_cell (HY _ O1).out (by rw [HN.out.2]; exact h)
          have HD0 : Hid (¬ l < m → b.getD l 0 = 0) := Lib.hid fun h => by rw [List.getD_eq_getElem?_getD, List.getElem?_eq_none (by rw [HN.out.2]; omega)]; rfl
          have hd9 : b.getD l 0 < 10000 := getD_lt HDB.out l
          have hc9 := mulRow_carry (i := k) HQ HDB.out HOD.out l
          have he9 := getD_lt (mulRow_digs (q := q) (b := b) (i := k) HOD.out l) (k + l)
          have HS : Hid (mulRow q b k o (l + 1) = ((mulRow q b k o l).1.set (k + l) (((mulRow q b k o l).1.getD (k + l) 0 + (mulRow q b k o l).2 + q * b.getD l 0) % 10000), ((mulRow q b k o l).1.getD (k + l) 0 + (mulRow q b k o l).2 + q * b.getD l 0) / 10000)) := Lib.hid rfl
          have hcell := HROW.out.cell (k := k + l) (by rw [mulRow_len, HLA.out, HN.out.1, HN.out.2]; omega)
          have hfro := HROW.out.frozen (k + l)
          have hq := HQ
          generalize (mulRow q b k o l).1.getD (k + l) 0 = e at *
          generalize (mulRow q b k o l).2 = cc at *
          generalize (mulRow q b k o l).1 = L at *
          generalize b.getD l 0 = d at *
          have hkl : k + l < n + m + 1 := by omega
          have hkl2 : k + l ≤ 50000 := by omega
          clear HSTOP HDONE HFULL HNX HQD HOV HOD HLA HXK HQ
          by_cases hlm : l < m
          · obtain ⟨p, off, rfl, hca⟩ := HXC.out
            obtain ⟨p', off', rfl, hcb⟩ := HYC.out hlm
            obtain ⟨z, hzd⟩ : ∃ z : Nat, z = q * d := ⟨_, rfl⟩
            have hz9 : z ≤ 99980001 := by rw [hzd]; exact mul_small hq hd9
            have ez : (q : Int) * (d : Int) = (z : Int) := by rw [hzd]; exact (Int.natCast_mul ..).symm
            rw [← hzd] at HS
            clear hzd
            obtain ⟨s1, hs1⟩ : ∃ s1 : Nat, s1 = e + cc := ⟨_, rfl⟩
            obtain ⟨s, hs⟩ : ∃ s : Nat, s = s1 + z := ⟨_, rfl⟩
            obtain ⟨r, hr⟩ : ∃ r : Nat, r = s % 10000 := ⟨_, rfl⟩
            obtain ⟨z2, hz2⟩ : ∃ z2 : Nat, z2 = s / 10000 := ⟨_, rfl⟩
            have es1 : (e : Int) + (cc : Int) = (s1 : Int) := by omega
            have es : (s1 : Int) + (z : Int) = (s : Int) := by omega
            have er : (s : Int).tmod 10000 = (r : Int) := by rw [Int.tmod_eq_emod_of_nonneg (by omega)]; omega
            have eq : (s : Int).tdiv 10000 = (z2 : Int) := by rw [Int.tdiv_eq_ediv_of_nonneg (by omega)]; omega
            have HSR : Hid (mulRow q b k o (l + 1) = (L.set (k + l) r, z2)) := Lib.hid (by rw [HS.out, hr, hz2, hs, hs1])
            have hs19 : s1 ≤ 19998 := by omega
            have hs9 : s ≤ 100000000 := by omega
            have hr9 : r < 10000 := by omega
            have hz29 : z2 < 10001 := by omega
            clear HS hr hz2 hs hs1
            go_upto_region 11 with (fail)
            go_region
            go_wp2_with fail
            exact ⟨⟨l + 1, by omega, by go_num, by rw [HSR.out], by rw [HSR.out]; exact HROW.out.set _ r, by (first | exact HB.out.setCell (p := ⟨g + 1 + 1 + 1, k + l, none⟩) (Nat.le_refl _) _ | exact (HB.out.setCell (p := ⟨g + 1 + 1 + 1, k + l, none⟩) (Nat.le_refl _) _).drew)⟩, by simp [intOf]; omega⟩
          · have hd0 := HD0.out hlm
            have hc0 : 0 < cc := by omega
            have HS : Hid (mulRow q b k o (l + 1) = (L.set (k + l) ((e + cc) % 10000), (e + cc) / 10000)) := Lib.hid (by rw [HS.out, hd0, Nat.mul_zero, Nat.add_zero])
            obtain ⟨s1, hs1⟩ : ∃ s1 : Nat, s1 = e + cc := ⟨_, rfl⟩
            obtain ⟨s, hs⟩ : ∃ s : Nat, s = s1 := ⟨_, rfl⟩
            obtain ⟨r, hr⟩ : ∃ r : Nat, r = s % 10000 := ⟨_, rfl⟩
            obtain ⟨z2, hz2⟩ : ∃ z2 : Nat, z2 = s / 10000 := ⟨_, rfl⟩
            have es1 : (e : Int) + (cc : Int) = (s1 : Int) := by omega
            have es : (s1 : Int) = (s : Int) := by omega
            have er : (s : Int).tmod 10000 = (r : Int) := by rw [Int.tmod_eq_emod_of_nonneg (by omega)]; omega
            have eq : (s : Int).tdiv 10000 = (z2 : Int) := by rw [Int.tdiv_eq_ediv_of_nonneg (by omega)]; omega
            have HSR : Hid (mulRow q b k o (l + 1) = (L.set (k + l) r, z2)) := Lib.hid (by rw [HS.out, hr, hz2, hs, hs1])
            have hs19 : s1 ≤ 19998 := by omega
            have hs9 : s ≤ 100000000 := by omega
            have hr9 : r < 10000 := by omega
            have hz29 : z2 < 10001 := by omega
            clear HS hr hz2 hs hs1
            go_wp2_with fail
            exact ⟨⟨l + 1, by omega, by go_num, by rw [HSR.out], by rw [HSR.out]; exact HROW.out.set _ r, by (first | exact HB.out.setCell (p := ⟨g + 1 + 1 + 1, k + l, none⟩) (Nat.le_refl _) _ | exact (HB.out.setCell (p := ⟨g + 1 + 1 + 1, k + l, none⟩) (Nat.le_refl _) _).drew)⟩, by simp [intOf]; omega⟩
        case rest =>
        obtain ⟨hr, hb⟩ := hcut
        have HR := Lib.hid hr
        have HB2 := Lib.hid hb
        clear hr hb
        go_wp2_with fail
        exact ⟨⟨k + 1, by omega, by go_num, HR.out, HB2.out⟩, by simp [intOf]; omega⟩
      · have hke : k = n := by omega
        subst hke
        go_wp2_with fail
        go_meet
        exact ⟨HROW.out, HB.out⟩
  case rest =>
  obtain ⟨hr, hb⟩ := hcut
  have O1 := O0.upto hb
  obtain ⟨c0, c1, c2, c3, -⟩ := O1.held
  have HAT := Lib.hid hr.at
  have HLN : Hid ((mulTo a b n).length = n + m + 1) := Lib.hid (by rw [mulTo_len, HN.out.1, HN.out.2])
  have HDV : Hid (Digs (mulTo a b n) ∧ val10 (mulTo a b n) = x.natAbs * y.natAbs) := Lib.hid ⟨mulTo_digs a b n, by
    have h := mulTo_end HDA.out HDB.out
    rw [HN.out.1, HVA.out, HVB.out] at h
    exact h⟩
  have HBIG : Hid (n + m + 1 ≤ 50000) := Lib.hid (by omega)
  clear hr hb HR0 HE0
  generalize mulTo a b n = ds at *
  obtain ⟨sb, e1⟩ : ∃ sb, (s == t) = sb := ⟨_, rfl⟩
  have HE1 := Lib.hid e1
  go_wp2_with (go_at_call 67; refine ((LN _ _ _ _ ds (n + m + 1) HLN.out (Nat.le_refl _) HBIG.out ?_).out).mono ?_; (first | exact HAT.out | exact HAT.out.drew); rintro e w' ⟨A2, c2, rfl, hk2, hat2, hb'⟩; have O2 := O1.below hb'; obtain ⟨⟨_, r0⟩, ⟨_, r1⟩, f0, f1⟩ := O2.res; obtain ⟨p0, p1, pb⟩ := O2.stored (!sb && decide (0 < (trimR ds).length)) A2 (trimR ds).length c2; have HAT2 := Lib.hid hat2; have HSZ := Lib.hid O2)
  refine bodyPost_ret (v := .agg #[.bool (!sb && decide (0 < (trimR ds).length)), .slice A2 (trimR ds).length c2]) (by simp [results, Tryz.results91, go_sem, p0, p1]) rfl ?_
  obtain ⟨e2, e3⟩ := mul_top (x := x) (y := y) HDV.out.1 HDV.out.2
  rw [HST.out.1, HST.out.2, HE1.out] at e3
  unfold RetZ
  rw [← e3, ← e2]
  exact ⟨A2, c2, rfl, hk2, HSZ.out.dig HAT2.out _ _ _ _, by rw [hg]; exact pb⟩
end Go.Proofs.YteicddmekhdjeaaGreatDoor

/- cracknelref01.times: a natural times a digit. -/
namespace Go.Proofs.YteicddmekhdjeaaGreatDoor
open Go.RowKit Go.Sort

theorem retZ_nat (k : Nat) (w : World) : RetZ (k : Int) w = RetD false (digs k) w := by
  unfold RetZ
  rw [show decide ((k : Int) < 0) = false from decide_eq_false (by omega), Int.natAbs_natCast]
theorem zat_nat {w : World} {k n c : Nat} {A : Option Addr} (hn : (digs k).length = n) (hc : n ≤ c) (h : DigAt w A (digs k)) : ZAt w (.agg #[.bool false, .slice A n c]) (k : Int) :=
  ⟨A, c, by rw [show decide ((k : Int) < 0) = false from decide_eq_false (by omega), Int.natAbs_natCast, hn], by rw [Int.natAbs_natCast, hn]; exact hc, by rw [Int.natAbs_natCast]; exact h⟩
/-- The digits of a natural, as a slice. -/
def RetN (k : Nat) (w : World) (e : Ending) (w' : World) : Prop := ∃ A n c, e = .returned (.slice A n c) ∧ (digs k).length = n ∧ n ≤ c ∧ DigAt w' A (digs k) ∧ Below w.heap.size w w'
/-- A number that is no less than 0, by value. -/
def RetZN (k : Nat) (w : World) (e : Ending) (w' : World) : Prop := ∃ A n c, e = .returned (.agg #[.bool false, .slice A n c]) ∧ (digs k).length = n ∧ n ≤ c ∧ DigAt w' A (digs k) ∧ Below w.heap.size w w'
theorem retZN_of {k : Nat} {w : World} {e : Ending} {w' : World} (h : RetD false (digs k) w e w') : RetZN k w e w' := by
  obtain ⟨A, c, he, hk, hd, hb⟩ := h
  exact ⟨A, _, c, he, rfl, hk, hd, hb⟩
theorem intN_any (d : Nat) (V : World) (hd : d ≤ 9223372036854775807) : Calls Tryz.prog 19 #[.int .i64 (d : Int)] V (RetZN d V) :=
  (int_any (d : Int) V (by omega)).mono fun e w' h => retZN_of (by rw [retZ_nat] at h; exact h)
theorem mulN_any (x y : Nat) (A A' : Option Addr) (n m c c' : Nat) (V : World) (hn : (digs x).length = n) (hm : (digs y).length = m) (hc : n ≤ c) (hc' : m ≤ c') (hx : DigAt V A (digs x)) (hy : DigAt V A' (digs y)) (hl : n ≤ 20000) (hl' : m ≤ 20000) :
    Calls Tryz.prog 91 #[.agg #[.bool false, .slice A n c], .agg #[.bool false, .slice A' m c']] V (RetZN (x * y) V) :=
  (mul_any (x : Int) (y : Int) _ _ V (zat_nat hn hc hx) (zat_nat hm hc' hy) (by rw [Int.natAbs_natCast, hn]; exact hl) (by rw [Int.natAbs_natCast, hm]; exact hl')).mono fun e w' h => retZN_of (by
    rw [← Int.natCast_mul, retZ_nat] at h; exact h)
theorem leanN_any (k : Nat) (s : Bool) (A : Option Addr) (n c : Nat) (ds : List Nat) (V : World) (hv : val10 ds = k) (hD : Digs ds) (hn : ds.length = n) (hc : n ≤ c) (hl : n ≤ 50000) (hx : DigAt V A ds) :
    Calls Tryz.prog 67 #[.agg #[.bool s, .slice A n c]] V (RetD (s && decide (k ≠ 0)) (digs k) V) :=
  (lean_any s A n c ds V hn hc hl hx).mono fun e w' h => by
    rw [trim_digs hD, hv] at h
    have e2 : decide (0 < (digs k).length) = decide (k ≠ 0) := by
      apply decide_eq_decide.2
      rw [List.length_pos_iff]
      exact not_congr digs_nil
    rw [e2] at h
    exact h
theorem digs_lt {x n : Nat} (hn : (digs x).length = n) : x < 10000 ^ n := by
  have := val10_lt (digs_canon x).1
  rw [digs_val, hn] at this
  exact this
theorem digs_mul_len {x d n : Nat} (hn : (digs x).length = n) (hd : d ≤ 10000) : (digs (x * d)).length ≤ n + 1 := by
  apply digs_len
  have h1 := digs_lt hn
  rw [Nat.pow_succ]
  have h2 : x * d ≤ x * 10000 := Nat.mul_le_mul_left _ hd
  omega

set_option maxRecDepth 100000 in
set_option maxHeartbeats 4000000 in
theorem times_any (x d : Nat) (A : Option Addr) (n c : Nat) (w : World) (hn : (digs x).length = n) (hc : n ≤ c) (hl : n ≤ 19000) (hd : d ≤ 10000) (hx : DigAt w A (digs x)) :
    Calls Tryz.prog 69 #[.slice A n c, .int .i64 (d : Int)] w (RetN (x * d) w) := by
  have I := fun V => Lib.hid (intN_any d V (by omega))
  have hdl : (digs d).length ≤ 2 := digs_len (by omega)
  have M := fun V A1 m c1 (hm : (digs d).length = m) hc1 (h : DigAt V A1 (digs d)) (hb : Below w.heap.size w V) => Lib.hid (mulN_any x d A A1 n m c c1 V hn hm hc hc1 (hx.below hb) h (by omega) (by omega))
  have L := fun V A2 m c2 (hm : (digs (x * d)).length = m) hc2 (h : DigAt V A2 (digs (x * d))) => Lib.hid (leanN_any (x * d) false A2 m c2 _ V (digs_val _) (digs_canon _).1 hm hc2 (by have := digs_mul_len hn hd; omega) h)
  have HF : ∀ A n c W, (Instr.field 30 (.agg #[.bool false, .slice A n c]) 1).run Tryz.prog W = .ok (.slice A n c) W := fun A n c W => by rfl
  clear hn hl hx hdl
  generalize x * d = p at *
  go_enter Tryz.func69, Tryz.ntmps69
  go_wp2_with (first | (go_at_call 19; refine (I _).out.mono ?_; rintro e w1 ⟨A1, m1, c1, rfl, hm1, hc1, hat1, hb1⟩; have HM1 := Lib.hid hm1; have HAT1 := Lib.hid hat1; have HB1 := Lib.hid hb1; clear hm1 hat1 hb1) | (go_at_call 91; go_loud (refine ((M _ _ _ _ HM1.out hc1 HAT1.out HB1.out).out).mono ?_; rintro e w2 ⟨A2, m2, c2, rfl, hm2, hc2, hat2, hb2⟩; have HM2 := Lib.hid hm2; have HAT2 := Lib.hid hat2; have HB2 := Lib.hid (HB1.out.trans (hb2.mono HB1.out.size)); clear hm2 hat2 hb2)) | (go_at_call 67; refine ((L _ _ _ _ HM2.out hc2 HAT2.out).out).mono ?_; rintro e w3 ⟨A3, c3, rfl, hc3, hat3, hb3⟩; have HAT3 := Lib.hid hat3; have HB3 := Lib.hid (HB2.out.trans (hb3.mono HB2.out.size)); have HC3 := Lib.hid hc3; clear hat3 hb3 hc3; obtain ⟨m3, hm3⟩ : ∃ m3, (digs p).length = m3 := ⟨_, rfl⟩; rw [hm3]; have HM3 := Lib.hid hm3; clear hm3))
  go_ret
  exact ⟨A3, m3, c3, rfl, HM3.out, by rw [← HM3.out]; exact HC3.out, HAT3.out, HB3.out⟩
end Go.Proofs.YteicddmekhdjeaaGreatDoor
