/- Parts of the proof, one after the other: RefFigures. -/
import Derived.Test.YteicddmekhdjeaaGreatDoorEm5
import Derived.Laws.IdiomStrings
/- cracknelref01.figures: a natural in decimal. -/
namespace Go.Proofs.YteicddmekhdjeaaGreatDoor
open Go.RowKit Go.Sort Go.Lib

def ofL (xs : List UInt8) : ByteArray := ⟨xs.toArray⟩
theorem ofL_size (xs : List UInt8) : (ofL xs).size = xs.length := by simp [ofL, ByteArray.size]
theorem ofL_append (xs ys : List UInt8) : ofL xs ++ ofL ys = ofL (xs ++ ys) := by
  apply ByteArray.ext
  simp [ofL]

theorem ofL_tail (x : UInt8) (xs : List UInt8) : (ofL (x :: xs)).extract 1 (ofL (x :: xs)).size = ofL xs := by
  rw [ofL_size]
  apply ByteArray.ext
  simp [ofL]
def strSz : Value → Nat
  | .string b => b.size
  | _ => 0
theorem u8_of {a : Nat} (h : a < 10) : ((UInt8.ofNat (48 + a)).toNat : Int) = 48 + (a : Int) := by
  rw [UInt8.toNat_ofNat', Nat.mod_eq_of_lt (by omega)]
  omega
theorem cv_four (W : World) (a0 a1 a2 a3 : Nat) (i0 : a0 < 10) (i1 : a1 < 10) (i2 : a2 < 10) (i3 : a3 < 10) :
    (convert 134 9 (.slice (some ⟨W.heap.size, 0, none⟩) 4 4)).run Tryz.prog (W.alloc (.cells #[.int .u8 (48 + (a0 : Int)), .int .u8 (48 + (a1 : Int)), .int .u8 (48 + (a2 : Int)), .int .u8 (48 + (a3 : Int))] 5)) = .ok (.string (ofL [UInt8.ofNat (48 + a0), UInt8.ofNat (48 + a1), UInt8.ofNat (48 + a2), UInt8.ofNat (48 + a3)])) (W.alloc (.cells #[.int .u8 (48 + (a0 : Int)), .int .u8 (48 + (a1 : Int)), .int .u8 (48 + (a2 : Int)), .int .u8 (48 + (a3 : Int))] 5)) :=
  run_convert_bytes_back _ _ _ 5 ⟨W.heap.size, 0, none⟩ 4 [UInt8.ofNat (48 + a0), UInt8.ofNat (48 + a1), UInt8.ofNat (48 + a2), UInt8.ofNat (48 + a3)] Tryz.underlying134 Tryz.underlying5 Tryz.underlying9 fun j hj => by
    have e : ∀ j, (⟨W.heap.size, 0, none⟩ : Addr).add j = ⟨W.heap.size, j, none⟩ := fun j => by unfold Addr.add; split <;> simp_all
    rw [e, World.cell?_alloc_new]
    match j, hj with
    | 0, _ => rw [List.getElem_cons_zero, u8_of i0]; rfl
    | 1, _ => show _ = some (Value.int .u8 ((UInt8.ofNat (48 + a1)).toNat : Int)); rw [u8_of i1]; rfl
    | 2, _ => show _ = some (Value.int .u8 ((UInt8.ofNat (48 + a2)).toNat : Int)); rw [u8_of i2]; rfl
    | 3, _ => show _ = some (Value.int .u8 ((UInt8.ofNat (48 + a3)).toNat : Int)); rw [u8_of i3]; rfl

set_option maxRecDepth 100000 in
set_option maxHeartbeats 4000000 in
theorem figures_any (k : Nat) (s : Bool) (A : Option Addr) (n c : Nat) (w : World) (hn : (digs k).length = n) (hl : n ≤ 4000) (hx : DigAt w A (digs k)) :
    Calls Tryz.prog 65 #[.agg #[.bool s, .slice A n c]] w fun e w' => e = .returned (.string (ofL (decDigits k))) ∧ Below w.heap.size w w' := by
  generalize hg : w.heap.size = g
  have z0 := ZBox.new w s (.slice A n c)
  have hb0 := (Below.refl w.heap.size w).alloc (Nat.le_refl _) (.cells #[.bool s, .slice A n c] 30)
  rw [hg] at z0 hb0
  have HX := fun V (h : Below g w V) => Lib.hid (hx.kept hg h)
  have HN := Lib.hid hn
  by_cases hk : k = 0
  · subst hk
    obtain rfl : n = 0 := by rw [← hn]; rfl
    have HD : Hid (decDigits 0 = [48]) := Lib.hid (decDigits_one (by omega))
    clear hx hn HX
    go_enter Tryz.func65, Tryz.ntmps65
    go_upto_region 1 with (fail)
    generalize w.alloc (.cells #[.bool s, .slice A 0 c] 30) = w0 at *
    obtain ⟨c0, c1⟩ := z0.cells
    go_wp2_with fail
    go_ret
    exact ⟨by rw [HD.out]; rfl, hb0⟩
  have hn0 : 0 < n := by rw [← hn]; exact List.length_pos_iff.2 fun e => hk (digs_nil.1 e)
  have hnn : ((n : Int) == 0) = false := by rw [beq_eq_false_iff_ne]; omega
  have HDG := Lib.hid (digs_canon k).1
  have HV := Lib.hid (digs_val k)
  generalize digs k = l at *
  have HK := Lib.hid hk
  clear hx hn hk
  go_enter Tryz.func65, Tryz.ntmps65
  go_upto_region 1 with (fail)
  generalize w.alloc (.cells #[.bool s, .slice A n c] 30) = w0 at *
  obtain ⟨c0, c1⟩ := z0.cells
  have HZ0 := Lib.hid z0
  have HB0 := Lib.hid hb0
  have hs0 := z0.lt
  clear z0 hb0
  go_upto_block 0 with (fail)
  go_cut [3] (fun v wx => v = .string (ofL (padR (4 * n) k)) ∧ Below g w wx)
  case first =>
    go_wp2_with fail
    go_loopw [3, 4, 5, 6] (fun sv iv _ _ wr => ∃ j : Nat, j ≤ n ∧ iv = .int .i64 ((j : Int) - 1) ∧ sv = .string (ofL (padR (4 * (n - j)) (val10 (l.drop j)))) ∧ Below (g + 1) w0 wr) (fun _ iv _ _ _ => ((intOf iv) + 1).toNat)
    case atStart => exact ⟨n, Nat.le_refl _, rfl, by rw [List.drop_of_length_le (by rw [HN.out]; exact Nat.le_refl _), Nat.sub_self]; rfl, Below.refl _ _⟩
    case round =>
    clear c0 c1
    obtain ⟨j, hj, hiv, rfl, hb⟩ := hrel
    have HB1 := Lib.hid (HB0.out.trans (hb.mono (by omega)))
    have z1 := HZ0.out.below hb (by omega)
    have HB2 := Lib.hid hb
    obtain ⟨c0, c1⟩ := z1.cells
    clear hb z1
    cases j with
    | zero =>
      subst hiv
      have HE : Hid (ofL (padR (4 * (n - 0)) (val10 (l.drop 0))) = ofL (padR (4 * n) k)) := Lib.hid (by rw [List.drop_zero, HV.out, Nat.sub_zero])
      rw [HE.out]
      go_wp2_with fail
      go_meet
      exact ⟨rfl, HB1.out⟩
    | succ j =>
      rw [show (((j + 1 : Nat)) : Int) - 1 = (j : Int) by omega] at hiv
      subst hiv
      have hjl : j < l.length := by rw [HN.out]; omega
      obtain ⟨p, off, hA, hca⟩ := dig_cell ((HX wr HB1.out).out) hjl
      have hd := getD_lt HDG.out j
      have HST : Hid (padR (4 * (n - (j + 1))) (val10 (l.drop (j + 1))) ++ four (l.getD j 0) = padR (4 * (n - j)) (val10 (l.drop j))) := Lib.hid (by
        rw [List.drop_eq_getElem_cons hjl, show l[j] = l.getD j 0 by rw [List.getD_eq_getElem?_getD, List.getElem?_eq_getElem hjl]; rfl]
        show _ = padR (4 * (n - j)) (l.getD j 0 + 10000 * val10 (l.drop (j + 1)))
        rw [show 4 * (n - j) = 4 * (n - (j + 1)) + 4 by omega, padR_four _ _ _ hd])
      generalize l.getD j 0 = d at *
      have hTl := padR_len (4 * (n - (j + 1))) (val10 (l.drop (j + 1)))
      generalize padR (4 * (n - (j + 1))) (val10 (l.drop (j + 1))) = T at *
      subst hA
      obtain ⟨a0, h0⟩ : ∃ a0 : Nat, a0 = d / 1000 := ⟨_, rfl⟩
      obtain ⟨b1, hb1⟩ : ∃ a0 : Nat, a0 = d / 100 := ⟨_, rfl⟩
      obtain ⟨a1, h1⟩ : ∃ a0 : Nat, a0 = b1 % 10 := ⟨_, rfl⟩
      obtain ⟨b2, hb2⟩ : ∃ a0 : Nat, a0 = d / 10 := ⟨_, rfl⟩
      obtain ⟨a2, h2⟩ : ∃ a0 : Nat, a0 = b2 % 10 := ⟨_, rfl⟩
      obtain ⟨a3, h3⟩ : ∃ a0 : Nat, a0 = d % 10 := ⟨_, rfl⟩
      have e0 : (d : Int).tdiv 1000 = (a0 : Int) := by rw [Int.tdiv_eq_ediv_of_nonneg (by omega)]; omega
      have e1 : (d : Int).tdiv 100 = (b1 : Int) := by rw [Int.tdiv_eq_ediv_of_nonneg (by omega)]; omega
      have e2 : (b1 : Int).tmod 10 = (a1 : Int) := by rw [Int.tmod_eq_emod_of_nonneg (by omega)]; omega
      have e3 : (d : Int).tdiv 10 = (b2 : Int) := by rw [Int.tdiv_eq_ediv_of_nonneg (by omega)]; omega
      have e4 : (b2 : Int).tmod 10 = (a2 : Int) := by rw [Int.tmod_eq_emod_of_nonneg (by omega)]; omega
      have e5 : (d : Int).tmod 10 = (a3 : Int) := by rw [Int.tmod_eq_emod_of_nonneg (by omega)]; omega
      have i0 : a0 < 10 := by omega
      have i1 : a1 < 10 := by omega
      have i2 : a2 < 10 := by omega
      have i3 : a3 < 10 := by omega
      have HF : Hid (four d = [UInt8.ofNat (48 + a0), UInt8.ofNat (48 + a1), UInt8.ofNat (48 + a2), UInt8.ofNat (48 + a3)]) := Lib.hid (by unfold four; rw [h0, h1, hb1, h2, hb2, h3])
      have hjn : j ≤ 4000 := by omega
      have jb1 : b1 < 100 := by omega
      have jb2 : b2 < 1000 := by omega
      clear h0 hb1 h1 hb2 h2 h3
      have hcv := cv_four wr a0 a1 a2 a3 i0 i1 i2 i3
      rw [HF.out] at HST
      have hFl : [UInt8.ofNat (48 + a0), UInt8.ofNat (48 + a1), UInt8.ofNat (48 + a2), UInt8.ofNat (48 + a3)].length = 4 := rfl
      generalize [UInt8.ofNat (48 + a0), UInt8.ofNat (48 + a1), UInt8.ofNat (48 + a2), UInt8.ofNat (48 + a3)] = F at *
      have hov : ¬ 9223372036854775807 < (ofL T).size + (ofL F).size := by rw [ofL_size, ofL_size]; omega
      have hgw : g + 1 ≤ wr.heap.size := by have := HB2.out.size; omega
      go_wp2_with fail
      exact ⟨⟨j, by omega, rfl, by rw [ofL_append, HST.out], HB2.out.alloc hgw _⟩, by simp [intOf] <;> omega⟩
  case rest =>
    obtain ⟨rfl, hb⟩ := hcut
    have HB1 := Lib.hid hb
    clear hb HZ0 HB0 c0 c1 HX
    have hkl : k < 10 ^ (4 * n) := by
      have h := val10_lt HDG.out
      rw [HV.out, HN.out] at h
      rw [Nat.pow_mul]
      exact h
    have hk0 : 0 < k := by have := HK.out; omega
    obtain ⟨a, q, hq, ha⟩ := dec_head k (Nat.le_refl k) hk0
    have HD : Hid (decDigits k = a :: q) := Lib.hid hq
    have HSP := Lib.hid (padR_strip hk0 hkl)
    have hdl := dec_len_le hk0 hkl
    have HDL := Lib.hid hdl
    rw [HSP.out]
    obtain ⟨t0, ht0⟩ : ∃ t0, t0 = 4 * n - (decDigits k).length := ⟨_, rfl⟩
    rw [← ht0]
    have ht16 : t0 ≤ 16000 := by omega
    rw [hq] at hdl
    rw [HD.out]
    clear ht0 hkl hq HSP
    go_upto_block 2 with (fail)
    go_cut [3] (fun v wx => v = .string (ofL (a :: q)) ∧ Below g w wx)
    case first =>
      go_wp2_with fail
      go_loopw [3] (fun sv wr => ∃ t : Nat, t ≤ 16000 ∧ sv = .string (ofL (List.replicate t 48 ++ (a :: q))) ∧ Below g w wr) (fun sv _ => strSz sv)
      case atStart => exact ⟨t0, ht16, rfl, HB1.out⟩
      case round =>
      obtain ⟨t, ht, rfl, hb⟩ := hrel
      have HB2 := Lib.hid hb
      clear hb
      cases t with
      | zero =>
        rw [show List.replicate 0 (48 : UInt8) ++ a :: q = a :: q from rfl]
        have hsz : 0 < (ofL (a :: q)).size := by rw [ofL_size]; simp
        have hne : (((((ofL (a :: q))[0]'hsz).toNat : Nat) : Int) == 48) = false := by
          rw [beq_eq_false_iff_ne]
          intro e
          have e2 : a.toNat = 48 := by
            have : (((ofL (a :: q))[0]'hsz).toNat : Int) = (a.toNat : Int) := rfl
            omega
          exact ha (UInt8.toNat_inj.1 e2)
        go_wp2_with fail
        go_meet
        exact ⟨rfl, HB2.out⟩
      | succ t =>
        rw [show List.replicate (t + 1) (48 : UInt8) ++ a :: q = 48 :: (List.replicate t 48 ++ a :: q) from rfl]
        have hX : (List.replicate t (48 : UInt8) ++ a :: q).length ≤ 100000 := by simp at hdl ⊢; omega
        generalize hXe : List.replicate t (48 : UInt8) ++ a :: q = X at *
        have HXE := Lib.hid hXe
        clear hXe
        have hsz : 0 < (ofL (48 :: X)).size := by rw [ofL_size]; simp
        have hsz1 : 1 ≤ (ofL (48 :: X)).size := by rw [ofL_size]; simp
        have hsz2 : (ofL (48 :: X)).size ≤ 100001 := by rw [ofL_size]; simp; omega
        have heq : (((((ofL (48 :: X))[0]'hsz).toNat : Nat) : Int) == 48) = true := rfl
        go_wp2_with fail
        rw [ofL_tail]
        exact ⟨⟨t, by omega, by rw [HXE.out], HB2.out⟩, by simp [strSz, ofL_size]⟩
    case rest =>
      obtain ⟨rfl, hb⟩ := hcut
      have HB2 := Lib.hid hb
      clear hb
      go_wp2_with fail
      go_ret
      exact ⟨by rw [HD.out]; rfl, HB2.out⟩
end Go.Proofs.YteicddmekhdjeaaGreatDoor
