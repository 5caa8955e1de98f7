/- MirrorDisks: the law's walk. -/
import Derived.Test.YtpeinngifknpkaaGreatDoorDiskRound
import Derived.Test.YtpeinngifknpkaaGreatDoorLives9
namespace Go.Proofs.YtpeinngifknpkaaGreatDoor
open Go.RowKit Go.Sort

theorem step_bapp {w : World} {ops : Array Oper} {o : Oper} {a : Act} {K : Act → World → Prop} {Q : Exit → Act → World → Prop} {E : Prop} (hgd : o.guard = none) (s x : Operand)
    (ho : o.op = .call { callee := .builtin .append, args := #[s, x], argTypes := #[28, 28] }) (base : Nat) (v : Value) (xs ys : List UInt8) (A : Option Addr) (m c : Nat)
    (hs : a.eval s = v) (hx : a.eval x = .slice A m c) (hown : ByOwn w base v xs) (hm : ys.length = m) (hy : ByAt w A ys) (hlen : xs.length + ys.length ≤ 100000) (hb : base ≤ w.heap.size)
    (h : ∀ v' w', ByOwn w' base v' (xs ++ ys) → w.grownBy w' (rowOf v) → (rowOf v' = rowOf v ∨ rowOf v' = some w.heap.size ∨ rowOf v' = none) → K (a.put o.dst v') w') :
    if Region.wanted o (yielded ops a.tmps) = true then Oper.wp Tryz.prog o a w K Q else E := by
  have hw : Region.wanted o (yielded ops a.tmps) = true := by simp [Region.wanted, hgd]
  rw [if_pos hw]
  subst hm
  obtain ⟨v', w', hr, h2, h3, h4⟩ := bapp_run hown c hy hlen hb o.type
  unfold Oper.wp execOp
  simp only [ho, resolve, invoke, builtin, Sem.run_bind, Sem.run_pure, Result.andThen_ok, List.map_toArray, List.map_cons, List.map_nil, hs, hx, hr]
  exact h v' w' h2 h3 h4

def zb (x : Int) : Bool := decide (100 < x ∧ x ≤ 65536)
theorem zb_true {x : Int} (h1 : 100 < x) (h2 : x ≤ 65536) : zb x = true := decide_eq_true ⟨h1, h2⟩
theorem zb_false {x : Int} (h : ¬ (100 < x ∧ x ≤ 65536)) : zb x = false := decide_eq_false h
theorem zb_of {x : Int} (h : zb x = true) : 100 < x ∧ x ≤ 65536 := of_decide_eq_true h
set_option maxHeartbeats 8000000 in
set_option maxRecDepth 100000 in
theorem disks_law (w : World) (hT : Eng.Tabs tabs w) (A : Option Addr) (n c : Nat) (hA : ActsAt w A n) :
    Calls Tryz.prog 3 #[.slice A n c] w fun e w' => e = .returned (.bool true) ∧ Below w.heap.size w w' := by
  have HA := Lib.hid hA
  have HT := Lib.hid hT
  clear hA hT
  go_enter Tryz.func3, Tryz.ntmps3
  go_wp2_with fail
  refine (newDisk_any w).mono ?_
  rintro e w1 ⟨gd, v, rfl, hD, hb1⟩
  have HD1 := Lib.hid hD
  have HB1 := Lib.hid hb1
  have hs1 := hb1.size
  have hgd := hD.lt
  clear hD hb1
  go_wp2_with fail
  have HT1 := Lib.hid (tabs_below (w' := w1.alloc (.cells #[.string ⟨#[]⟩, .int .i64 0, .bool false, .bool false, .bool false, .int .i64 0] 26)) HT.out (HB1.out.alloc hs1 _))
  refine (lives9_any _ HT1.out).mono ?_
  rintro e w2 ⟨rfl, hb2⟩
  have hK : Kept w w1.heap.size w2 gd := by
    have hD2 := (HD1.out.below ((Below.refl _ _).alloc (Nat.le_refl _) _) (Nat.le_refl _)).below hb2 (Nat.le_refl _)
    have hs2 : w1.heap.size < w2.heap.size := by have := hb2.size; simp at this; omega
    refine ⟨v, _, _, ⟨hD2, Rel.new, (hb2.block w1.heap.size (by simp)).trans (by show (w1.heap.push _)[w1.heap.size]? = _; exact Array.getElem?_push_size), (HB1.out.alloc hs1 _).trans (hb2.mono (by simp; omega)), fun k hk => ?_, Nat.le_refl _⟩, hs1, hs2, by omega⟩
    have := (HD1.out.own.row hk).2.1
    omega
  have HK := Lib.hid hK
  generalize w1.heap.size = gr at *
  clear hK hb2 HT1 HD1 HB1
  go_wp2_with fail
  go_loopw [3, 5] (fun p i wr => ∃ k gd : Nat, k ≤ n ∧ k ≤ 40 ∧ i = .int .i64 k ∧ p = .pointer (some ⟨gd, 0, none⟩) ∧ Kept w gr wr gd) (fun _ i _ => 40 - (intOf i).toNat)
  case atStart => exact ⟨0, gd, Nat.zero_le _, by omega, rfl, rfl, HK.out⟩
  case round =>
    obtain ⟨k, gd, hk, hk40, rfl, rfl, hkept⟩ := hrel
    have HK := Lib.hid hkept
    clear hkept
    by_cases hlt : k < n ∧ k < 40
    · obtain ⟨hlt, hlt2⟩ := hlt
      obtain ⟨b, off, rfl, hb, hacts⟩ := HA.out (by omega)
      obtain ⟨kd, x, A', m, c', xs, hact⟩ := hacts k hlt
      obtain ⟨v, d, r, hBO, hgr, hgl, hne⟩ := HK.out
      have hbw := hBO.below
      have HBO := Lib.hid hBO
      have HACT := Lib.hid (hact.below hb hbw)
      have hbr' : b < wr.heap.size := Nat.lt_of_lt_of_le hb hbw.size
      have c0 := HACT.out.kind
      have c1 := HACT.out.num
      have c2 := HACT.out.bytes
      have hm := HACT.out.cap
      have HBW := Lib.hid hbw
      clear hact hBO hbw hacts
      obtain ⟨q, hqm, hq70, hq⟩ : ∃ q : Nat, q ≤ m ∧ q ≤ 70 ∧ ((70 < m ∧ q = 70) ∨ (m ≤ 70 ∧ q = m)) := by
        rcases Nat.lt_or_ge 70 m with h | h
        · exact ⟨70, by omega, by omega, .inl ⟨h, rfl⟩⟩
        · exact ⟨m, by omega, by omega, .inr ⟨h, rfl⟩⟩
      have HX : Hid (∀ W, Below wr.heap.size wr W → ByAt W A' (xs.take q)) := Lib.hid fun W hW => (HACT.out.at_.below hW).take q
      have hxl : (xs.take q).length = q := by rw [List.length_take, HACT.out.len]; omega
      have HXL := Lib.hid hxl
      have HQ := Lib.hid hq
      clear hxl hq
      have HB0 : Hid (∀ o, Below wr.heap.size wr (wr.alloc o)) := Lib.hid fun o => (Below.refl _ _).alloc (Nat.le_refl _) _
      go_wp2_with fail
      go_cut [6, 7] from 16 to 156 (fun bv nv wx => nv = .int .i64 x ∧ Below wr.heap.size wr wx ∧ ByOwn wx wr.heap.size bv (xs.take q))
      case first =>
        have hif : (if (70 : Int) < (m : Int) then (70 : Int) else (m : Int)) = (q : Int) := by rcases HQ.out with ⟨h1, h2⟩ | ⟨h1, h2⟩ <;> split <;> omega
        have hif' : (if 70 < m then (70 : Int) else (m : Int)) = (q : Int) := by rcases HQ.out with ⟨h1, h2⟩ | ⟨h1, h2⟩ <;> split <;> omega
        have hq0 : (0 : Int) ≤ (q : Int) := by omega
        have hqc : (q : Int) ≤ (c' : Int) := by omega
        go_region_held3 (fun w' => w'.cell? ⟨b, off + k * 3 + 1, none⟩ = some (.int .i64 x) ∧ w'.cell? ⟨b, off + k * 3 + 2, none⟩ = some (.slice A' m c'))
            (first | assumption | exact ⟨c1, c2⟩ | exact hS | exact ⟨((HB0.out _).cell (p := ⟨b, _, none⟩) hbr').trans c1, ((HB0.out _).cell (p := ⟨b, _, none⟩) hbr').trans c2⟩ | exact ⟨((HB0.out _).drew.cell (p := ⟨b, _, none⟩) hbr').trans c1, ((HB0.out _).drew.cell (p := ⟨b, _, none⟩) hbr').trans c2⟩)
            (first | (refine step_bapp (by rfl) _ _ (by rfl) wr.heap.size (.slice (some ⟨wr.heap.size, 0, none⟩) 0 0) [] (xs.take q) A' q c' (by rfl) (by rfl) (ByOwn.kept (.inl (ByRow.empty wr)) (fun _ _ => rfl)) HXL.out (HX.out _ (HB0.out _).drew) (by rw [HXL.out]; simp; omega) (by simp) ?_; intro v5 w5 ho5 hg5 hat5; have HO5 := Lib.hid ho5; have HB5 := Lib.hid ((HB0.out (.cells #[] 5)).drew.grown hg5 (by simp) (by intro k hk; cases hk)); clear ho5 hg5 hat5; have hS := And.intro ((HB5.out.cell (p := ⟨b, _, none⟩) hbr').trans c1) ((HB5.out.cell (p := ⟨b, _, none⟩) hbr').trans c2)))
        all_goals (go_wp2_with fail; go_meet)
        all_goals exact ⟨rfl, HB5.out, by simpa using HO5.out⟩
      case rest =>
        obtain ⟨rfl, hb5, ho5⟩ := hcut
        have HB5 := Lib.hid hb5
        have HO5 := Lib.hid ho5
        clear hb5 ho5
        obtain ⟨wx, rfl⟩ : ∃ y : World, y = wc := ⟨_, rfl⟩
        go_upto_region 8 with (fail)
        go_cut [51] from 16 to 156 (fun zv wy => zv = .bool (zb x) ∧ wy = wx)
        case first =>
          by_cases h1 : 100 < x
          · by_cases h2 : x ≤ 65536
            · have HZ := Lib.hid (zb_true h1 h2)
              go_wp2_with fail
              go_meet
              exact ⟨by rw [HZ.out], rfl⟩
            · have HZ : Hid (zb x = false) := Lib.hid (zb_false (fun e => h2 e.2))
              go_wp2_with fail
              go_meet
              exact ⟨by rw [HZ.out], rfl⟩
          · have HZ : Hid (zb x = false) := Lib.hid (zb_false (fun e => h1 e.1))
            go_wp2_with fail
            go_meet
            exact ⟨by rw [HZ.out], rfl⟩
        case rest =>
        obtain ⟨rfl, rfl⟩ := hcut
        go_upto_if 51 with (fail)
        go_cut [6] from 16 to 156 (fun bv wz => ∃ ys : List UInt8, ys.length ≤ 40070 ∧ ByOwn wz wr.heap.size bv ys ∧ Below wr.heap.size wr wz)
        case first =>
          have hxl : (xs.take q).length ≤ 70 := by rw [List.length_take]; omega
          cases hz : zb x with
          | true =>
            obtain ⟨hx1, hx2⟩ := zb_of hz
            clear hz
            rcases Int.lt_or_le 40000 x with h4 | h4
            · go_wp2_with (at_builtin; refine wpList_zeros rfl (.tmp 52) (.tmp 54) rfl wr.heap.size _ (xs.take q) 40000 rfl rfl HO5.out (by omega) (by omega) HB5.out.size ?_; intro v6 w6 ho6 hg6 hat6; have HO6 := Lib.hid ho6; have HG6 := Lib.hid hg6; clear ho6 hg6 hat6)
              go_meet
              exact ⟨_, by rw [List.length_append, List.length_replicate]; omega, HO6.out, HB5.out.grown HG6.out HB5.out.size (fun k hk => (HO5.out.row hk).1)⟩
            · go_wp2_with (at_builtin; refine wpList_zeros rfl (.tmp 52) (.tmp 54) rfl wr.heap.size _ (xs.take q) x rfl rfl HO5.out (by omega) (by omega) HB5.out.size ?_; intro v6 w6 ho6 hg6 hat6; have HO6 := Lib.hid ho6; have HG6 := Lib.hid hg6; clear ho6 hg6 hat6)
              go_meet
              exact ⟨_, by rw [List.length_append, List.length_replicate]; omega, HO6.out, HB5.out.grown HG6.out HB5.out.size (fun k hk => (HO5.out.row hk).1)⟩
          | false =>
            go_wp2_with fail
            go_meet
            exact ⟨xs.take q, Nat.le_trans hxl (by omega), HO5.out, HB5.out⟩
        case rest =>
        obtain ⟨ys, hys, ho6, hb6⟩ := hcut
        obtain ⟨wz, rfl⟩ : ∃ y : World, y = wc := ⟨_, rfl⟩
        have HO6 := Lib.hid ho6
        have HB6 := Lib.hid hb6
        have HYS := Lib.hid hys
        have HBZ := Lib.hid (HBO.out.below_ hb6)
        clear ho6 hb6 HB5 HO5 hys
        go_wp2_with fail
        refine (copy_any HBZ.out.disk).mono ?_
        rintro e w7 ⟨gc, vc, rfl, hDc, hb7⟩
        have HB7 := Lib.hid (HB6.out.trans (hb7.mono HB6.out.size))
        have HBO7 : Hid (Both w wr.heap.size w7.heap.size gr gd w7 v d r) := Lib.hid ((HBZ.out.below_ hb7).low (fun k hk => .inl (HBO.out.disk.own.row hk).2.1) (Nat.le_refl _))
        have HCO7 : Hid (Copy wz.heap.size w7.heap.size gc w7 vc d) := Lib.hid ⟨hDc, hDc.lt, fun k hk => (hDc.own.row hk).2.1⟩
        have HO7 := Lib.hid (HO6.out.kept fun k hk => hb7.block k (HO6.out.row hk).2.1)
        have hz7 := hb7.size
        have hz6 := HB6.out.size
        have c0 : w7.cell? ⟨b, off + k * 3, none⟩ = some (.int .u8 (kd : Int)) := (HB7.out.cell (p := ⟨b, _, none⟩) hbr').trans HACT.out.kind
        have hgd : gd < wr.heap.size := HBO.out.disk.lt
        have HAH : Hid (Ahead w wr.heap.size wz.heap.size w7 gr gd gc v vc d d r) := Lib.hid ⟨HBO7.out, HCO7.out, hgr, hgl, hgd, hne, fun k hk => (HBO.out.disk.own.row hk).2.1, hz6, hz7⟩
        have HKB : Hid (∀ k, rowOf _ = some k → k < wz.heap.size) := Lib.hid fun k hk => (HO6.out.row hk).2.1
        clear hDc hb7 HBZ HO6 HBO c1 c2 HBO7 HCO7
        have hkd := HACT.out.klt
        have hxl := HACT.out.low
        have hxh := HACT.out.high
        go_upto_block 2 with (fail)
        go_cut [9, 10, 11] from 66 to 156 (fun xv yv _ w8 => ∃ e : Int, xv = .int .i64 e ∧ yv = .int .i64 e ∧ After w wr.heap.size wz.heap.size w7.heap.size gr gd gc w8)
        case first =>
          obtain ⟨A6, c6, rfl, hle6, hat6⟩ := HO7.out.slice
          have HAT6 := Lib.hid hat6
          clear hat6 c0
          have h6 : (kd : Int) % 6 = 1 ∨ (kd : Int) % 6 = 2 ∨ (kd : Int) % 6 = 3 ∨ (kd : Int) % 6 = 4 ∨ (kd : Int) % 6 = 5 ∨ (kd : Int) % 6 = 0 := by omega
          generalize (kd : Int) % 6 = m6 at *
          rcases h6 with rfl | rfl | rfl | rfl | rfl | rfl
          · go_wp2_with fail
            refine (sync_any HAH.out.both.disk).mono ?_
            rintro e w8 hm
            have HM := Lib.hid hm.moved.2
            obtain rfl := hm.moved.1
            clear hm
            obtain ⟨e0, e1, e2, e3, e4, e5⟩ := HAH.out.six HM.out
            go_wp2_with fail
            refine (refSync_any r w8 HAH.out.hl).mono ?_
            rintro e w9 ⟨rfl, hb9⟩
            have H9 := Lib.hid ((hb9.block gr (Array.getElem?_eq_some_iff.1 (HAH.out.ref8 HM.out)).1).trans (HAH.out.ref8 HM.out))
            have HB9 := Lib.hid hb9
            clear hb9 e0 e1 e2 e3 e4 e5
            go_wp2_with (refine wpList_put6 rfl rfl (.tmp 4) (.tmp 95) rfl gr _ _ _ _ _ _ _ _ _ _ _ _ rfl rfl H9.out ?_; intro w10 h10 h10' hT10; have H10 := Lib.hid h10; have HT10 := Lib.hid hT10; clear h10 h10' hT10)
            go_meet
            exact ⟨_, rfl, by rw [HAH.out.both.rel.synced.2], HAH.out.after HM.out HB9.out HAH.out.both.rel.synced.1 H10.out HT10.out⟩
          · go_wp2_with fail
            refine (cut_any HAH.out.both.disk x).mono ?_
            rintro e w8 hm
            have HM := Lib.hid hm.moved.2
            obtain rfl := hm.moved.1
            clear hm
            obtain ⟨e0, e1, e2, e3, e4, e5⟩ := HAH.out.six HM.out
            go_wp2_with fail
            refine (refCut_any r x w8 HAH.out.hl).mono ?_
            rintro e w9 ⟨rfl, hb9⟩
            have H9 := Lib.hid ((hb9.block gr (Array.getElem?_eq_some_iff.1 (HAH.out.ref8 HM.out)).1).trans (HAH.out.ref8 HM.out))
            have HB9 := Lib.hid hb9
            clear hb9 e0 e1 e2 e3 e4 e5
            go_wp2_with (refine wpList_put6 rfl rfl (.tmp 4) (.tmp 106) rfl gr _ _ _ _ _ _ _ _ _ _ _ _ rfl rfl H9.out ?_; intro w10 h10 h10' hT10; have H10 := Lib.hid h10; have HT10 := Lib.hid hT10; clear h10 h10' hT10)
            go_meet
            exact ⟨_, rfl, by rw [(HAH.out.both.rel.cut x).2], HAH.out.after HM.out HB9.out (HAH.out.both.rel.cut x).1 H10.out HT10.out⟩
          · go_wp2_with fail
            refine (arm_any HAH.out.both.disk x hxh).mono ?_
            rintro e w8 hm
            have HM := Lib.hid hm.moved.2
            obtain rfl := hm.moved.1
            clear hm
            obtain ⟨e0, e1, e2, e3, e4, e5⟩ := HAH.out.six HM.out
            go_wp2_with fail
            refine (refArm_any r x w8).mono ?_
            rintro e w9 ⟨rfl, hb9⟩
            have H9 := Lib.hid ((hb9.block gr (Array.getElem?_eq_some_iff.1 (HAH.out.ref8 HM.out)).1).trans (HAH.out.ref8 HM.out))
            have HB9 := Lib.hid hb9
            clear hb9 e0 e1 e2 e3 e4 e5
            go_wp2_with (refine wpList_put6 rfl rfl (.tmp 4) (.tmp 115) rfl gr _ _ _ _ _ _ _ _ _ _ _ _ rfl rfl H9.out ?_; intro w10 h10 h10' hT10; have H10 := Lib.hid h10; have HT10 := Lib.hid hT10; clear h10 h10' hT10)
            go_meet
            exact ⟨0, rfl, rfl, HAH.out.after HM.out HB9.out (HAH.out.both.rel.arm x) H10.out HT10.out⟩
          · have HS0 : Hid (0 ≤ r.safe ∧ r.safe ≤ (r.s.size : Int) ∧ r.s.size ≤ 1000000) := Lib.hid (by
              have h1 := HAH.out.both.rel.safe
              have h2 : r.s.size = d.bytes.length := by rw [HAH.out.both.rel.s, ofL_size]
              have h3 := HAH.out.both.disk.safe
              have h4 := HAH.out.both.disk.most
              omega)
            go_wp2_with fail
            refine (restart_any HAH.out.both.disk x).mono ?_
            rintro e w8 hm
            have HM := Lib.hid hm.moved.2
            obtain rfl := hm.moved.1
            clear hm
            obtain ⟨e0, e1, e2, e3, e4, e5⟩ := HAH.out.six HM.out
            go_wp2_with fail
            refine (refRestart_any r x w8 HS0.out.1 HS0.out.2.1 HS0.out.2.2).mono ?_
            rintro e w9 ⟨rfl, hb9⟩
            have H9 := Lib.hid ((hb9.block gr (Array.getElem?_eq_some_iff.1 (HAH.out.ref8 HM.out)).1).trans (HAH.out.ref8 HM.out))
            have HB9 := Lib.hid hb9
            clear hb9 e0 e1 e2 e3 e4 e5
            go_wp2_with (refine wpList_put6 rfl rfl (.tmp 4) (.tmp 123) rfl gr _ _ _ _ _ _ _ _ _ _ _ _ rfl rfl H9.out ?_; intro w10 h10 h10' hT10; have H10 := Lib.hid h10; have HT10 := Lib.hid hT10; clear h10 h10' hT10)
            go_meet
            exact ⟨0, rfl, rfl, HAH.out.after HM.out HB9.out (HAH.out.both.rel.up x) H10.out HT10.out⟩
          · by_cases h8 : x.tmod 8 = 0
            · go_wp2_with fail
              refine (lose_any HAH.out.both.disk).mono ?_
              rintro e w8 hm
              have HM := Lib.hid hm.moved.2
              obtain rfl := hm.moved.1
              clear hm
              obtain ⟨e0, e1, e2, e3, e4, e5⟩ := HAH.out.six HM.out
              go_wp2_with fail
              refine (refLose_any r w8).mono ?_
              rintro e w9 ⟨rfl, hb9⟩
              have H9 := Lib.hid ((hb9.block gr (Array.getElem?_eq_some_iff.1 (HAH.out.ref8 HM.out)).1).trans (HAH.out.ref8 HM.out))
              have HB9 := Lib.hid hb9
              clear hb9 e0 e1 e2 e3 e4 e5
              go_wp2_with (refine wpList_put6 rfl rfl (.tmp 4) (.tmp 132) rfl gr _ _ _ _ _ _ _ _ _ _ _ _ rfl rfl H9.out ?_; intro w10 h10 h10' hT10; have H10 := Lib.hid h10; have HT10 := Lib.hid hT10; clear h10 h10' hT10)
              go_meet
              exact ⟨0, rfl, rfl, HAH.out.after HM.out HB9.out Rel.gone H10.out HT10.out⟩
            · go_wp2_with fail
              go_meet
              exact ⟨0, rfl, rfl, HAH.out.same⟩
          · have HS0 : Hid (r.s.size ≤ 1000000 ∧ (ofL ys).size ≤ 1000000) := Lib.hid (by
              have h2 : r.s.size = d.bytes.length := by rw [HAH.out.both.rel.s, ofL_size]
              have h4 := HAH.out.both.disk.most
              have h5 := ofL_size ys
              have h6 := HYS.out
              omega)
            have hwb := HAH.out.both.below.size
            go_wp2_with fail
            refine (append_any HAH.out.both.disk A6 ys.length c6 ys rfl HAT6.out hwb).mono ?_
            rintro e w8 hm
            have HM := Lib.hid hm.moved.2
            obtain rfl := hm.moved.1
            clear hm
            obtain ⟨e0, e1, e2, e3, e4, e5⟩ := HAH.out.six HM.out
            have HO8 := Lib.hid (HAH.out.own (w9 := w8) (w10 := w8) HM.out HO7.out)
            have hcv : (convert 28 9 (.slice A6 ys.length c6)).run Tryz.prog w8 = .ok (.string (ofL ys)) w8 := by
              obtain ⟨A, c, e, -, hat⟩ := HO8.out.slice
              simp only [Value.slice.injEq, true_and] at e
              obtain ⟨rfl, rfl⟩ := e
              exact conv_by hat _
            go_wp2_with fail
            refine (refAppend_any r (ofL ys) w8 HAH.out.hl HS0.out.1 HS0.out.2).mono ?_
            rintro e w9 ⟨rfl, hb9⟩
            have H9 := Lib.hid ((hb9.block gr (Array.getElem?_eq_some_iff.1 (HAH.out.ref8 HM.out)).1).trans (HAH.out.ref8 HM.out))
            have HB9 := Lib.hid hb9
            clear hb9 e0 e1 e2 e3 e4 e5 hcv
            go_upto_region 17 with (refine wpList_put6 rfl rfl (.tmp 4) (.tmp 74) rfl gr _ _ _ _ _ _ _ _ _ _ _ _ rfl rfl H9.out ?_; intro w10 h10 h10' hT10; have H10 := Lib.hid h10; have HT10 := Lib.hid hT10; clear h10 h10' hT10)
            have HAF : Hid (After w wr.heap.size wz.heap.size w7.heap.size gr gd gc w10) := Lib.hid (HAH.out.after HM.out HB9.out (HAH.out.both.rel.app ys).1 H10.out HT10.out)
            have HE0 : Hid (d.appE ys = r.appE (ofL ys)) := Lib.hid (HAH.out.both.rel.app ys).2.symm
            have HBU : Hid (Bump w10 A6 wr.heap.size wz.heap.size ys.length w10) := Lib.hid ((HO8.out.on HB9.out HT10.out hgl).bump rfl HKB.out)
            generalize ys.length = yn at *
            have hyn := HYS.out
            clear HO8 HB9 HT10 H10 H9 HM
            go_wp2_with fail
            go_loopw [11] (fun i wx => ∃ q : Nat, q ≤ yn ∧ i = .int .i64 q ∧ Bump w10 A6 wr.heap.size wz.heap.size yn wx) (fun i _ => yn - (intOf i).toNat)
            case atStart => exact ⟨0, Nat.zero_le _, rfl, HBU.out⟩
            case round =>
              obtain ⟨q, hq, rfl, hbu⟩ := hrel
              by_cases hqn : q < yn
              · rcases hbu with ⟨hn0, -⟩ | ⟨kb, rfl, hkb1, hkb2, hbuf⟩
                · omega
                · obtain ⟨z, hz, hcell, hfro⟩ := hbuf.at_ hqn
                  have HBF := Lib.hid hbuf
                  clear hbuf
                  go_wp2_with fail
                  go_roundw
                  case rel =>
                    refine ⟨q + 1, by omega, by go_num, .inr ⟨kb, rfl, hkb1, hkb2, ?_⟩⟩
                    have := HBF.out.set q ((z + 1) % 256) (Nat.mod_lt _ (by omega))
                    simpa using this
                  case measure => simp [intOf]; omega
              · have HBU2 := Lib.hid hbu
                clear hbu
                go_wp2_with fail
                go_meet
                exact ⟨_, rfl, by rw [HE0.out], HBU2.out.after HAF.out hz7 hgl hgd (by omega)⟩
        case rest =>
        obtain ⟨e0, rfl, rfl, haf⟩ := hcut
        obtain ⟨w8, rfl⟩ : ∃ y : World, y = wc := ⟨_, rfl⟩
        obtain ⟨⟨v8, d8, r8, hB8⟩, vc8, dc8, hC8⟩ := haf
        have hlow := HAH.out.both.below.size
        clear HAH HO7 HKB HYS HB7 HB6 HACT c0
        have HB8 := Lib.hid hB8
        have HC8 := Lib.hid hC8
        obtain ⟨g0, g1, g2, g3, g4, g5⟩ := (six_of (show w8.heap[gr]? = some (.cells #[.string r8.s, .int .i64 r8.safe, .bool r8.down, .bool r8.lost, .bool r8.armed, .int .i64 r8.left] 26 (0, 0)) from hB8.ref)).1
        clear hB8 hC8
        go_wp2_with fail
        refine (same_both HB8.out).mono ?_
        rintro e w9 ⟨rfl, hb9⟩
        have HB9 := Lib.hid (HB8.out.below_ hb9)
        have HC9 := Lib.hid (HC8.out.below_ hb9)
        clear hb9 g0 g1 g2 g3 g4 g5 HB8 HC8
        by_cases h3 : (k : Int) % 3 = 2
        · go_wp2_with fail
          refine (restart_any HC9.out.disk 0).mono ?_
          rintro e w10 hm
          obtain rfl := hm.1
          obtain ⟨hB10, vc10, hC10⟩ := After.copied HB9.out HC9.out hz6 hgl hgd (by omega) hm
          have HB10 := Lib.hid (hB10.below_ ((Below.refl _ _).alloc (Nat.le_refl _) (.cells #[.int .u8 111, .int .u8 116, .int .u8 104, .int .u8 101, .int .u8 114] 5 (5, 6))))
          have HC10 := Lib.hid (hC10.below_ ((Below.refl _ _).alloc (Nat.le_refl _) (.cells #[.int .u8 111, .int .u8 116, .int .u8 104, .int .u8 101, .int .u8 114] 5 (5, 6))))
          have hs10 : wz.heap.size ≤ w10.heap.size := Nat.le_trans hz7 hB10.size
          clear hB10 hC10 hm HB9 HC9
          have kc := fun (w : World) (C : Array Value) (n c : Nat) => Lib.run_convert_bytes_const (P := Tryz.prog) w 28 5 C n c Tryz.underlying28 Tryz.underlying5
          go_wp2_with fail
          refine (append_any HC10.out.disk (some ⟨w10.heap.size, 0, none⟩) 5 5 [111, 116, 104, 101, 114] rfl (byAt_other w10) (by simp; omega)).mono ?_
          rintro e w11 hm
          obtain ⟨rfl, vc11, -, -, hT11⟩ := hm
          have HB11 := Lib.hid (HB10.out.turn HC10.out hz6 hgl hgd (by omega) hT11)
          obtain ⟨g0, g1, g2, g3, g4, g5⟩ := (six_of (show w11.heap[gr]? = some (.cells #[.string r8.s, .int .i64 r8.safe, .bool r8.down, .bool r8.lost, .bool r8.armed, .int .i64 r8.left] 26 (0, 0)) from HB11.out.ref)).1
          clear hT11 HB10 HC10
          go_wp2_with fail
          refine (same_both HB11.out).mono ?_
          rintro e w12 ⟨rfl, hb12⟩
          have HB12 := Lib.hid (HB11.out.below_ hb12)
          clear hb12 g0 g1 g2 g3 g4 g5 HB11
          go_wp2_with fail
          refine (copy_any HB12.out.disk).mono ?_
          rintro e w13 ⟨g2, v13, rfl, hD13, hb13⟩
          have HK13 := Lib.hid (HB12.out.cloned hgr hD13 hb13)
          clear hD13 hb13 HB12
          go_wp2_with fail
          go_roundw
          case rel => exact ⟨k + 1, g2, by omega, by omega, by go_num, rfl, HK13.out⟩
          case measure => simp [intOf]; omega
        · go_wp2_with fail
          go_roundw
          case rel => exact ⟨k + 1, gd, by omega, by omega, by go_num, rfl, HB9.out.kept hgr hne⟩
          case measure => simp [intOf]; omega
    · obtain ⟨v, d, r, hBO, -, -, -⟩ := HK.out
      have HBW := Lib.hid hBO.below
      clear hBO HK
      rcases Nat.lt_or_ge k n with h1 | h1
      · have h2 : ¬ k < 40 := fun h => hlt ⟨h1, h⟩
        clear hlt
        go_wp2_with fail
        go_ret
        exact ⟨rfl, HBW.out⟩
      · clear hlt
        go_wp2_with fail
        go_ret
        exact ⟨rfl, HBW.out⟩
end Go.Proofs.YtpeinngifknpkaaGreatDoor
