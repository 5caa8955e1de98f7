/- Bags: the reference's Apery. -/
import Derived.Test.YthboolnacmpmlaaGreatDoorBagMade
namespace Go.Proofs.YthboolnacmpmlaaGreatDoor
open Go.RowKit Go.Sort Bag
attribute [local go_sem ↓] run_min_mn run_max_mx

/-- Least totals of the first remainders. -/
structure Firsts (m : Nat) (l L : List Nat) : Prop where
  made : ∀ i (h : i < L.length), Mk l L[i] ∧ L[i] % m = i
  least : ∀ i (h : i < L.length), ∀ u, u < L[i] → u % m = i → ¬ Mk l u
theorem Firsts.nil (m : Nat) (l : List Nat) : Firsts m l [] := ⟨fun i h => by simp at h, fun i h => by simp at h⟩
theorem Firsts.snoc {m : Nat} {l L : List Nat} (h : Firsts m l L) {t : Nat} (h1 : Mk l t) (h2 : t % m = L.length) (h3 : ∀ u, u < t → u % m = L.length → ¬ Mk l u) : Firsts m l (L ++ [t]) where
  made := fun i hi => by
    rcases Nat.lt_or_ge i L.length with hlt | hge
    · rw [List.getElem_append_left hlt]; exact h.made i hlt
    · have : i = L.length := by simp at hi; omega
      subst this
      rw [List.getElem_append_right (Nat.le_refl _)]
      simp; exact ⟨h1, h2⟩
  least := fun i hi u hu hm => by
    rcases Nat.lt_or_ge i L.length with hlt | hge
    · rw [List.getElem_append_left hlt] at hu; exact h.least i hlt u hu hm
    · have : i = L.length := by simp at hi; omega
      subst this
      rw [List.getElem_append_right (Nat.le_refl _)] at hu
      simp at hu
      exact h3 u hu hm
theorem Firsts.aperys {m : Nat} {l L : List Nat} (h : Firsts m l L) (hL : L.length = m) (hm : 0 < m) : Aperys m l L where
  len := hL
  made := fun r hr => by
    have hr' : r < L.length := by omega
    have e : at_ L r = L[r] := by simp [at_, List.getD, hr']
    rw [e]; exact h.made r hr'
  least := fun t ht => by
    have hr' : t % m < L.length := by rw [hL]; exact Nat.mod_lt _ hm
    have e : at_ L (t % m) = L[t % m] := by simp [at_, List.getD, hr']
    rw [e]
    apply Nat.le_of_not_lt
    intro hlt
    exact h.least _ hr' t hlt rfl ht

/-- Each remainder has a total that is not too great. -/
theorem reach {m b : Nat} {l : List Nat} (hm : 0 < m) (hg : gcdL l = 1) (hb : ∀ s ∈ l, s ≤ b) (r : Nat) (hr : r < m) : ∃ u, Mk l u ∧ u % m = r ∧ u ≤ m * b := by
  obtain ⟨t, ht, e⟩ := all_mod hm hg r hr
  obtain ⟨u, hu, e2, hle⟩ := ht.short hm hb
  refine ⟨u, hu, by rw [e2, e], Nat.le_trans hle (Nat.mul_le_mul_right _ (by omega))⟩
theorem mod_gap {m t u : Nat} (h : t < u) (e : t % m = u % m) : t + m ≤ u := by
  have h1 := Nat.div_add_mod t m
  have h2 := Nat.div_add_mod u m
  have h3 : t / m < u / m := by
    apply Nat.lt_of_not_le
    intro hle
    have := Nat.mul_le_mul_left m hle
    omega
  have h4 : m * (t / m + 1) ≤ m * (u / m) := Nat.mul_le_mul_left m h3
  rw [Nat.mul_succ] at h4
  omega

theorem mostL_le {l : List Nat} : ∀ x ∈ l, x ≤ mostL l := by
  have key : ∀ (l : List Nat) (a : Nat), a ≤ l.foldl Nat.max a ∧ ∀ x ∈ l, x ≤ l.foldl Nat.max a := by
    intro l
    induction l with
    | nil => intro a; exact ⟨Nat.le_refl _, by simp⟩
    | cons y l ih =>
      intro a
      obtain ⟨h1, h2⟩ := ih (Nat.max a y)
      refine ⟨Nat.le_trans (Nat.le_max_left a y) h1, fun x hx => ?_⟩
      rcases List.mem_cons.1 hx with rfl | hx
      · exact Nat.le_trans (Nat.le_max_right a x) h1
      · exact h2 x hx
  exact (key l 0).2
theorem mostL_bound {l : List Nat} {b : Nat} (h : ∀ x ∈ l, x ≤ b) : mostL l ≤ b := by
  have key : ∀ (l : List Nat) (a : Nat), a ≤ b → (∀ x ∈ l, x ≤ b) → l.foldl Nat.max a ≤ b := by
    intro l
    induction l with
    | nil => intro a ha _; exact ha
    | cons y l ih => intro a ha h; exact ih _ (Nat.max_le.2 ⟨ha, h y (by simp)⟩) fun x hx => h x (by simp [hx])
  exact key l 0 (Nat.zero_le _) h
theorem leastL_mem {l : List Nat} (h : l ≠ []) : leastL l ∈ l := by
  have key : ∀ (l : List Nat) (a : Nat), l.foldl Nat.min a = a ∨ l.foldl Nat.min a ∈ l := by
    intro l
    induction l with
    | nil => intro a; exact .inl rfl
    | cons y l ih =>
      intro a
      rcases ih (Nat.min a y) with e | e
      · rw [List.foldl_cons, e]
        rcases Nat.le_total a y with h | h
        · left; exact Nat.min_eq_left h
        · right; rw [show Nat.min a y = y from Nat.min_eq_right h]; simp
      · right; rw [List.foldl_cons]; simp [e]
  cases l with
  | nil => exact absurd rfl h
  | cons a l =>
    rcases key l a with e | e
    · show l.foldl Nat.min a ∈ _; rw [e]; simp
    · show l.foldl Nat.min a ∈ _; simp [e]

theorem Own.low {w : World} {base base' : Nat} {v : Value} {xs : List Int} (h : Own w base v xs) (hb : base' ≤ base) : Own w base' v xs := by
  unfold Own World.ownsRow at *
  obtain ⟨h1, h2⟩ := h
  refine ⟨h1, ?_⟩
  rcases h2 with h2 | ⟨g, cap, cur, e, hg, r⟩
  · exact .inl h2
  · exact .inr ⟨g, cap, cur, e, Nat.le_trans hb hg, r⟩

theorem Ints.one (W : World) (x : Int) : Ints (W.alloc (.cells #[.int .i64 x] 3)) (some ⟨W.heap.size, 0, none⟩) [x] := by
  have h := (Blk.new W 3 (cellsOf [x])).ints
  simpa [cellsOf] using h
theorem Own.alloc {w : World} {base : Nat} {v : Value} {xs : List Int} (h : Own w base v xs) (o : Obj) : Own (w.alloc o) base v xs := World.ownsRow.alloc h o
theorem Own.base {w : World} {base : Nat} {v : Value} {xs : List Int} (h : Own w base v xs) : ∀ k, v.ownBlock = some k → base ≤ k ∧ k < w.heap.size := World.ownsRow.lt h
theorem toI_snoc (L : List Nat) (t : Nat) : toI L ++ [(t : Int)] = toI (L ++ [t]) := by simp [toI]

/-- What the reference's Apery leaves. -/
def RefTo (w : World) (l : List Nat) (e : Ending) (w' : World) : Prop :=
  ∃ v L, e = .returned v ∧ Aperys (leastL l) l L ∧ Own w' w.heap.size v (toI L) ∧ Below w.heap.size w w'

set_option maxHeartbeats 2000000 in
set_option maxRecDepth 100000 in
theorem ref_any (A : Option Addr) (n c : Nat) (l : List Nat) (w : World) (hn : l.length = n) (h0 : 0 < n) (hbig : n ≤ 1000) (hx : Ints w A (toI l)) (hs : ∀ x ∈ l, 1 ≤ x ∧ x ≤ 200) (hg : gcdL l = 1) :
    Calls Tryz.prog 16 #[.slice A n c] w (RefTo w l) := by
  have hne : l ≠ [] := by intro e; subst e; simp at hn; omega
  have hm1 : 1 ≤ leastL l := (hs _ (leastL_mem hne)).1
  have hm2 : leastL l ≤ 200 := (hs _ (leastL_mem hne)).2
  have K1 := Lib.hid (least_any A n c l w hn h0 (by omega) hx)
  have hM : mostL l ≤ 200 := mostL_bound fun x hx => (hs x hx).2
  have hprod : leastL l * mostL l ≤ 40000 := Nat.mul_le_mul hm2 hM
  have K2 := Lib.hid (made_any A n c l (leastL l * mostL l) w hn hbig hx (fun x hx => ⟨(hs x hx).1, by have := (hs x hx).2; omega⟩) (by omega))
  have HR : Hid (∀ r, r < leastL l → ∃ u, Mk l u ∧ u % leastL l = r ∧ u ≤ leastL l * mostL l) := Lib.hid fun r hr => reach hm1 hg (fun s hs => mostL_le s hs) r hr
  have HF : Hid (∀ L, Firsts (leastL l) l L → L.length = leastL l → Aperys (leastL l) l L) := Lib.hid fun L h1 h2 => h1.aperys h2 hm1
  have HN := Lib.hid hn
  have HX := Lib.hid hx
  have HM0 : Hid (mostL l = mostL l) := Lib.hid rfl
  have hmul : ((leastL l : Nat) : Int) * (mostL l : Nat) = ((leastL l * mostL l : Nat) : Int) := by push_cast; rfl
  clear hn hx hs hg hne
  generalize hml : leastL l = m at *
  have HML := Lib.hid hml
  clear hml
  generalize hpr : m * mostL l = pr at *
  clear hpr
  go_enter Tryz.func16, Tryz.ntmps16
  go_wp2_with (go_at_call 17; refine ((K1).out).mono ?_; rintro e w1 ⟨rfl, rfl⟩)
  go_loop [4, 5] (fun p i => ∃ k g : Nat, k ≤ n ∧ i = .int .i64 k ∧ p = .int .i64 g ∧ g = mostL (l.take k)) (fun _ i => n - (intOf i).toNat)
  case atStart => exact ⟨0, 0, Nat.zero_le _, rfl, rfl, rfl⟩
  case round =>
    obtain ⟨k, g, hk, rfl, rfl, hgm⟩ := hrel
    have HG := Lib.hid hgm
    clear hgm
    by_cases hlt : k < n
    · have hl : k < l.length := by have := HN.out; omega
      obtain ⟨b', off', rfl, hc⟩ := toI_at HX.out hl
      have HT : Hid (mostL (l.take (k + 1)) = max g l[k]) := Lib.hid (by rw [List.take_succ_eq_append_getElem hl, mostL_snoc, HG.out])
      generalize l[k] = z at *
      have hmx := mx_nat g z
      go_wp2_with fail
      go_round
      case rel => exact ⟨k + 1, max g z, by omega, by go_num, rfl, HT.out.symm⟩
      case measure => simp [intOf]; omega
    · have HE : Hid (g = mostL l) := Lib.hid (by rw [HG.out, List.take_of_length_le (by have := HN.out; omega)])
      have hmul2 : (m : Int) * (g : Int) = (pr : Int) := by rw [HE.out]; exact hmul
      clear hmul HE HG
      have KM := K2
      clear K1 K2 hM HM0
      go_wp2_with (go_at_call 31; refine ((KM).out).mono ?_; rintro e w2 ⟨gm, rfl, hge, hBm, hbm⟩; have HBm := Lib.hid hBm; have HGE := Lib.hid hge; have HBE := Lib.hid hbm; clear hBm hge hbm)
      have O0 : Hid (Own (w2.alloc (.cells #[] 3)) w.heap.size (.slice (some ⟨w2.heap.size, 0, none⟩) 0 0) (toI [])) := Lib.hid ((Own.empty w2).low HBE.out.size)
      have BM0 : Hid (Blk (w2.alloc (.cells #[] 3)) gm 4 (boolsOf (pr + 1) (mkB l))) := Lib.hid (HBm.out.alloc _)
      have B0 : Hid (Below w.heap.size w (w2.alloc (.cells #[] 3))) := Lib.hid (HBE.out.alloc HBE.out.size _)
      go_loopw [7, 8] (fun v r wr => ∃ L, L.length ≤ m ∧ r = .int .i64 (L.length : Nat) ∧ Firsts m l L ∧ Own wr w.heap.size v (toI L) ∧ Blk wr gm 4 (boolsOf (pr + 1) (mkB l)) ∧ Below w.heap.size w wr ∧ v.ownBlock ≠ some gm) (fun _ r _ => m - (intOf r).toNat)
      case atStart =>
        refine ⟨([] : List Nat), by simp, by simp, Firsts.nil _ _, ?_, ?_, ?_, ?_⟩
        · exact O0.out
        · exact BM0.out
        · exact B0.out
        · have := HBm.out.lt
          simp [Value.ownBlock]; omega
      case round =>
        clear O0 BM0 B0 HBm HBE
        obtain ⟨L, hL, rfl, hF, hO, hBm, hbw, hne⟩ := hrel
        have HFi := Lib.hid hF
        have HO := Lib.hid hO
        have HNE := Lib.hid hne
        clear hF hO hne
        by_cases hlt : L.length < m
        · obtain ⟨u, hu, hum, hule⟩ := HR.out L.length hlt
          have HU := Lib.hid hu
          have HUM := Lib.hid hum
          have HSN : Hid (∀ t, Mk l t → t % m = L.length → (∀ v, v < t → v % m = L.length → ¬ Mk l v) → Firsts m l (L ++ [t])) := Lib.hid fun t h1 h2 h3 => HFi.out.snoc h1 h2 h3
          have HLL : Hid ((toI L).length = L.length) := Lib.hid (toI_length L)
          clear hu hum
          have hmod0 : Hid (L.length % m = L.length) := Lib.hid (Nat.mod_eq_of_lt hlt)
          generalize hq : L.length = q at *
          have HQ := Lib.hid hq
          clear hq
          go_wp2_with fail
          go_loop [9] (fun i => ∃ t : Nat, i = .int .i64 t ∧ t % m = q ∧ t ≤ u ∧ ∀ v, v < t → v % m = q → ¬ Mk l v) (fun i => u - (intOf i).toNat)
          case atStart =>
            refine ⟨q, rfl, hmod0.out, ?_, fun v hv hvm => ?_⟩
            · have := Nat.mod_le u m; rw [HUM.out] at this; exact this
            · rw [Nat.mod_eq_of_lt (by omega)] at hvm; omega
          case round =>
            obtain ⟨t, rfl, htm, htu, htl⟩ := hrel
            have HTM := Lib.hid htm
            have HTL := Lib.hid htl
            clear htm htl
            have c1 : wr.cell? ⟨gm, t, none⟩ = some (.bool (mkB l t)) := by rw [hBm.cell, boolsOf_get (by omega)]
            have HBm := Lib.hid hBm
            clear hBm
            cases hb : mkB l t
            · rw [hb] at c1
              have hgap : t + m ≤ u := mod_gap (by
                rcases Nat.lt_or_eq_of_le htu with h | h
                · exact h
                · subst h; rw [mkB_false] at hb; exact absurd HU.out hb) (by rw [HTM.out, HUM.out])
              have HB := Lib.hid hb
              clear hb
              go_wp2_with fail
              go_round
              case rel =>
                refine ⟨t + m, by go_num, by rw [Nat.add_mod_right, HTM.out], hgap, fun v hv hvm => ?_⟩
                by_cases h1 : v < t
                · exact HTL.out v h1 hvm
                · have h2 : v = t := by
                    apply Nat.le_antisymm
                    · apply Nat.le_of_not_lt
                      intro h3
                      have := mod_gap h3 (by rw [HTM.out, hvm])
                      omega
                    · omega
                  rw [h2]
                  exact mkB_false.1 HB.out
              case measure => simp [intOf]; omega
            · rw [hb] at c1
              have HB := Lib.hid hb
              clear hb
              have hsz : w.heap.size ≤ wr.heap.size := hbw.size
              have HBW := Lib.hid hbw
              clear hbw
              go_wp2_with (at_builtin; refine wpList_app rfl (.tmp 44) (.tmp 46) rfl w.heap.size _ (toI L) [(t : Int)] (some ⟨wr.heap.size, 0, none⟩) 1 1 rfl rfl (HO.out.alloc _) rfl (Ints.one wr t) (by rw [HLL.out]; simp; omega) (by simp; omega) ?_; intro v1 w1 ho hg hat; have HO1 := Lib.hid ho; have HG1 := Lib.hid hg; have HAT := Lib.hid hat; clear ho hg hat)
              have hbase := HO.out.base
              have hgs : gm < wr.heap.size := HBm.out.lt
              have hown2 : Hid (Own w1 w.heap.size v1 (toI (L ++ [t]))) := Lib.hid (by rw [← toI_snoc]; exact HO1.out)
              have hblk2 : Hid (Blk w1 gm 4 (boolsOf (pr + 1) (mkB l))) := Lib.hid ((HG1.out.block gm (by simp; omega) (fun e => HNE.out e.symm)).trans (HBm.out.alloc _))
              have hbel2 : Hid (Below w.heap.size w w1) := Lib.hid ((HBW.out.alloc hsz _).grown HG1.out (by simp; omega) (fun k hk => (hbase k hk).1))
              have hne2 : Hid (v1.ownBlock ≠ some gm) := Lib.hid (by
                rcases HAT.out with e | e
                · rw [e]; exact HNE.out
                · rw [e]; simp; omega)
              have hfi2 := Lib.hid (HSN.out t (mkB_true.1 HB.out) HTM.out HTL.out)
              clear hbase
              go_wp2_with fail
              go_roundw
              case rel => exact ⟨L ++ [t], by simp; have := HQ.out; omega, by simp; have := HQ.out; omega, hfi2.out, hown2.out, hblk2.out, hbel2.out, hne2.out⟩
              case measure => simp [intOf]; omega
        · have hLm : L.length = m := by omega
          have HA := Lib.hid (HF.out L HFi.out hLm)
          clear hLm
          go_wp2_with fail
          go_ret
          exact ⟨_, L, rfl, by rw [HML.out]; exact HA.out, HO.out, hbw⟩

end Go.Proofs.YthboolnacmpmlaaGreatDoor
