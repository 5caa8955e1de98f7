/- Disks: copies of bytes, new disks, copies of disks. -/
import Derived.Lib.SliceRun
import Derived.Test.YtpeinngifknpkaaGreatDoorDiskAppend
namespace Go.Proofs.YtpeinngifknpkaaGreatDoor
open Go.RowKit Go.Sort

/-- Bytes of their own are handed back. -/
def ByBack (xs : List UInt8) (w : World) (e : Ending) (w' : World) : Prop := ∃ v', e = .returned v' ∧ ByOwn w' w.heap.size v' xs ∧ Below w.heap.size w w'

theorem cloneBy_any {w : World} (A : Option Addr) (n c : Nat) (xs : List UInt8) (hn : xs.length = n) (hbig : n ≤ 100000) (hx : ByAt w A xs) :
    Calls Tryz.prog 56 #[.slice A n c] w (ByBack xs w) := by
  cases A with
  | none =>
    have hx0 : xs = [] := Classical.byContradiction fun h => by obtain ⟨b, off, e, -⟩ := hx h; cases e
    subst hx0
    have hnil := fun W => Lib.run_eql_slice_nil (P := Tryz.prog) W 28 5 none n c 0 0 Tryz.underlying28
    clear hn hx
    go_enter Tryz.func56, Tryz.ntmps56
    go_wp2_with fail
    go_ret
    exact ⟨_, rfl, ByOwn.nil _ _, Below.refl _ _⟩
  | some a =>
    have hnil := fun W => Lib.run_eql_slice_nil (P := Tryz.prog) W 28 5 (some a) n c 0 0 Tryz.underlying28
    have HX := Lib.hid (hx.below (w' := w.alloc (.cells #[] 5)) ((Below.refl _ _).alloc (Nat.le_refl _) _))
    have HN := Lib.hid hn
    clear hn hx
    go_enter Tryz.func56, Tryz.ntmps56
    go_wp2_with (at_builtin; refine wpList_bapp rfl (.tmp 5) (.tmp 6) rfl w.heap.size (.slice (some ⟨w.heap.size, 0, none⟩) 0 0) [] xs _ n c rfl rfl (.inl (ByRow.empty w)) HN.out HX.out (by rw [HN.out]; simp; omega) (by simp) ?_; intro v1 w1 ho hg hat; have HO := Lib.hid ho; have HG := Lib.hid hg; clear ho hg hat)
    go_ret
    exact ⟨_, rfl, by simpa using HO.out, ((Below.refl _ _).alloc (Nat.le_refl _) _).grown HG.out (by simp) (by intro k hk; cases hk)⟩

theorem bytes_any {w : World} {base g : Nat} {v : Value} {d : Dk} (h : DiskAt w base g v d) : Calls Tryz.prog 50 #[.pointer (some ⟨g, 0, none⟩)] w (ByBack d.bytes w) := by
  have H := Lib.hid h
  have K := Lib.hid (made_any h)
  clear h
  go_enter Tryz.func50, Tryz.ntmps50
  go_wp2_with fail
  refine (K.out).mono ?_
  rintro e w2 ⟨rfl, hb⟩
  have H2 := Lib.hid (H.out.below hb (Nat.le_refl _))
  obtain ⟨-, c1, -⟩ := H2.out.six
  obtain ⟨A, c, rfl, -, hby⟩ := H2.out.own.slice
  have hm := H2.out.most
  have KC := Lib.hid (cloneBy_any A _ c d.bytes rfl (by omega) hby)
  have HB := Lib.hid hb
  clear hb hby hm
  go_wp2_with fail
  refine (KC.out).mono ?_
  rintro e w3 ⟨v', rfl, ho, hb3⟩
  go_wp2_with fail
  go_ret
  exact ⟨_, rfl, ho.low HB.out.size, HB.out.trans (hb3.mono HB.out.size)⟩

/-- A disk is handed back. -/
def DkBack (d : Dk) (w : World) (e : Ending) (w' : World) : Prop := ∃ g v', e = .returned (.pointer (some ⟨g, 0, none⟩)) ∧ DiskAt w' w.heap.size g v' d ∧ Below w.heap.size w w'

theorem newDisk_any (w : World) : Calls Tryz.prog 13 #[] w (DkBack ⟨[], 0, false, false, 0⟩ w) := by
  go_enter Tryz.func13, Tryz.ntmps13
  go_wp2_with fail
  go_ret
  refine ⟨w.heap.size, .slice none 0 0, rfl, ⟨Nat.le_refl _, ?_, ByOwn.nil _ _, Nat.le_refl _, by simp, by simp⟩, (Below.refl _ _).alloc (Nat.le_refl _) _⟩
  show (w.heap.push _)[w.heap.size]? = _
  rw [Array.getElem?_push_size]
  rfl

def Dk.written (d : Dk) (xs : List UInt8) : Dk := if d.appE xs ≠ 0 then d.app xs else (d.app xs).synced
def Dk.writtenE (d : Dk) (xs : List UInt8) : Int := if d.appE xs ≠ 0 then d.appE xs else (d.app xs).syncE
theorem Dk.written_ok {d : Dk} {xs : List UInt8} (h : d.appE xs = 0) : d.written xs = (d.app xs).synced ∧ d.writtenE xs = (d.app xs).syncE := by
  unfold Dk.written Dk.writtenE; rw [if_neg (show ¬ d.appE xs ≠ 0 from fun e => e h), if_neg (show ¬ d.appE xs ≠ 0 from fun e => e h)]; exact ⟨rfl, rfl⟩
theorem Dk.written_no {d : Dk} {xs : List UInt8} (h : d.appE xs ≠ 0) : d.written xs = d.app xs ∧ d.writtenE xs = d.appE xs := by
  unfold Dk.written Dk.writtenE; rw [if_pos h, if_pos h]; exact ⟨rfl, rfl⟩

theorem write_any {w : World} {base g : Nat} {v : Value} {d : Dk} (h : DiskAt w base g v d) (A : Option Addr) (n c : Nat) (xs : List UInt8) (hn : xs.length = n) (hx : ByAt w A xs) (hbase : base ≤ w.heap.size) :
    Calls Tryz.prog 75 #[.pointer (some ⟨g, 0, none⟩), .slice A n c] w (ByTo w base g v (d.written xs) (d.writtenE xs)) := by
  have H := Lib.hid h
  have K := Lib.hid (append_any h A n c xs hn hx hbase)
  clear h hx hn
  go_enter Tryz.func75, Tryz.ntmps75
  go_wp2_with fail
  refine (K.out).mono ?_
  rintro e w2 ⟨rfl, v2, hv2, hD, hT⟩
  have KS := Lib.hid (sync_any hD)
  have HD := Lib.hid hD
  have HT := Lib.hid hT
  have HV := Lib.hid hv2
  clear hD hT hv2 H K
  by_cases he : d.appE xs = 0
  · rw [he]
    go_wp2_with fail
    refine (KS.out).mono ?_
    rintro e w3 hact
    have HACT := Lib.hid hact
    clear hact KS
    obtain rfl := HACT.out.1
    go_wp2_with fail
    go_ret
    rw [(Dk.written_ok he).1, (Dk.written_ok he).2]
    exact ⟨rfl, v2, HV.out, HACT.out.2.1, HT.out.trans HACT.out.2.2 (fun _ h => by cases h)⟩
  · have HE : Hid (ByTo w base g v (d.written xs) (d.writtenE xs) (.returned (.int .i64 (d.appE xs))) w2) := Lib.hid (by
      rw [(Dk.written_no he).1, (Dk.written_no he).2]
      exact ⟨rfl, v2, HV.out, HD.out, HT.out⟩)
    go_wp2_with fail
    go_ret
    exact HE.out
theorem copy_any {w : World} {base g : Nat} {v : Value} {d : Dk} (h : DiskAt w base g v d) : Calls Tryz.prog 15 #[.pointer (some ⟨g, 0, none⟩)] w (DkBack d w) := by
  have H := Lib.hid h
  have K := Lib.hid (made_any h)
  clear h
  go_enter Tryz.func15, Tryz.ntmps15
  go_wp2_with fail
  refine (K.out).mono ?_
  rintro e w2 ⟨rfl, hb⟩
  have H2 := Lib.hid (H.out.below hb (Nat.le_refl _))
  obtain ⟨c0, c1, c2, c3, c4, c5⟩ := H2.out.six
  obtain ⟨A, c, rfl, -, hby⟩ := H2.out.own.slice
  have hm := H2.out.most
  have hs := H2.out.safe
  have hle := H2.out.left
  have HB := Lib.hid hb
  have hlt := H2.out.lt
  have hn1 : ¬ w2.heap.size = g := by omega
  have hn2 : ¬ g = w2.heap.size := by omega
  have HBY := Lib.hid hby
  clear hb hby H H2
  go_wp2_with fail
  refine (cloneBy_any A _ c d.bytes rfl (by omega) (HBY.out.below ((Below.refl _ _).alloc (Nat.le_refl _) _))).mono ?_
  rintro e w3 ⟨v', rfl, ho, hb3⟩
  have hob : w3.heap[w2.heap.size]? = _ := (hb3.block w2.heap.size (by simp)).trans (by show (w2.heap.push _)[w2.heap.size]? = _; exact Array.getElem?_push_size)
  have f1 : w3.frozen? ⟨w2.heap.size, 1, none⟩ = false := by simp [World.frozen?, hob]
  have c1' : w3.cell? ⟨w2.heap.size, 1, none⟩ = some (.slice A d.bytes.length c) := by rw [cell_of_row w3 w2.heap.size 1 _ _ (0, 0) hob]; rfl
  have hb23 : Below w2.heap.size w2 w3 := ((Below.refl _ w2).alloc (Nat.le_refl _) _).trans (hb3.mono (by simp))
  have hne : rowOf v' ≠ some w2.heap.size := fun e => by have := (ho.row e).1; simp at this; omega
  have HE : Hid (DkBack d w (.returned (.pointer (some ⟨w2.heap.size, 0, none⟩))) (w3.setCell ⟨w2.heap.size, 1, none⟩ v')) := Lib.hid (by
    refine ⟨w2.heap.size, v', rfl, ⟨HB.out.size, ?_, (ho.low (by have := HB.out.size; simp; omega)).kept fun k hk => Below.heap_setCell _ _ _ _ (fun e => hne (by rw [hk, e])), hs, hm, hle⟩, (HB.out.trans (hb23.mono HB.out.size)).setCell HB.out.size _⟩
    simp [World.setCell, Array.getElem?_modify, hob, Dk.cells])
  obtain ⟨A4, c4, rfl, -, -⟩ := ho.slice
  clear ho hb3 hob hb23 hne HBY
  go_wp2_with fail
  go_ret
  exact HE.out
end Go.Proofs.YtpeinngifknpkaaGreatDoor
