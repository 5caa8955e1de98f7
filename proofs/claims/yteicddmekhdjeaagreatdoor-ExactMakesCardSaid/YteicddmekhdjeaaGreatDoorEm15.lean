/- Parts of the proof, one after the other: MakesAll. -/
import Derived.Test.YteicddmekhdjeaaGreatDoorEm12
import Derived.Test.YteicddmekhdjeaaGreatDoorEm14
import Derived.Test.YteicddmekhdjeaaGreatDoorEm7
/- exact.Make at all integers. -/
namespace Go.Proofs.YteicddmekhdjeaaGreatDoor
open Go.RowKit Go.Sort Go.Lib

set_option maxRecDepth 100000 in
set_option maxHeartbeats 4000000 in
theorem make_all (n d : Int) (w : World) (hn : -9223372036854775808 ≤ n ∧ n ≤ 9223372036854775807) (hd : -9223372036854775808 ≤ d ∧ d ≤ 9223372036854775807) (h0 : d ≠ 0) (hT : Pow10In w) :
    Calls Tryz.prog 4 #[.int .i64 n, .int .i64 d] w fun e w' => e = .returned (.tuple #[.string (ofL (numT (lowN n d) (lowD n d))), .int .i64 0]) ∧ Below w.heap.size w w' := by
  have O1 := fun V => Lib.hid (ofW n V hn)
  have O2 := fun V => Lib.hid (ofW d V hd)
  have WH := fun s A n c V => Lib.hid (wholeW s A n c V)
  have OV := fun s A n' c t A' m c' V h1 h2 => overW n d s A n' c t A' m c' V h1 h2 (by omega) (by omega) h0
  rw [(low_tdiv n d).1, (low_tdiv n d).2] at OV
  have OV := fun s A n' c t A' m c' V h1 h2 => Lib.hid (OV s A n' c t A' m c' V h1 h2)
  obtain ⟨hl1, hl2⟩ := low_le n d h0
  have WR := fun s A n' c t A' m c' V h1 h2 (h : Below w.heap.size w V) => writeW (lowN n d) (lowD n d) s A n' c t A' m c' V h1 h2 (by omega) (by omega) (low_pos n d h0) (hT.below h)
  rw [text_num (low_pos n d h0)] at WR
  have WR := fun s A n' c t A' m c' V h1 h2 h => Lib.hid (WR s A n' c t A' m c' V h1 h2 h)
  have hd0 : (d == 0) = false := beq_eq_false_iff_ne.2 h0
  generalize numT (lowN n d) (lowD n d) = T at *
  generalize lowN n d = N at *
  generalize lowD n d = D at *
  clear hn hd h0 hT hl1 hl2
  go_enter Tryz.func4, Tryz.ntmps4
  go_wp2_with (first | (go_at_call 10; (with_reducible refine (O2 _).out.mono ?_); have HK := HZ1; rintro e w3 ⟨s3, A3, n3, k3, rfl, hz3, hb3⟩; have HZ3 := Lib.hid hz3; have HZ13 := Lib.hid (HZ1.out.below hb3); have HB3 := Lib.hid (HB2.out.trans (hb3.mono HB2.out.size)); clear hz3 hb3) | (go_at_call 10; (with_reducible refine (O1 _).out.mono ?_); rintro e w1 ⟨s1, A1, n1, k1, rfl, hz1, hb1⟩; have HZ0 := Lib.hid hz1; have HB1 := Lib.hid hb1; clear hz1 hb1) | (go_at_call 9; (with_reducible refine (WH s3 A3 n3 k3 _).out.mono ?_); rintro e w4 ⟨rfl, hb4⟩; have HZ14 := Lib.hid (HZ13.out.below hb4); have HZ4 := Lib.hid (HZ3.out.below hb4); have HB4 := Lib.hid (HB3.out.trans (hb4.mono HB3.out.size)); clear hb4) | (go_at_call 9; (with_reducible refine (WH s1 A1 n1 k1 _).out.mono ?_); rintro e w2 ⟨rfl, hb2⟩; have HZ1 := Lib.hid (HZ0.out.below hb2); have HB2 := Lib.hid (HB1.out.trans (hb2.mono HB1.out.size)); clear hb2) | (go_at_call 11; refine (OV _ _ _ _ _ _ _ _ _ HZ14.out HZ4.out).out.mono ?_; rintro e w5 ⟨s5, A5, n5, k5, s6, A6, n6, k6, rfl, h51, h52, hb5⟩; have HX := Lib.hid (And.intro h51 h52); have HB5 := Lib.hid (HB4.out.trans (hb5.mono HB4.out.size)); clear h51 h52 hb5) | (go_at_call 8; refine ((WR _ _ _ _ _ _ _ _ _ HX.out.1 HX.out.2 HB5.out).out).mono ?_; rintro e w6 ⟨rfl, hb6⟩; have HB6 := Lib.hid (HB5.out.trans (hb6.mono HB5.out.size)); clear hb6))
  go_ret2
  exact ⟨rfl, HB6.out⟩
theorem makes_ok {w : World} (hT : Pow10In w) : MakesOk w := fun n d hn hd h0 V hV => make_all n d V hn hd h0 (hT.below hV)
end Go.Proofs.YteicddmekhdjeaaGreatDoor
