/- The evaluator, part B of 4: it computes what the model's programs do at given arguments; its answers hold on every tape. -/
import Derived.Lib.Strings
import Derived.Laws.StructEq
import Derived.ChangeKeysEq
import Derived.Test.YteicddmekhdjeaaGreatDoorEngA
set_option linter.unusedSectionVars false
/- Binary and unary operations, conversions of integers, slices. -/
namespace Go.Proofs.YteicddmekhdjeaaGreatDoor.Eng
variable [Syms]

section
variable {P : Program} {σ : Names}

theorem bits_quick_and (k : IntKind) (x y : Nat) (hx : x < lim k) (hy : y < lim k) :
    k.wrap ((BitVec.ofInt k.bits (Int.ofNat x) &&& BitVec.ofInt k.bits (Int.ofNat y)).toNat) = Int.ofNat (Nat.land x y) := by
  have hp : lim k ≤ 2 ^ k.bits := by cases k <;> decide
  have e : ∀ n : Nat, n < lim k → (BitVec.ofInt k.bits (Int.ofNat n)).toNat = n := fun n hn => by
    simp only [Int.ofNat_eq_natCast, BitVec.ofInt_natCast, BitVec.toNat_ofNat]
    exact Nat.mod_eq_of_lt (by omega)
  rw [BitVec.toNat_and, e x hx, e y hy]
  exact wrap_small k _ (Nat.lt_of_le_of_lt Nat.and_le_left hx)

theorem lim_pow (k : IntKind) : ∃ n, lim k = 2 ^ n := by
  cases k
  · exact ⟨7, rfl⟩
  · exact ⟨15, rfl⟩
  · exact ⟨31, rfl⟩
  · exact ⟨63, rfl⟩
  · exact ⟨8, rfl⟩
  · exact ⟨16, rfl⟩
  · exact ⟨32, rfl⟩
  · exact ⟨64, rfl⟩

theorem bits_quick_or (k : IntKind) (x y : Nat) (hx : x < lim k) (hy : y < lim k) :
    k.wrap ((BitVec.ofInt k.bits (Int.ofNat x) ||| BitVec.ofInt k.bits (Int.ofNat y)).toNat) = Int.ofNat (Nat.lor x y) := by
  have hp : lim k ≤ 2 ^ k.bits := by cases k <;> decide
  have e : ∀ n : Nat, n < lim k → (BitVec.ofInt k.bits (Int.ofNat n)).toNat = n := fun n hn => by
    simp only [Int.ofNat_eq_natCast, BitVec.ofInt_natCast, BitVec.toNat_ofNat]
    exact Nat.mod_eq_of_lt (by omega)
  rw [BitVec.toNat_or, e x hx, e y hy]
  obtain ⟨n, hn⟩ := lim_pow k
  exact wrap_small k _ (by rw [hn] at hx hy ⊢; exact Nat.or_lt_two_pow hx hy)

theorem bits_quick_xor (k : IntKind) (x y : Nat) (hx : x < lim k) (hy : y < lim k) :
    k.wrap ((BitVec.ofInt k.bits (Int.ofNat x) ^^^ BitVec.ofInt k.bits (Int.ofNat y)).toNat) = Int.ofNat (Nat.xor x y) := by
  have hp : lim k ≤ 2 ^ k.bits := by cases k <;> decide
  have e : ∀ n : Nat, n < lim k → (BitVec.ofInt k.bits (Int.ofNat n)).toNat = n := fun n hn => by
    simp only [Int.ofNat_eq_natCast, BitVec.ofInt_natCast, BitVec.toNat_ofNat]
    exact Nat.mod_eq_of_lt (by omega)
  rw [BitVec.toNat_xor, e x hx, e y hy]
  obtain ⟨n, hn⟩ := lim_pow k
  exact wrap_small k _ (by rw [hn] at hx hy ⊢; exact Nat.xor_lt_two_pow hx hy)

theorem bits_eq (k : IntKind) (op : BitVec k.bits → BitVec k.bits → BitVec k.bits) (a b : Int) :
    bits k op a b = some (.int k (k.wrap ((op (BitVec.ofInt k.bits a) (BitVec.ofInt k.bits b)).toNat))) := by simp [bits]

theorem quick_eq (k : IntKind) (op : BitVec k.bits → BitVec k.bits → BitVec k.bits) (f : Nat → Nat → Nat)
    (h : ∀ x y, x < lim k → y < lim k → k.wrap ((op (BitVec.ofInt k.bits (Int.ofNat x)) (BitVec.ofInt k.bits (Int.ofNat y))).toNat) = Int.ofNat (f x y)) (a b : Int) :
    quick k op f a b = some (.int k (k.wrap ((op (BitVec.ofInt k.bits a) (BitVec.ofInt k.bits b)).toNat))) := by
  cases a with
  | negSucc x => exact bits_eq k op _ _
  | ofNat x =>
    cases b with
    | negSucc y => exact bits_eq k op _ _
    | ofNat y =>
      simp only [quick, Z_ofNat]
      cases hx : Nat.blt x (lim k) with
      | false => exact bits_eq k op _ _
      | true =>
        cases hy : Nat.blt y (lim k) with
        | false => exact bits_eq k op _ _
        | true => rw [B_true, B_true, mkInt_eq, h x y (blt_true hx) (blt_true hy)]

/-- Integers. -/
theorem ints_run {op : BinOp} {f : IntKind → Int → Int → Option V} {g : List UInt8 → List UInt8 → Option V} {e : Option Bool} (hb : binC op = .mk f g e)
    {k : IntKind} {a b : Int} {u : V} (h : f k a b = some u) (t : TypeId) (w : World) : ∃ y, (binOp op t (.int k a) (.int k b)).run P w = .ok y w ∧ u.rel σ y := by
  cases op <;> simp only [binC, Bin.mk.injEq, reduceCtorEq] at hb
  all_goals (obtain ⟨rfl, -, -⟩ := hb; try (dsimp only at h))
  case add => rw [addI_eq, mkWrap_eq] at h; obtain rfl := Option.some.inj h; exact ⟨.int k (k.wrap (a + b)), by simp [binOp, Op.intArith], by simp only [V.rel]⟩
  case sub => rw [subI_eq, mkWrap_eq] at h; obtain rfl := Option.some.inj h; exact ⟨.int k (k.wrap (a - b)), by simp [binOp, Op.intArith], by simp only [V.rel]⟩
  case mul => rw [mulI_eq, mkWrap_eq] at h; obtain rfl := Option.some.inj h; exact ⟨.int k (k.wrap (a * b)), by simp [binOp, Op.intArith], by simp only [V.rel]⟩
  case quo =>
    simp only [quoI, eqI_eq, mkWrap_eq] at h
    by_cases hz : b = 0
    · simp [hz] at h
    · simp only [hz, decide_false, B_false] at h
      obtain rfl := Option.some.inj h
      exact ⟨.int k (k.wrap (a.tdiv b)), by simp [binOp, Op.intDiv, hz], by simp only [V.rel]⟩
  case rem =>
    simp only [remI, eqI_eq, mkInt_eq] at h
    by_cases hz : b = 0
    · simp [hz] at h
    · simp only [hz, decide_false, B_false] at h
      obtain rfl := Option.some.inj h
      exact ⟨.int k (a.tmod b), by simp [binOp, Op.intDiv, hz], by simp only [V.rel]⟩
  case and =>
    have e0 : binOp .and t (.int k a) (.int k b) = Op.intBits .and k a b := by simp [binOp]
    rw [e0]; rw [quick_eq _ _ _ (bits_quick_and k)] at h; obtain rfl := Option.some.inj h; exact ⟨_, rfl, by simp only [V.rel]⟩
  case or =>
    have e0 : binOp .or t (.int k a) (.int k b) = Op.intBits .or k a b := by simp [binOp]
    rw [e0]; rw [quick_eq _ _ _ (bits_quick_or k)] at h; obtain rfl := Option.some.inj h; exact ⟨_, rfl, by simp only [V.rel]⟩
  case xor =>
    have e0 : binOp .xor t (.int k a) (.int k b) = Op.intBits .xor k a b := by simp [binOp]
    rw [e0]; rw [quick_eq _ _ _ (bits_quick_xor k)] at h; obtain rfl := Option.some.inj h; exact ⟨_, rfl, by simp only [V.rel]⟩
  case andNot =>
    have e0 : binOp .andNot t (.int k a) (.int k b) = Op.intBits .andNot k a b := by simp [binOp]
    rw [e0]; rw [bits_eq] at h; obtain rfl := Option.some.inj h; exact ⟨_, rfl, by simp only [V.rel]⟩
  case eql => rw [eqI_eq, mkBool_eq] at h; obtain rfl := Option.some.inj h; exact ⟨_, by simp [binOp, Op.intCmp]; rfl, by simp only [V.rel]; rfl⟩
  case neq => rw [eqI_eq, mkBool_eq] at h; obtain rfl := Option.some.inj h; exact ⟨_, by simp [binOp, Op.intCmp]; rfl, by simp only [V.rel]; simp [bne]; rfl⟩
  case lss => rw [ltI_eq, mkBool_eq] at h; obtain rfl := Option.some.inj h; exact ⟨_, by simp [binOp, Op.intCmp]; rfl, by simp only [V.rel]⟩
  case gtr => rw [ltI_eq, mkBool_eq] at h; obtain rfl := Option.some.inj h; exact ⟨_, by simp [binOp, Op.intCmp]; rfl, by simp only [V.rel]⟩
  case leq => rw [ltI_eq, mkBool_eq] at h; obtain rfl := Option.some.inj h; exact ⟨_, by simp [binOp, Op.intCmp]; rfl, by simp only [V.rel]; simp; by_cases hh : b < a <;> simp [hh] <;> omega⟩
  case geq => rw [ltI_eq, mkBool_eq] at h; obtain rfl := Option.some.inj h; exact ⟨_, by simp [binOp, Op.intCmp]; rfl, by simp only [V.rel]; simp; by_cases hh : a < b <;> simp [hh] <;> omega⟩

theorem strs_run {op : BinOp} {f : IntKind → Int → Int → Option V} {g : List UInt8 → List UInt8 → Option V} {e : Option Bool} (hb : binC op = .mk f g e)
    {a b : List UInt8} {s r : ByteArray} (ha : s.data.toList = a) (hr : r.data.toList = b) {u : V} (h : g a b = some u) (t : TypeId) (w : World) :
    ∃ y, (binOp op t (.string s) (.string r)).run P w = .ok y w ∧ u.rel σ y := by
  have e1 : s.toList = a := by rw [ByteArray.toList_eq, ha]
  have e2 : r.toList = b := by rw [ByteArray.toList_eq, hr]
  cases op <;> simp only [binC, Bin.mk.injEq, reduceCtorEq] at hb
  all_goals (obtain ⟨-, rfl, -⟩ := hb; try (dsimp only at h))
  case add =>
    simp only [addS, ble_iff, mkStr_eq] at h
    obtain ⟨hl, h2⟩ := B_some h
    obtain rfl := Option.some.inj h2
    have hl' : a.length + b.length ≤ 4294967296 := by simpa using hl
    have z1 : s.size = a.length := by rw [Lib.size_eq, ha]
    have z2 : r.size = b.length := by rw [Lib.size_eq, hr]
    refine ⟨.string (s ++ r), ?_, ?_⟩
    · have : ¬ (((s.size + r.size : Nat) : Int) > IntKind.i64.max) := by rw [z1, z2]; simp [IntKind.max, IntKind.signed, IntKind.bits]; omega
      simp only [binOp, Op.stringOp]
      rw [if_neg this]; rfl
    · simp only [V.rel]; exact ⟨_, rfl, by rw [← ha, ← hr]; simp [ByteArray.data_append]⟩
  case eql => rw [eqBytes_true, mkBool_eq] at h; obtain rfl := Option.some.inj h; exact ⟨_, by simp [binOp, Op.stringOp, e1, e2]; rfl, by simp only [V.rel]⟩
  case neq => rw [eqBytes_true, mkBool_eq] at h; obtain rfl := Option.some.inj h; exact ⟨_, by simp [binOp, Op.stringOp, e1, e2]; rfl, by simp only [V.rel]; simp⟩
  case lss => rw [ltBytes_eq, mkBool_eq] at h; obtain rfl := Option.some.inj h; exact ⟨_, by simp [binOp, Op.stringOp, e1, e2]; rfl, by simp only [V.rel]⟩
  case leq => rw [ltBytes_eq, eqBytes_true, mkBool_eq] at h; obtain rfl := Option.some.inj h; exact ⟨_, by simp [binOp, Op.stringOp, e1, e2]; rfl, by simp only [V.rel]; simp⟩
  case gtr => rw [ltBytes_eq, eqBytes_true, mkBool_eq] at h; obtain rfl := Option.some.inj h; exact ⟨_, by simp [binOp, Op.stringOp, e1, e2]; rfl, by simp only [V.rel]; simp⟩
  case geq => rw [ltBytes_eq, mkBool_eq] at h; obtain rfl := Option.some.inj h; exact ⟨_, by simp [binOp, Op.stringOp, e1, e2]; rfl, by simp only [V.rel]; simp⟩
  all_goals cases h
end
end Go.Proofs.YteicddmekhdjeaaGreatDoor.Eng

/- The other operations that look at no memory. -/
namespace Go.Proofs.YteicddmekhdjeaaGreatDoor.Eng
variable [Syms]

section
variable {P : Program} {σ : Names}

theorem equal_of {t : TypeId} {X Y : Value} {r : Bool} {w : World} (h : ∀ d, (Op.equalIn (d + 1) t X Y).run P w = .ok r w) : (Op.equal t X Y).run P w = .ok r w := h 9999

theorem eqV_run {t : TypeId} {d : TypeDesc} (hu : P.underlying t = some d) {x y : V} {X Y : Value} (hx : x.rel σ X) (hy : y.rel σ Y) {r : Bool} (h : eqV d x y = some r) (w : World) :
    (Op.equal t X Y).run P w = .ok r w := by
  refine equal_of fun dd => ?_
  unfold eqV at h
  split at h <;> try (cases h; done)
  all_goals (obtain rfl := Option.some.inj h)
  all_goals simp only [V.rel] at hx hy
  case h_1 => subst hx hy; simp [Op.equalIn, under_run hu]
  case h_2 => subst hx hy; simp [Op.equalIn, under_run hu]
  case h_3 => obtain ⟨b, -, rfl⟩ := hy; subst hx; simp [Op.equalIn, under_run hu]
  case h_4 => obtain ⟨b, -, rfl⟩ := hx; subst hy; simp [Op.equalIn, under_run hu]
  case h_5 => subst hx hy; simp [Op.equalIn, under_run hu]
  case h_6 => subst hx; obtain ⟨b, -, hy⟩ := hy; rcases hy with ⟨-, -, rfl⟩ | ⟨-, o, c, -, -, -, rfl⟩ <;> simp [Op.equalIn, under_run hu]
  case h_7 => subst hy; obtain ⟨b, -, hx⟩ := hx; rcases hx with ⟨-, -, rfl⟩ | ⟨-, o, c, -, -, -, rfl⟩ <;> simp [Op.equalIn, under_run hu]
  case h_8 => subst hx hy; simp [Op.equalIn, under_run hu]
  case h_9 => subst hx; obtain ⟨_, _, rfl, -, -⟩ := hy; simp [Op.equalIn, under_run hu]
  case h_10 => subst hy; obtain ⟨_, _, rfl, -, -⟩ := hx; simp [Op.equalIn, under_run hu]
  case h_11 => subst hx; obtain ⟨_, rfl, -⟩ := hy; simp [Op.equalIn, under_run hu]
  case h_12 => subst hy; obtain ⟨_, rfl, -⟩ := hx; simp [Op.equalIn, under_run hu]

theorem eqV_guard {d : TypeDesc} {x y : V} {X Y : Value} (hx : x.rel σ X) (hy : y.rel σ Y) {r : Bool} (h : eqV d x y = some r) (op : BinOp) (t : TypeId) (a b : Operand) (w : World) :
    (eqGuard op t a b X Y).run P w = .ok () w := by
  unfold eqV at h
  split at h <;> try (cases h; done)
  all_goals simp only [V.rel] at hx hy
  case h_1 => subst hx hy; (unfold eqGuard; split <;> rfl)
  case h_2 => subst hx hy; (unfold eqGuard; split <;> rfl)
  case h_3 => obtain ⟨b, -, rfl⟩ := hy; subst hx; (unfold eqGuard; split <;> rfl)
  case h_4 => obtain ⟨b, -, rfl⟩ := hx; subst hy; (unfold eqGuard; split <;> rfl)
  case h_5 => subst hx hy; (unfold eqGuard; split <;> rfl)
  case h_6 => subst hx; obtain ⟨b, -, hy⟩ := hy; rcases hy with ⟨-, -, rfl⟩ | ⟨-, o, c, -, -, -, rfl⟩ <;> (unfold eqGuard; split <;> rfl)
  case h_7 => subst hy; obtain ⟨b, -, hx⟩ := hx; rcases hx with ⟨-, -, rfl⟩ | ⟨-, o, c, -, -, -, rfl⟩ <;> (unfold eqGuard; split <;> rfl)
  case h_8 => subst hx hy; (unfold eqGuard; split <;> rfl)
  case h_9 => subst hx; obtain ⟨_, _, rfl, -, -⟩ := hy; (unfold eqGuard; split <;> rfl)
  case h_10 => subst hy; obtain ⟨_, _, rfl, -, -⟩ := hx; (unfold eqGuard; split <;> rfl)
  case h_11 => subst hx; obtain ⟨_, rfl, -⟩ := hy; (unfold eqGuard; split <;> rfl)
  case h_12 => subst hy; obtain ⟨_, rfl, -⟩ := hx; (unfold eqGuard; split <;> rfl)

theorem binOther_run {op : BinOp} {t : TypeId} {x y : V} {X Y : Value} (hx : x.rel σ X) (hy : y.rel σ Y) {u : V} (h : binOther (binC op) (P.underlying t) x y = some u) (a b : Operand) (w : World) :
    ∃ Z, (do eqGuard op t a b X Y; binOp op t X Y : Sem Value).run P w = .ok Z w ∧ u.rel σ Z := by
  unfold binOther at h
  split at h
  · rename_i f g want d hb hd
    obtain ⟨r, hr, h2⟩ := O_some' h
    rw [mkBool_eq] at h2
    obtain rfl := Option.some.inj h2
    have hg := eqV_guard (P := P) hx hy hr op t a b w
    have he := eqV_run hd hx hy hr w
    have hshape : (binOp .eql t X Y).run P w = .ok (.bool r) w ∧ (binOp .neq t X Y).run P w = .ok (.bool !r) w := by
      unfold eqV at hr
      split at hr <;> try (cases hr; done)
      all_goals simp only [V.rel] at hx hy
      case h_1 => subst hx hy; exact ⟨by simp [binOp, he], by simp [binOp, he]⟩
      case h_2 => subst hx hy; exact ⟨by simp [binOp, he], by simp [binOp, he]⟩
      case h_3 => obtain ⟨b, -, rfl⟩ := hy; subst hx; exact ⟨by simp [binOp, he], by simp [binOp, he]⟩
      case h_4 => obtain ⟨b, -, rfl⟩ := hx; subst hy; exact ⟨by simp [binOp, he], by simp [binOp, he]⟩
      case h_5 => subst hx hy; exact ⟨by simp [binOp, he], by simp [binOp, he]⟩
      case h_6 => subst hx; obtain ⟨b, -, hy⟩ := hy; rcases hy with ⟨-, -, rfl⟩ | ⟨-, o, c, -, -, -, rfl⟩ <;> exact ⟨by simp [binOp, he], by simp [binOp, he]⟩
      case h_7 => subst hy; obtain ⟨b, -, hx⟩ := hx; rcases hx with ⟨-, -, rfl⟩ | ⟨-, o, c, -, -, -, rfl⟩ <;> exact ⟨by simp [binOp, he], by simp [binOp, he]⟩
      case h_8 => subst hx hy; exact ⟨by simp [binOp, he], by simp [binOp, he]⟩
      case h_9 => subst hx; obtain ⟨_, _, rfl, -, -⟩ := hy; exact ⟨by simp [binOp, he], by simp [binOp, he]⟩
      case h_10 => subst hy; obtain ⟨_, _, rfl, -, -⟩ := hx; exact ⟨by simp [binOp, he], by simp [binOp, he]⟩
      case h_11 => subst hx; obtain ⟨_, rfl, -⟩ := hy; exact ⟨by simp [binOp, he], by simp [binOp, he]⟩
      case h_12 => subst hy; obtain ⟨_, rfl, -⟩ := hx; exact ⟨by simp [binOp, he], by simp [binOp, he]⟩
    cases op <;> simp only [binC, Bin.mk.injEq, reduceCtorEq, and_false] at hb
    case eql =>
      obtain ⟨-, -, e⟩ := hb
      obtain rfl := Option.some.inj e
      exact ⟨_, by simp [hg, hshape.1]; rfl, by simp only [V.rel]; simp⟩
    case neq =>
      obtain ⟨-, -, e⟩ := hb
      obtain rfl := Option.some.inj e
      exact ⟨_, by simp [hg, hshape.2]; rfl, by simp only [V.rel]; cases r <;> rfl⟩
  · cases h

theorem eqLeaf_run {t : TypeId} {d : TypeDesc} (hu : P.underlying t = some d) {x y : V} {X Y : Value} (hx : x.rel σ X) (hy : y.rel σ Y) {r : Bool} (h : eqLeaf d x y = some r) (n : Nat) (w : World) :
    (Op.equalIn (n + 1) t X Y).run P w = .ok r w := by
  unfold eqLeaf at h
  split at h <;> try (cases h; done)
  all_goals simp only [V.rel] at hx hy
  case h_1 =>
    obtain ⟨hk, h2⟩ := B_some h
    obtain rfl := kindEq_true hk
    obtain rfl := Option.some.inj h2
    subst hx hy
    rw [eqI_eq]
    simp [Op.equalIn, under_run hu]
    rfl
  case h_2 =>
    obtain rfl := Option.some.inj h
    obtain ⟨s, rfl, rfl⟩ := hx
    obtain ⟨s', rfl, rfl⟩ := hy
    rw [eqBytes_true, ← ByteArray.toList_eq, ← ByteArray.toList_eq, ← beq_toListBytes]
    simp [Op.equalIn, under_run hu]
  case h_3 =>
    obtain rfl := Option.some.inj h
    subst hx hy
    simp [Op.equalIn, under_run hu]

theorem eqParts_run {l m : List V} {a b : Array Value} (hl : relL σ l a.toList) (hm : relL σ m b.toList) (n : Nat) (w : World) : ∀ {fs : List Field} {r : Bool}, eqParts P fs l m = some r →
    (Op.eqFields (n + 1) a b fs).run P w = .ok r w
  | [], r, h => by
    obtain rfl := Option.some.inj h
    rfl
  | f :: fs, r, h => by
    unfold eqParts at h
    unfold Op.eqFields
    cases hn : (f.name == "_") with
    | true =>
      rw [hn] at h
      have hn' : f.name = "_" := by simpa using hn
      rw [if_neg (by simp [hn'])]
      exact eqParts_run hl hm n w h
    | false =>
      rw [hn] at h
      have hn' : f.name ≠ "_" := by simpa using hn
      rw [if_pos hn']
      simp only [B_false] at h
      obtain ⟨u, hu, h2⟩ := O_some' h
      obtain ⟨v, hv, h3⟩ := O_some' h2
      obtain ⟨d, hd, h4⟩ := O_some' h3
      obtain ⟨r1, hr1, h5⟩ := O_some' h4
      obtain ⟨Y, hY, hrY⟩ := part_run (P := P) hl hu w
      obtain ⟨Z, hZ, hrZ⟩ := part_run (P := P) hm hv w
      have he := eqLeaf_run hd hrY hrZ hr1 n w
      simp only [Sem.run_bind, hY, hZ, he, Result.andThen_ok]
      cases r1 with
      | true =>
        simp only [B_true] at h5
        simpa using eqParts_run hl hm n w h5
      | false =>
        simp only [B_false] at h5
        obtain rfl := Option.some.inj h5
        simp

theorem eqElems_run {e : TypeId} {d : TypeDesc} (hd : P.underlying e = some d) {l m : List V} {a b : Array Value} (hl : relL σ l a.toList) (hm : relL σ m b.toList) (n : Nat) (w : World) : ∀ {is : List Nat} {r : Bool}, eqElems (szOf P e) (P.cellsOf e) d l m is = some r →
    (Op.eqItems (n + 1) e (P.cellsOf e) a b is).run P w = .ok r w
  | [], r, h => by
    obtain rfl := Option.some.inj h
    rfl
  | i :: is, r, h => by
    unfold eqElems at h
    unfold Op.eqItems
    obtain ⟨u, hu, h2⟩ := O_some' h
    obtain ⟨v, hv, h3⟩ := O_some' h2
    obtain ⟨r1, hr1, h5⟩ := O_some' h3
    obtain ⟨Y, hY, hrY⟩ := part_run (P := P) hl hu w
    obtain ⟨Z, hZ, hrZ⟩ := part_run (P := P) hm hv w
    have he := eqLeaf_run hd hrY hrZ hr1 n w
    simp only [Sem.run_bind, hY, hZ, he, Result.andThen_ok]
    cases r1 with
    | true =>
      simp only [B_true] at h5
      simpa using eqElems_run hd hl hm n w h5
    | false =>
      simp only [B_false] at h5
      obtain rfl := Option.some.inj h5
      simp

theorem eqPartsG_run {g : TypeId → V → V → Option Bool} {l m : List V} {a b : Array Value} (hl : relL σ l a.toList) (hm : relL σ m b.toList) (n : Nat) (w : World)
    (hg : ∀ {t : TypeId} {x y : V} {X Y : Value}, x.rel σ X → y.rel σ Y → ∀ {r : Bool}, g t x y = some r → (Op.equalIn n t X Y).run P w = .ok r w) : ∀ {fs : List Field} {r : Bool}, eqPartsG P g fs l m = some r →
    (Op.eqFields n a b fs).run P w = .ok r w
  | [], r, h => by
    obtain rfl := Option.some.inj h
    rfl
  | f :: fs, r, h => by
    unfold eqPartsG at h
    unfold Op.eqFields
    cases hn : (f.name == "_") with
    | true =>
      rw [hn] at h
      have hn' : f.name = "_" := by simpa using hn
      rw [if_neg (by simp [hn'])]
      exact eqPartsG_run hl hm n w hg h
    | false =>
      rw [hn] at h
      have hn' : f.name ≠ "_" := by simpa using hn
      rw [if_pos hn']
      simp only [B_false] at h
      obtain ⟨u, hu, h2⟩ := O_some' h
      obtain ⟨v, hv, h3⟩ := O_some' h2
      obtain ⟨r1, hr1, h5⟩ := O_some' h3
      obtain ⟨Y, hY, hrY⟩ := part_run (P := P) hl hu w
      obtain ⟨Z, hZ, hrZ⟩ := part_run (P := P) hm hv w
      have he := hg hrY hrZ hr1
      simp only [Sem.run_bind, hY, hZ, he, Result.andThen_ok]
      cases r1 with
      | true =>
        simp only [B_true] at h5
        simpa using eqPartsG_run hl hm n w hg h5
      | false =>
        simp only [B_false] at h5
        obtain rfl := Option.some.inj h5
        simp

theorem eqDeep_run (n : Nat) (w : World) : ∀ (d : Nat) {t : TypeId} {x y : V} {X Y : Value}, x.rel σ X → y.rel σ Y → ∀ {r : Bool}, eqDeep P d t x y = some r → (Op.equalIn (n + d) t X Y).run P w = .ok r w
  | 0, _, _, _, _, _, _, _, _, h => by cases h
  | d + 1, t, x, y, X, Y, hx, hy, r, h => by
    unfold eqDeep at h
    split at h
    · rename_i fs hu
      obtain ⟨l, rfl, h2⟩ := onAgg_some h
      obtain ⟨m, rfl, h3⟩ := onAgg_some h2
      simp only [V.rel] at hx hy
      obtain ⟨xs, rfl, hl⟩ := hx
      obtain ⟨ys, rfl, hm⟩ := hy
      cases hg : P.stoodInHeld t with
      | true => rw [hg] at h3; cases h3
      | false =>
        rw [hg] at h3
        simp only [B_false] at h3
        have hf : P.fieldsOf t = fs := by simp [Program.fieldsOf, hu]
        rw [← Nat.add_assoc, run_equalIn_agg w (n + d) t xs ys (by rw [hf, hu]) hg, hf]
        exact eqPartsG_run hl hm (n + d) w (fun h1 h2 _ h3 => eqDeep_run n w d h1 h2 h3) h3
    · rename_i e hne hu
      exact eqLeaf_run hu hx hy h (n + d) w
    · cases h

theorem binEq_run {op : BinOp} {t : TypeId} {l m : List V} {X Y : Value} (hx : (V.agg l).rel σ X) (hy : (V.agg m).rel σ Y) {u : V} (h : binEq (binC op) (eqAggs P t l m) = some u) (a b : Operand) (w : World) :
    ∃ Z, (do eqGuard op t a b X Y; binOp op t X Y : Sem Value).run P w = .ok Z w ∧ u.rel σ Z := by
  simp only [V.rel] at hx hy
  obtain ⟨xs, rfl, hl⟩ := hx
  obtain ⟨ys, rfl, hm⟩ := hy
  unfold binEq at h
  split at h
  · rename_i f g want hb
    obtain ⟨r, hr, h2⟩ := O_some' h
    rw [mkBool_eq] at h2
    obtain rfl := Option.some.inj h2
    have key : (eqGuard op t a b (.agg xs) (.agg ys)).run P w = .ok () w ∧ ∀ w, (Op.equalIn 10000 t (.agg xs) (.agg ys)).run P w = .ok r w := by
      unfold eqAggs at hr
      split at hr
      · rename_i fs hd
        cases hg : (orB (P.stoodInHeld t) (P.eqGuardType P.depth t)) with
        | true => rw [hg] at hr; cases hr
        | false =>
          rw [hg] at hr
          simp only [B_false] at hr
          have hg1 : P.stoodInHeld t = false := by cases e : P.stoodInHeld t <;> simp_all [orB]
          have hg2 : P.eqGuardType P.depth t = false := by rw [hg1] at hg; simpa [orB] using hg
          have hf : P.fieldsOf t = fs := by simp [Program.fieldsOf, hd]
          refine ⟨run_eqGuard_agg w op t a b xs ys hg2, fun w => ?_⟩
          rw [show (10000 : Nat) = 9999 + 1 from rfl, run_equalIn_agg w 9999 t xs ys (by rw [hf, hd]) hg1, hf]
          exact eqPartsG_run hl hm 9999 w (fun h1 h2 _ h3 => eqDeep_run 9995 w 4 h1 h2 h3) hr
      · rename_i n e hd
        cases hg : P.eqGuardType P.depth t with
        | true => rw [hg] at hr; cases hr
        | false =>
          rw [hg] at hr
          simp only [B_false] at hr
          obtain ⟨info, hi, hr⟩ := O_some' hr
          obtain ⟨d, hde, hr⟩ := O_some' hr
          refine ⟨run_eqGuard_agg w op t a b xs ys hg, fun w => ?_⟩
          rw [show (10000 : Nat) = 9999 + 1 from rfl, run_equalIn_array w 9999 xs ys hd hi]
          exact eqElems_run hde hl hm 9998 w hr
      · cases hr
    obtain ⟨hguard, hrun⟩ := key
    cases op <;> simp only [binC, Bin.mk.injEq, reduceCtorEq, and_false] at hb
    case eql =>
      obtain ⟨-, -, e⟩ := hb
      obtain rfl := Option.some.inj e
      exact ⟨.bool r, by simp only [Sem.run_bind, hguard, Result.andThen_ok, run_eql_struct, hrun], by simp only [V.rel]; simp⟩
    case neq =>
      obtain ⟨-, -, e⟩ := hb
      obtain rfl := Option.some.inj e
      exact ⟨.bool !r, by simp only [Sem.run_bind, hguard, Result.andThen_ok, run_neq_struct, hrun], by simp only [V.rel]; cases r <;> rfl⟩
  · cases h

/-- A binary operation. -/
theorem bin_run {op : BinOp} {t : TypeId} {x y : V} {X Y : Value} (hx : x.rel σ X) (hy : y.rel σ Y) {u : V} (h : binV (binC op) (P.underlying t) (eqAggs P t) x y = some u) (a b : Operand) (w : World) :
    ∃ Z, (do eqGuard op t a b X Y; binOp op t X Y : Sem Value).run P w = .ok Z w ∧ u.rel σ Z := by
  have gi : ∀ (k l : IntKind) (m n : Int), (eqGuard op t a b (.int k m) (.int l n)).run P w = .ok () w := by intro k l m n; unfold eqGuard; split <;> rfl
  have gs : ∀ (r s : ByteArray), (eqGuard op t a b (.string r) (.string s)).run P w = .ok () w := by intro r s; unfold eqGuard; split <;> rfl
  cases x with
  | int k m =>
    have h : y.onInt none (fun k' n => Bin.rec (motive := fun _ => Option V) (fun f _ _ => B (kindEq k k') (f k m n) none) (fun f => f k m n) (binC op)) = some u := h
    obtain ⟨l, n, rfl, h2⟩ := onInt_some h
    simp only [V.rel] at hx hy
    subst hx hy
    cases hb : binC op with
    | mk f g e =>
      rw [hb] at h2
      have h2 : B (kindEq k l) (f k m n) none = some u := h2
      obtain ⟨hk, h3⟩ := B_some h2
      obtain rfl := kindEq_true hk
      obtain ⟨Z, hZ, hr⟩ := ints_run (P := P) (σ := σ) hb h3 t w
      exact ⟨Z, by simp [gi, hZ], hr⟩
    | shift f =>
      rw [hb] at h2
      have h2 : f k m n = some u := h2
      cases op <;> simp only [binC, Bin.shift.injEq, reduceCtorEq] at hb
      case shl =>
        subst hb
        obtain ⟨j, rfl, h3⟩ := Z_some h2
        rw [mkWrap_eq, mulI_eq] at h3
        obtain rfl := Option.some.inj h3
        refine ⟨.int k (k.wrap (m * 2 ^ min j k.bits)), by simp [gi, binOp, Op.shift]; intro hc; omega, ?_⟩
        simp only [V.rel]
        have : Int.ofNat (Nat.pow 2 (Nat.min j k.bits)) = (2 : Int) ^ min j k.bits := by
          show ((2 ^ (min j k.bits) : Nat) : Int) = _
          simp
        rw [this]
      case shr =>
        subst hb
        obtain ⟨j, rfl, h3⟩ := Z_some h2
        have hp : Int.ofNat (Nat.pow 2 (Nat.min j k.bits)) = (2 : Int) ^ min j k.bits := by
          show ((2 ^ (min j k.bits) : Nat) : Int) = _
          simp
        have h4 : some (V.int k (m.fdiv (2 ^ min j k.bits))) = some u := by
          rw [← h3]
          cases m with
          | ofNat x => simp only [Z_ofNat, mkInt_eq]; rw [← hp]; exact congrArg (fun z => some (V.int k z)) (Int.ofNat_fdiv x _).symm
          | negSucc x => simp only [Z_negSucc, mkInt_eq]; rw [hp]
        obtain rfl := Option.some.inj h4
        exact ⟨.int k (m.fdiv (2 ^ min j k.bits)), by simp [gi, binOp, Op.shift]; intro hc; omega, by simp only [V.rel]⟩
  | str l =>
    have h : y.onStr none (fun b => Bin.rec (motive := fun _ => Option V) (fun _ g _ => g l b) (fun _ => none) (binC op)) = some u := h
    obtain ⟨m, rfl, h2⟩ := onStr_some h
    simp only [V.rel] at hx hy
    obtain ⟨s, rfl, hs⟩ := hx
    obtain ⟨r, rfl, hr⟩ := hy
    cases hb : binC op with
    | mk f g e =>
      rw [hb] at h2
      obtain ⟨Z, hZ, hr⟩ := strs_run (P := P) (σ := σ) hb hs hr h2 t w
      exact ⟨Z, by simp [gs, hZ], hr⟩
    | shift f => rw [hb] at h2; cases h2
  | agg l =>
    have h : y.onAgg none (fun m => binEq (binC op) (eqAggs P t l m)) = some u := h
    obtain ⟨m, rfl, h2⟩ := onAgg_some h
    exact binEq_run hx hy h2 a b w
  | _ => exact binOther_run hx hy h a b w

theorem un_run {op : UnOp} {x : V} {X : Value} (hx : x.rel σ X) {u : V} (h : unV op x = some u) (w : World) : ∃ Y, (Op.unary op X).run P w = .ok Y w ∧ u.rel σ Y := by
  cases op with
  | neg =>
    obtain ⟨k, n, rfl, h2⟩ := onInt_some h
    rw [subI_eq, mkWrap_eq] at h2
    obtain rfl := Option.some.inj h2
    simp only [V.rel] at hx; subst hx
    exact ⟨_, by simp [Op.unary, Op.intArith]; rfl, by simp only [V.rel]; simp⟩
  | xor =>
    obtain ⟨k, n, rfl, h2⟩ := onInt_some h
    rw [bits_eq] at h2
    obtain rfl := Option.some.inj h2
    simp only [V.rel] at hx; subst hx
    exact ⟨_, rfl, by simp only [V.rel]⟩
  | not =>
    obtain ⟨b, rfl, h2⟩ := onBool_some h
    rw [mkBool_eq, notB_eq] at h2
    obtain rfl := Option.some.inj h2
    simp only [V.rel] at hx; subst hx
    exact ⟨_, rfl, by simp only [V.rel]⟩
  | plus => cases h

theorem bound_some {v : Option V} {dflt y m : Nat} (h : bound v dflt y = some m) : (v = none ∧ m = dflt) ∨ ∃ k, v = some (.int k (m : Int)) ∧ m ≤ y := by
  cases v with
  | none => exact .inl ⟨rfl, (Option.some.inj h).symm⟩
  | some v =>
    have h : v.onInt none (fun _ j => Z j (fun m => B (Nat.ble m y) (some m) none) (fun _ => none)) = some m := h
    obtain ⟨k, j, rfl, h2⟩ := onInt_some h
    obtain ⟨n, rfl, h3⟩ := Z_some h2
    obtain ⟨hb, h4⟩ := B_some h3
    obtain rfl := Option.some.inj h4
    rw [ble_iff] at hb
    exact .inr ⟨k, rfl, by simpa using hb⟩

/-- The operand of a bound: there, or not. -/
def OptRel (σ : Names) : Option V → Option Value → Prop
  | none, x => x = none
  | some v, x => ∃ y, x = some y ∧ v.rel σ y

theorem bounds_run {isSlice : Bool} {lo hi : Option V} {Lo Hi : Option Value} (hl : OptRel σ lo Lo) (hh : OptRel σ hi Hi) {len cap y l h : Nat} (hlen : len ≤ y) (hy : y ≤ cap)
    (h1 : bound hi len y = some h) (h2 : bound lo 0 h = some l) (w : World) :
    (Instr.sliceBounds isSlice len cap Lo Hi none).run P w = .ok (l, h, cap) w ∧ l ≤ h ∧ h ≤ y := by
  have hH : h ≤ y := by rcases bound_some h1 with ⟨_, e⟩ | ⟨_, _, e⟩ <;> omega
  have hL : l ≤ h := by rcases bound_some h2 with ⟨_, e⟩ | ⟨_, _, e⟩ <;> omega
  refine ⟨?_, hL, hH⟩
  have rh : ∀ (z : Value) (k : IntKind) (code : BoundsCode) (n b : Nat), z = .int k (n : Int) → n ≤ b → (Instr.sliceBound z b code).run P w = .ok n w := by
    intro z k code n b e hn; subst e
    have : (0 : Int) ≤ n ∧ (n : Int) ≤ b := by omega
    simp [Instr.sliceBound, asIntOf]
    intro hc; omega
  rcases bound_some h1 with ⟨rfl, rfl⟩ | ⟨k1, rfl, hb1⟩
  · have e1 : Hi = none := hh
    subst e1
    rcases bound_some h2 with ⟨rfl, rfl⟩ | ⟨k2, rfl, hb2⟩
    · have e2 : Lo = none := hl
      subst e2
      simp [Instr.sliceBounds]
    · obtain ⟨z, rfl, hz⟩ := hl
      simp only [V.rel] at hz
      simp [Instr.sliceBounds, rh z k2 _ l h hz hb2]
  · obtain ⟨z1, rfl, hz1⟩ := hh
    simp only [V.rel] at hz1
    rcases bound_some h2 with ⟨rfl, rfl⟩ | ⟨k2, rfl, hb2⟩
    · have e2 : Lo = none := hl
      subst e2
      simp [Instr.sliceBounds, rh z1 k1 _ h cap hz1 (by omega)]
    · obtain ⟨z, rfl, hz⟩ := hl
      simp only [V.rel] at hz
      simp [Instr.sliceBounds, rh z1 k1 _ h cap hz1 (by omega), rh z k2 _ l h hz hb2]

theorem sliceStr_run {t : TypeId} (hu : P.underlying t = some .string) {x : V} {X : Value} (hx : x.rel σ X) {lo hi : Option V} {Lo Hi : Option Value} (hl : OptRel σ lo Lo) (hh : OptRel σ hi Hi) {u : V}
    (h : sliceStrV x lo hi = some u) (w : World) : ∃ Y, (Instr.sliceAt t X Lo Hi none).run P w = .ok Y w ∧ u.rel σ Y := by
  obtain ⟨l, rfl, h2⟩ := onStr_some h
  obtain ⟨b, hb, h3⟩ := O_some' h2
  obtain ⟨a, ha, h4⟩ := O_some' h3
  rw [mkStr_eq] at h4
  obtain rfl := Option.some.inj h4
  simp only [V.rel] at hx
  obtain ⟨s, rfl, hs⟩ := hx
  have hsz : s.size = l.length := by rw [Lib.size_eq, hs]
  obtain ⟨hr, -, -⟩ := bounds_run (P := P) (isSlice := false) hl hh (cap := l.length) (Nat.le_refl _) (Nat.le_refl _) hb ha w
  refine ⟨.string (s.extract a b), ?_, ?_⟩
  · simp [Instr.sliceAt, Instr.slice, under_run hu, hsz, hr]
  · simp only [V.rel]
    exact ⟨_, rfl, by rw [Lib.extract_data, hs]; rfl⟩

theorem sliceSlice_run {t e : TypeId} {s : Nat} (hu : P.underlying t = some (.slice e)) (hs : sizeOf? P e = some s) {x : V} {X : Value} (hx : x.rel σ X) {lo hi : Option V} {Lo Hi : Option Value}
    (hl : OptRel σ lo Lo) (hh : OptRel σ hi Hi) {u : V} (h : sliceSliceV s x lo hi = some u) (w : World) : ∃ Y, (Instr.sliceAt t X Lo Hi none).run P w = .ok Y w ∧ u.rel σ Y := by
  rcases onSlice_some h with ⟨rfl, h2⟩ | ⟨i, off, len, cap, es, rfl, h2⟩
  · obtain ⟨b, hb, h3⟩ := O_some' h2
    obtain ⟨a, ha, h4⟩ := O_some' h3
    obtain rfl := Option.some.inj h4
    simp only [V.rel] at hx; subst hx
    obtain ⟨hr, h5, h6⟩ := bounds_run (P := P) (isSlice := true) hl hh (cap := 0) (Nat.le_refl _) (Nat.le_refl _) hb ha w
    have e1 : b = 0 := by omega
    have e2 : a = 0 := by omega
    subst e1 e2
    exact ⟨_, by simp [Instr.sliceAt, Instr.slice, under_run hu, hr, sizeOf_run hs]; rfl, by simp only [V.rel]⟩
  · simp only [V.rel] at hx
    obtain ⟨B0, hB, hx⟩ := hx
    cases es with
    | zero =>
      have h2 : O (bound hi len cap) none (fun h => O (bound lo 0 h) none fun k =>
        B (Nat.beq cap k) (mkSlice i off (Nat.sub h k) (Nat.sub cap k) 0) (mkSlice i (Nat.add off (Nat.mul k s)) (Nat.sub h k) (Nat.sub cap k) 0)) = some u := h2
      obtain ⟨b, hb, h3⟩ := O_some' h2
      obtain ⟨a, ha, h4⟩ := O_some' h3
      rcases hx with ⟨-, hlc, rfl⟩ | ⟨hne, -⟩
      · obtain ⟨hr, h5, h6⟩ := bounds_run (P := P) (isSlice := true) hl hh hlc (Nat.le_refl _) hb ha w
        rw [beq_iff] at h4
        by_cases hc : cap = a
        · rw [decide_eq_true hc, B_true, mkSlice_eq] at h4
          obtain rfl := Option.some.inj h4
          subst hc
          refine ⟨.slice (some ⟨B0.block, B0.base + off, none⟩) (b - cap) (cap - cap), by simp [Instr.sliceAt, Instr.slice, under_run hu, hr, sizeOf_run hs], ?_⟩
          simp only [V.rel]
          exact ⟨B0, hB, .inl ⟨by trivial, by show b - cap ≤ cap - cap; omega, rfl⟩⟩
        · rw [decide_eq_false hc, B_false, mkSlice_eq] at h4
          obtain rfl := Option.some.inj h4
          refine ⟨.slice (some ((⟨B0.block, B0.base + off, none⟩ : Addr).add (a * s))) (b - a) (cap - a), by simp [Instr.sliceAt, Instr.slice, under_run hu, hr, sizeOf_run hs, hc], ?_⟩
          simp only [V.rel]
          exact ⟨B0, hB, .inl ⟨by trivial, by show b - a ≤ cap - a; omega, by rw [addr_add, Nat.add_assoc]; rfl⟩⟩
      · exact absurd rfl hne
    | succ e' =>
      have h2 : O (bound hi len len) none (fun h => O (bound lo 0 h) none fun k =>
        B (Nat.beq s (e' + 1)) (mkSlice i (Nat.add off (Nat.mul k s)) (Nat.sub h k) 0 (e' + 1)) none) = some u := h2
      obtain ⟨b, hb, h3⟩ := O_some' h2
      obtain ⟨a, ha, h4⟩ := O_some' h3
      obtain ⟨hse, h5⟩ := B_some h4
      rw [beq_iff] at hse
      have hse : s = e' + 1 := by simpa using hse
      rw [mkSlice_eq] at h5
      obtain rfl := Option.some.inj h5
      rcases hx with ⟨he, -⟩ | ⟨-, o, c, hlc, ho, hsz, rfl⟩
      · cases he
      · obtain ⟨hr, h6, h7⟩ := bounds_run (P := P) (isSlice := true) hl hh (Nat.le_refl _) hlc hb ha w
        have e1 : (c - a) * (e' + 1) + a * (e' + 1) = c * (e' + 1) := by rw [← Nat.add_mul]; congr 1; omega
        by_cases hc : c = a
        · subst hc
          refine ⟨.slice (some ⟨B0.block, o, none⟩) (b - c) (c - c), by simp [Instr.sliceAt, Instr.slice, under_run hu, hr, sizeOf_run hs], ?_⟩
          simp only [V.rel]
          refine ⟨B0, hB, .inr ⟨by simp, o, c - c, by show b - c ≤ c - c; omega, fun hp => by omega, ?_, rfl⟩⟩
          show off + c * s + (c - c) * (e' + 1) ≤ B0.size
          rw [hse]; omega
        · refine ⟨.slice (some ((⟨B0.block, o, none⟩ : Addr).add (a * s))) (b - a) (c - a), by simp [Instr.sliceAt, Instr.slice, under_run hu, hr, sizeOf_run hs, hc], ?_⟩
          simp only [V.rel]
          refine ⟨B0, hB, .inr ⟨by simp, o + a * s, c - a, by show b - a ≤ c - a; omega, fun hp => ?_, ?_, by rw [addr_add]; rfl⟩⟩
          · rw [ho (by omega)]; show _ = B0.base + (off + a * s); omega
          · show off + a * s + (c - a) * (e' + 1) ≤ B0.size
            rw [hse]; omega

theorem bounds3_run {isSlice : Bool} {lo : Option V} {hi mx : V} {Lo : Option Value} {Hi Mx : Value} (hl : OptRel σ lo Lo) (hh : hi.rel σ Hi) (hm : mx.rel σ Mx) {cap m h l y len : Nat}
    (hy : y ≤ cap) (h0 : bound (some mx) 0 y = some m) (h1 : bound (some hi) 0 m = some h) (h2 : bound lo 0 h = some l) (w : World) :
    (Instr.sliceBounds isSlice len cap Lo (some Hi) (some Mx)).run P w = .ok (l, h, m) w ∧ l ≤ h ∧ h ≤ m ∧ m ≤ y := by
  have rh : ∀ (z : Value) (k : IntKind) (code : BoundsCode) (n b : Nat), z = .int k (n : Int) → n ≤ b → (Instr.sliceBound z b code).run P w = .ok n w := by
    intro z k code n b e hn; subst e
    have : (0 : Int) ≤ n ∧ (n : Int) ≤ b := by omega
    simp [Instr.sliceBound, asIntOf]
    intro hc; omega
  rcases bound_some h0 with ⟨e, -⟩ | ⟨k0, e0, hb0⟩
  · cases e
  rcases bound_some h1 with ⟨e, -⟩ | ⟨k1, e1, hb1⟩
  · cases e
  obtain rfl := Option.some.inj e0
  obtain rfl := Option.some.inj e1
  simp only [V.rel] at hh hm
  rcases bound_some h2 with ⟨rfl, rfl⟩ | ⟨k2, rfl, hb2⟩
  · have e2 : Lo = none := hl
    subst e2
    refine ⟨?_, Nat.zero_le _, hb1, hb0⟩
    simp [Instr.sliceBounds, rh Mx k0 _ m cap hm (by omega), rh Hi k1 _ h m hh hb1]
  · obtain ⟨z, rfl, hz⟩ := hl
    simp only [V.rel] at hz
    refine ⟨?_, hb2, hb1, hb0⟩
    simp [Instr.sliceBounds, rh Mx k0 _ m cap hm (by omega), rh Hi k1 _ h m hh hb1, rh z k2 _ l h hz hb2]

theorem sliceSlice3_run {t e : TypeId} {s : Nat} (hu : P.underlying t = some (.slice e)) (hs : sizeOf? P e = some s) {x : V} {X : Value} (hx : x.rel σ X) {lo : Option V} {hi mx : V} {Lo : Option Value} {Hi Mx : Value}
    (hl : OptRel σ lo Lo) (hh : hi.rel σ Hi) (hm : mx.rel σ Mx) {u : V} (h : sliceSlice3V s x lo hi mx = some u) (w : World) : ∃ Y, (Instr.sliceAt t X Lo (some Hi) (some Mx)).run P w = .ok Y w ∧ u.rel σ Y := by
  rcases onSlice_some h with ⟨rfl, h2⟩ | ⟨i, off, len, cap, es, rfl, h2⟩
  · obtain ⟨m, hmm, h3⟩ := O_some' h2
    obtain ⟨b, hb, h4⟩ := O_some' h3
    obtain ⟨a, ha, h5⟩ := O_some' h4
    obtain rfl := Option.some.inj h5
    simp only [V.rel] at hx; subst hx
    obtain ⟨hr, h6, h7, h8⟩ := bounds3_run (P := P) (isSlice := true) (len := 0) hl hh hm (cap := 0) (Nat.le_refl _) hmm hb ha w
    have e1 : m = 0 := by omega
    have e2 : b = 0 := by omega
    have e3 : a = 0 := by omega
    subst e1 e2 e3
    exact ⟨_, by simp [Instr.sliceAt, Instr.slice, under_run hu, hr, sizeOf_run hs]; rfl, by simp only [V.rel]⟩
  · simp only [V.rel] at hx
    obtain ⟨B0, hB, hx⟩ := hx
    cases es with
    | zero =>
      have h2 : O (bound (some mx) 0 cap) none (fun m => O (bound (some hi) 0 m) none fun h => O (bound lo 0 h) none fun k =>
        B (Nat.beq m k) (mkSlice i off (Nat.sub h k) (Nat.sub m k) 0) (mkSlice i (Nat.add off (Nat.mul k s)) (Nat.sub h k) (Nat.sub m k) 0)) = some u := h2
      obtain ⟨m, hmm, h3⟩ := O_some' h2
      obtain ⟨b, hb, h4⟩ := O_some' h3
      obtain ⟨a, ha, h5⟩ := O_some' h4
      rcases hx with ⟨-, hlc, rfl⟩ | ⟨hne, -⟩
      · obtain ⟨hr, h6, h7, h8⟩ := bounds3_run (P := P) (isSlice := true) (len := len) hl hh hm (Nat.le_refl _) hmm hb ha w
        rw [beq_iff] at h5
        by_cases hc : m = a
        · rw [decide_eq_true hc, B_true, mkSlice_eq] at h5
          obtain rfl := Option.some.inj h5
          subst hc
          refine ⟨.slice (some ⟨B0.block, B0.base + off, none⟩) (b - m) (m - m), by simp [Instr.sliceAt, Instr.slice, under_run hu, hr, sizeOf_run hs], ?_⟩
          simp only [V.rel]
          exact ⟨B0, hB, .inl ⟨by trivial, by show b - m ≤ m - m; omega, rfl⟩⟩
        · rw [decide_eq_false hc, B_false, mkSlice_eq] at h5
          obtain rfl := Option.some.inj h5
          refine ⟨.slice (some ((⟨B0.block, B0.base + off, none⟩ : Addr).add (a * s))) (b - a) (m - a), by simp [Instr.sliceAt, Instr.slice, under_run hu, hr, sizeOf_run hs, hc], ?_⟩
          simp only [V.rel]
          exact ⟨B0, hB, .inl ⟨by trivial, by show b - a ≤ m - a; omega, by rw [addr_add, Nat.add_assoc]; rfl⟩⟩
      · exact absurd rfl hne
    | succ e' =>
      have h2 : O (bound (some mx) 0 len) none (fun m => O (bound (some hi) 0 m) none fun h => O (bound lo 0 h) none fun k =>
        N len (mkSlice i off 0 0 (e' + 1)) fun _ =>
          B (Nat.beq m k) (mkSlice i off (Nat.sub h k) (Nat.sub m k) 0) (mkSlice i (Nat.add off (Nat.mul k s)) (Nat.sub h k) (Nat.sub m k) 0)) = some u := h2
      obtain ⟨m, hmm, h3⟩ := O_some' h2
      obtain ⟨b, hb, h4⟩ := O_some' h3
      obtain ⟨a, ha, h5⟩ := O_some' h4
      rcases hx with ⟨he, -⟩ | ⟨-, o, c, hlc, ho, hsz, rfl⟩
      · cases he
      · obtain ⟨hr, h6, h7, h8⟩ := bounds3_run (P := P) (isSlice := true) (len := len) hl hh hm hlc hmm hb ha w
        cases len with
        | zero =>
          have h5 : mkSlice i off 0 0 (e' + 1) = some u := h5
          rw [mkSlice_eq] at h5
          obtain rfl := Option.some.inj h5
          have e1 : m = 0 := by omega
          have e2 : b = 0 := by omega
          have e3 : a = 0 := by omega
          subst e1 e2 e3
          refine ⟨.slice (some ⟨B0.block, o, none⟩) 0 0, by simp [Instr.sliceAt, Instr.slice, under_run hu, hr, sizeOf_run hs], ?_⟩
          simp only [V.rel]
          refine ⟨B0, hB, .inr ⟨by simp, o, 0, Nat.le_refl _, fun hp => absurd hp (by omega), ?_, rfl⟩⟩
          have : 0 ≤ c * (e' + 1) := Nat.zero_le _
          omega
        | succ n =>
          have h5 : B (Nat.beq m a) (mkSlice i off (Nat.sub b a) (Nat.sub m a) 0) (mkSlice i (Nat.add off (Nat.mul a s)) (Nat.sub b a) (Nat.sub m a) 0) = some u := h5
          obtain rfl := ho (by omega)
          rw [beq_iff] at h5
          by_cases hc : m = a
          · rw [decide_eq_true hc, B_true, mkSlice_eq] at h5
            obtain rfl := Option.some.inj h5
            subst hc
            refine ⟨.slice (some ⟨B0.block, B0.base + off, none⟩) (b - m) (m - m), by simp [Instr.sliceAt, Instr.slice, under_run hu, hr, sizeOf_run hs], ?_⟩
            simp only [V.rel]
            exact ⟨B0, hB, .inl ⟨by trivial, by show b - m ≤ m - m; omega, rfl⟩⟩
          · rw [decide_eq_false hc, B_false, mkSlice_eq] at h5
            obtain rfl := Option.some.inj h5
            refine ⟨.slice (some ((⟨B0.block, B0.base + off, none⟩ : Addr).add (a * s))) (b - a) (m - a), by simp [Instr.sliceAt, Instr.slice, under_run hu, hr, sizeOf_run hs, hc], ?_⟩
            simp only [V.rel]
            exact ⟨B0, hB, .inl ⟨by trivial, by show b - a ≤ m - a; omega, by rw [addr_add, Nat.add_assoc]; rfl⟩⟩

theorem sliceArray_run {t e : TypeId} {n s : Nat} (hu : P.underlying t = some (.array n e)) (hs : sizeOf? P e = some s) {x : V} {X : Value} (hx : x.rel σ X) {lo hi : Option V} {Lo Hi : Option Value}
    (hl : OptRel σ lo Lo) (hh : OptRel σ hi Hi) {u : V} (h : sliceArrayV n s x lo hi = some u) (w : World) : ∃ Y, (Instr.sliceAt t X Lo Hi none).run P w = .ok Y w ∧ u.rel σ Y := by
  obtain ⟨i, off, rfl, h2⟩ := onPtr_some h
  obtain ⟨b, hb, h3⟩ := O_some' h2
  obtain ⟨a, ha, h4⟩ := O_some' h3
  simp only [V.rel] at hx
  obtain ⟨B0, hB, rfl⟩ := hx
  obtain ⟨hr, h5, h6⟩ := bounds_run (P := P) (isSlice := false) hl hh (Nat.le_refl _) (Nat.le_refl n) hb ha w
  rw [beq_iff] at h4
  by_cases hc : n = a
  · rw [decide_eq_true hc, B_true, mkSlice_eq] at h4
    obtain rfl := Option.some.inj h4
    subst hc
    refine ⟨.slice (some ⟨B0.block, B0.base + off, none⟩) (b - n) (n - n), by simp [Instr.sliceAt, under_run hu, hr, sizeOf_run hs, Instr.sureAddr], ?_⟩
    simp only [V.rel]
    exact ⟨B0, hB, .inl ⟨by trivial, by show b - n ≤ n - n; omega, rfl⟩⟩
  · rw [decide_eq_false hc, B_false, mkSlice_eq] at h4
    obtain rfl := Option.some.inj h4
    refine ⟨.slice (some ((⟨B0.block, B0.base + off, none⟩ : Addr).add (a * s))) (b - a) (n - a), by simp [Instr.sliceAt, under_run hu, hr, sizeOf_run hs, hc, Instr.sureAddr], ?_⟩
    simp only [V.rel]
    exact ⟨B0, hB, .inl ⟨by trivial, by show b - a ≤ n - a; omega, by rw [addr_add, Nat.add_assoc]; rfl⟩⟩

end
end Go.Proofs.YteicddmekhdjeaaGreatDoor.Eng

/- Building values; all operations of the first kind together. -/
namespace Go.Proofs.YteicddmekhdjeaaGreatDoor.Eng
variable [Syms]

section
variable {P : Program} {σ : Names} {ro : Lo}

theorem splice_rel {l vs : List V} {xs ys : List Value} (hl : relL σ l xs) (hv : relL σ vs ys) (off : Nat) : relL σ (splice l off vs) (xs.take off ++ (ys ++ xs.drop (off + ys.length))) := by
  unfold splice
  rw [hv.length]
  exact (hl.take off).append (hv.append (hl.drop _))

/-- What 'fill' makes of one part. -/
theorem fold_splice (ys : List Value) : ∀ (j : Nat) (off : Nat) (cells : Array Value), off + j + ys.length ≤ cells.size →
    ((ys.zipIdx j).foldl (fun cs (p : Value × Nat) => cs.setIfInBounds (off + p.2) p.1) cells).toList = cells.toList.take (off + j) ++ (ys ++ cells.toList.drop (off + j + ys.length)) := by
  induction ys with
  | nil => intro j off cells h; simp
  | cons y ys ih =>
    intro j off cells h
    simp only [List.zipIdx_cons, List.foldl_cons]
    have hlen : off + j < cells.size := by simp at h; omega
    rw [ih (j + 1) off (cells.setIfInBounds (off + j) y) (by simp at h ⊢; omega)]
    have e1 : (cells.setIfInBounds (off + j) y).toList = cells.toList.set (off + j) y := by simp
    rw [e1]
    have e2 : off + (j + 1) = off + j + 1 := by omega
    rw [e2]
    have hl : off + j < cells.toList.length := by simpa using hlen
    rw [List.take_succ_eq_append_getElem (by simpa using hl), List.take_set_of_le (Nat.le_refl _), List.drop_set_of_lt (by omega)]
    simp [Nat.add_assoc, Nat.add_comm 1]

theorem fill_run {place : Nat → Option (Nat × Nat)} {tm : T V} {ρ : Operand → Value} :
    ∀ {parts : List (Nat × Operand)} {es : List (Nat × Nat × E)} {cells : List V} {u : List V} {C : Array Value},
      (∀ p ∈ parts, ORel σ ro tm ρ p.2) → (∀ (p : List (Nat × Nat × E)), p = es → True) →
      parts.length = es.length → (∀ i (h : i < parts.length) (h' : i < es.length), ∃ o s, place parts[i].1 = some (o, s) ∧ es[i] = (o, s, evC ro parts[i].2)) →
      relL σ cells C.toList → fillV tm cells es = some u →
      ∃ D, Instr.fill place C (parts.map fun p => (p.1, ρ p.2)) = some D ∧ relL σ u D.toList
  | [], [], cells, u, C, _, _, _, _, hc, h => by
    obtain rfl := Option.some.inj h
    exact ⟨C, rfl, hc⟩
  | [], _ :: _, _, _, _, _, _, hl, _, _, _ => by simp at hl
  | _ :: _, [], _, _, _, _, _, hl, _, _, _ => by simp at hl
  | p :: ps, e :: es, cells, u, C, hr, _, hl, hp, hc, h => by
    obtain ⟨o, s, h1, h2⟩ := hp 0 (by simp) (by simp)
    simp only [List.getElem_cons_zero] at h1 h2
    subst h2
    simp only [fillV] at h
    obtain ⟨v, hv, h3⟩ := O_some' h
    obtain ⟨hb1, h4⟩ := B_some h3
    obtain ⟨hb2, h5⟩ := B_some h4
    rw [forceL_eq] at h5
    rw [beq_iff] at hb1
    rw [ble_iff] at hb2
    have hb1 : v.cells.length = s := by simpa using hb1
    have hb2 : o + s ≤ cells.length := by simpa using hb2
    have hv' := hr p (by simp) v hv
    have hcl := rel_cells hv'
    have n1 := hcl.length
    have n2 := hc.length
    have n1' : (ρ p.2).cells.size = s := by rw [← Array.length_toList, n1, hb1]
    have n2' : C.size = cells.length := by rw [← Array.length_toList, n2]
    have hsp := splice_rel hc hcl o
    have hfold := fold_splice (ρ p.2).cells.toList 0 o C (by simp only [Array.length_toList]; omega)
    simp only [Nat.add_zero] at hfold
    rw [← hfold] at hsp
    obtain ⟨D, hD, hrel⟩ := fill_run (place := place) (parts := ps) (es := es) (fun q hq => hr q (by simp [hq])) (fun _ _ => trivial) (by simpa using hl)
      (fun i hi hi' => by
        obtain ⟨o', s', e1, e2⟩ := hp (i + 1) (by simp; omega) (by simp; omega)
        exact ⟨o', s', by simpa using e1, by simpa using e2⟩)
      (C := ((ρ p.2).cells.zipIdx.foldl (fun cs (c, j) => cs.setIfInBounds (o + j) c) C))
      (by
        have : ((ρ p.2).cells.zipIdx.foldl (fun cs (c, j) => cs.setIfInBounds (o + j) c) C).toList = (((ρ p.2).cells.toList.zipIdx 0).foldl (fun cs (p : Value × Nat) => cs.setIfInBounds (o + p.2) p.1) C).toList := by
          rw [← Array.foldl_toList]; simp
        rw [this]; exact hsp) h5
    refine ⟨D, ?_, hrel⟩
    simp only [List.map_cons, Instr.fill, h1]
    rw [if_neg (by simp [n1', n2']; omega)]
    exact hD

theorem partsC_spec {R : Type} {place : Nat → Option (Nat × Nat)} {bad : R} : ∀ (parts : List (Nat × Operand)) (c : List (Nat × Nat × E) → R),
    partsC ro place bad parts c = bad ∨ ∃ es, partsC ro place bad parts c = c es ∧ parts.length = es.length ∧
      (∀ i (h : i < parts.length) (h' : i < es.length), ∃ o s, place parts[i].1 = some (o, s) ∧ es[i] = (o, s, evC ro parts[i].2))
  | [], c => .inr ⟨[], rfl, rfl, fun i h => by simp at h⟩
  | (i, x) :: rest, c => by
    simp only [partsC]
    split
    · rename_i off size hp
      simp only [forceN_eq, forceE_eq]
      rcases partsC_spec rest (fun l => c ((off, size, evC ro x) :: l)) with h | ⟨es, h1, h2, h3⟩
      · exact .inl h
      · refine .inr ⟨(off, size, evC ro x) :: es, h1, by simp [h2], fun j hj hj' => ?_⟩
        cases j with
        | zero => exact ⟨off, size, by simpa using hp, by simp⟩
        | succ j => obtain ⟨o, s, e1, e2⟩ := h3 j (by simpa using hj) (by simpa using hj'); exact ⟨o, s, by simpa using e1, by simpa using e2⟩
    · exact .inl rfl

end
end Go.Proofs.YteicddmekhdjeaaGreatDoor.Eng

/- All operations that look at no memory and make none. -/
namespace Go.Proofs.YteicddmekhdjeaaGreatDoor.Eng
variable [Syms]

section
variable {P : Program} {σ : Names} {ro : Lo}

theorem mapM_run (w : World) : ∀ (l : List Field), (l.all fun f => (sizeOf? P f.type).isSome) = true →
    (l.mapM fun f => do pure (f.offset, ← sizeOf f.type) : Sem (List (Nat × Nat))).run P w = .ok (l.map fun f => (f.offset, (sizeOf? P f.type).getD 0)) w
  | [], _ => rfl
  | f :: l, h => by
    simp only [List.all_cons, Bool.and_eq_true] at h
    obtain ⟨n, hn⟩ := Option.isSome_iff_exists.1 h.1
    rw [List.mapM_cons]
    simp only [Sem.run_bind, sizeOf_run hn, Result.andThen_ok, Sem.run_pure, mapM_run w l h.2, List.map_cons, hn, Option.getD_some]

theorem zero_cells {t : TypeId} {z : V} (h : zero? P t = some z) (w : World) : ∃ x, (zeroValue t).run P w = .ok x w ∧ relL σ z.cells x.cells.toList :=
  let ⟨x, hx, hr⟩ := zero_run (σ := σ) h w
  ⟨x, hx, rel_cells hr⟩

theorem build_run {t : TypeId} {parts : Array (Nat × Operand)} {f : T V → Option V} (hk : kBuild P ro t parts.toList = .pure f) {tm : T V} {u : V} (hf : f tm = some u)
    {ρ : Operand → Value} (hr : ∀ p ∈ parts.toList, ORel σ ro tm ρ p.2) (w : World) : ∃ Y, (Instr.build t (parts.map fun (i, x) => (i, ρ x))).run P w = .ok Y w ∧ u.rel σ Y := by
  unfold kBuild at hk
  split at hk
  · cases hk
  rename_i z hz
  obtain ⟨zx, hzx, hzr⟩ := zero_cells (P := P) (σ := σ) hz w
  split at hk
  · rename_i fs hu
    split at hk
    · rename_i hall
      rcases partsC_spec (ro := ro) (place := placeOf P fs) (bad := Kind.bad) parts.toList (fun l => forceL z.cells fun z => .pure fun tm => buildV z l tm) with hb | ⟨es, h1, h2, h3⟩
      · rw [hb] at hk; cases hk
      · rw [h1] at hk
        simp only [forceL_eq, Kind.pure.injEq] at hk
        subst hk
        obtain ⟨l, hl, h4⟩ := O_some' hf
        obtain rfl := Option.some.inj h4
        let places : Array (Nat × Nat) := fs.map fun f => (f.offset, (sizeOf? P f.type).getD 0)
        have hplace : ∀ i o s, placeOf P fs i = some (o, s) → places[i]? = some (o, s) := by
          intro i o s hp
          unfold placeOf at hp
          split at hp
          · rename_i fd hfd
            split at hp
            · rename_i n hn
              simp only [Option.some.injEq, Prod.mk.injEq] at hp
              simp [places, hfd, hn, hp]
            · cases hp
          · cases hp
        obtain ⟨D, hD, hrel⟩ := fill_run (σ := σ) (ro := ro) (place := fun i => places[i]?) (ρ := ρ) hr (fun _ _ => trivial) h2
          (fun i hi hi' => by obtain ⟨o, s, e1, e2⟩ := h3 i hi hi'; exact ⟨o, s, hplace _ _ _ e1, e2⟩) hzr hl
        have hm : (fs.mapM fun f => do pure (f.offset, ← sizeOf f.type) : Sem (Array (Nat × Nat))).run P w = .ok places w := by
          rw [Array.mapM_eq_mapM_toList]
          simp only [Sem.run_map, mapM_run w fs.toList hall, Result.andThen_ok]
          congr 1
          apply Array.ext'
          simp [places]
        refine ⟨.agg D, ?_, by simp only [V.rel]; exact ⟨D, rfl, hrel⟩⟩
        unfold Instr.build
        simp only [Sem.run_bind, hzx, Result.andThen_ok, under_run hu]
        have hm' := hm
        simp only [hm, Result.andThen_ok]
        have hD' : Instr.fill (fun i => places[i]?) zx.cells (parts.map fun x => (x.1, ρ x.2)).toList = some D := by
          rw [← hD]; simp
        simp only [hD', Sem.run_pure]
    · cases hk
  · rename_i n e hu
    split at hk
    · rename_i s hs
      rcases partsC_spec (ro := ro) (place := fun i => some (i * s, s)) (bad := Kind.bad) parts.toList (fun l => forceL z.cells fun z => .pure fun tm => buildV z l tm) with hb | ⟨es, h1, h2, h3⟩
      · rw [hb] at hk; cases hk
      · rw [h1] at hk
        simp only [forceL_eq, Kind.pure.injEq] at hk
        subst hk
        obtain ⟨l, hl, h4⟩ := O_some' hf
        obtain rfl := Option.some.inj h4
        obtain ⟨D, hD, hrel⟩ := fill_run (σ := σ) (ro := ro) (place := fun i => some (i * s, s)) (ρ := ρ) hr (fun _ _ => trivial) h2 h3 hzr hl
        refine ⟨.agg D, ?_, by simp only [V.rel]; exact ⟨D, rfl, hrel⟩⟩
        have hD' : Instr.fill (fun i => some (i * s, s)) zx.cells (parts.map fun x => (x.1, ρ x.2)).toList = some D := by
          rw [← hD]; simp
        unfold Instr.build
        simp only [Sem.run_bind, hzx, Result.andThen_ok, under_run hu, sizeOf_run hs, hD', Sem.run_pure]
    · cases hk
  · cases hk

theorem minV_run : ∀ {l : List V} {xs : List Value} {v : V} {x : Value} {u : V}, v.rel σ x → relL σ l xs → minV v l = some u → ∀ w, ∃ y, (xs.foldlM Builtin.min2 x).run P w = .ok y w ∧ u.rel σ y
  | [], xs, v, x, u, hv, hl, h, w => by
    simp only [relL] at hl; subst hl
    obtain rfl := Option.some.inj h
    exact ⟨x, rfl, hv⟩
  | a :: l, xs, v, x, u, hv, hl, h, w => by
    simp only [relL] at hl
    obtain ⟨y, ys, rfl, ha, hs⟩ := hl
    simp only [minV] at h
    obtain ⟨k, m, rfl, h2⟩ := onInt_some h
    obtain ⟨k', n, rfl, h3⟩ := onInt_some h2
    simp only [V.rel] at hv ha
    subst hv ha
    rw [ltI_eq] at h3
    by_cases hlt : n < m
    · rw [decide_eq_true hlt, B_true] at h3
      obtain ⟨y, hy, hr⟩ := minV_run (x := .int k n) (by simp only [V.rel]) hs h3 w
      exact ⟨y, by simp [List.foldlM_cons, Builtin.min2, hlt, hy], hr⟩
    · rw [decide_eq_false hlt, B_false] at h3
      obtain ⟨y, hy, hr⟩ := minV_run (x := .int k m) (by simp only [V.rel]) hs h3 w
      exact ⟨y, by simp [List.foldlM_cons, Builtin.min2, hlt, hy], hr⟩

theorem maxV_run : ∀ {l : List V} {xs : List Value} {v : V} {x : Value} {u : V}, v.rel σ x → relL σ l xs → maxV v l = some u → ∀ w, ∃ y, (xs.foldlM Builtin.max2 x).run P w = .ok y w ∧ u.rel σ y
  | [], xs, v, x, u, hv, hl, h, w => by
    simp only [relL] at hl; subst hl
    obtain rfl := Option.some.inj h
    exact ⟨x, rfl, hv⟩
  | a :: l, xs, v, x, u, hv, hl, h, w => by
    simp only [relL] at hl
    obtain ⟨y, ys, rfl, ha, hs⟩ := hl
    simp only [maxV] at h
    obtain ⟨k, m, rfl, h2⟩ := onInt_some h
    obtain ⟨k', n, rfl, h3⟩ := onInt_some h2
    simp only [V.rel] at hv ha
    subst hv ha
    rw [ltI_eq] at h3
    by_cases hlt : m < n
    · rw [decide_eq_true hlt, B_true] at h3
      obtain ⟨y, hy, hr⟩ := maxV_run (x := .int k n) (by simp only [V.rel]) hs h3 w
      exact ⟨y, by simp [List.foldlM_cons, Builtin.max2, hlt, hy], hr⟩
    · rw [decide_eq_false hlt, B_false] at h3
      obtain ⟨y, hy, hr⟩ := maxV_run (x := .int k m) (by simp only [V.rel]) hs h3 w
      exact ⟨y, by simp [List.foldlM_cons, Builtin.max2, hlt, hy], hr⟩

theorem convInt_run {s d : TypeId} {ds : TypeDesc} {k : IntKind} (hs : P.underlying s = some ds) (hd : P.underlying d = some (.int k)) {x : V} {X : Value} (hx : x.rel σ X) {u : V} (h : toInt k x = some u) (w : World) :
    ∃ Y, (convert s d X).run P w = .ok Y w ∧ u.rel σ Y := by
  obtain ⟨k', n, rfl, h2⟩ := onInt_some h
  rw [mkWrap_eq] at h2
  obtain rfl := Option.some.inj h2
  simp only [V.rel] at hx; subst hx
  exact ⟨_, by simp [convert, under_run hs, under_run hd, Conv.intToInt]; rfl, by simp only [V.rel]⟩

theorem convStr_run {s d : TypeId} (hs : P.underlying s = some .string) (hd : P.underlying d = some .string) {x : V} {X : Value} (hx : x.rel σ X) {u : V} (h : toStr x = some u) (w : World) :
    ∃ Y, (convert s d X).run P w = .ok Y w ∧ u.rel σ Y := by
  obtain ⟨l, rfl, h2⟩ := onStr_some h
  obtain rfl := Option.some.inj h2
  have hx' := hx
  simp only [V.rel] at hx
  obtain ⟨b, rfl, hb⟩ := hx
  exact ⟨.string b, by simp [convert, under_run hs, under_run hd], hx'⟩

theorem lenStr_run {t ty : TypeId} {ts : Array TypeId} (ht : ts[0]? = some t) (hu : P.underlying t = some .string) {x : V} {X : Value} (hx : x.rel σ X) {u : V} (h : lenStrV x = some u) (w : World) :
    ∃ Y, (Builtin.len_ ts ty #[X]).run P w = .ok Y w ∧ u.rel σ Y := by
  obtain ⟨l, rfl, h2⟩ := onStr_some h
  rw [mkInt_eq] at h2
  obtain rfl := Option.some.inj h2
  simp only [V.rel] at hx
  obtain ⟨b, rfl, hb⟩ := hx
  have : b.size = l.length := by rw [Lib.size_eq, hb]
  exact ⟨.int .i64 (l.length : Int), by simp [Builtin.len_, ht, under_run hu, goInt, this], by simp only [V.rel]; simp⟩

theorem lenSlice_run {t e ty : TypeId} {ts : Array TypeId} (ht : ts[0]? = some t) (hu : P.underlying t = some (.slice e)) {x : V} {X : Value} (hx : x.rel σ X) {u : V} (h : lenSliceV x = some u) (w : World) :
    ∃ Y, (Builtin.len_ ts ty #[X]).run P w = .ok Y w ∧ u.rel σ Y := by
  rcases onSlice_some h with ⟨rfl, h2⟩ | ⟨i, off, len, cap, es, rfl, h2⟩
  · obtain rfl := Option.some.inj h2
    simp only [V.rel] at hx; subst hx
    exact ⟨.int .i64 0, by simp [Builtin.len_, ht, under_run hu, goInt], by simp only [V.rel]; rfl⟩
  · obtain rfl := Option.some.inj h2
    simp only [V.rel] at hx
    obtain ⟨b, -, hx⟩ := hx
    rcases hx with ⟨-, -, rfl⟩ | ⟨-, o, c, -, -, -, rfl⟩ <;> exact ⟨.int .i64 (len : Int), by simp [Builtin.len_, ht, under_run hu, goInt], by simp only [V.rel]; rfl⟩

theorem lenArray_run {t n : Nat} {e ty : TypeId} {ts : Array TypeId} (ht : ts[0]? = some t) (hu : P.underlying t = some (.array n e)) (X : Value) (w : World) :
    (Builtin.len_ ts ty #[X]).run P w = .ok (.int .i64 (n : Int)) w := by
  simp [Builtin.len_, ht, under_run hu, goInt]
theorem lenPointer_run {t a n : Nat} {e ty : TypeId} {ts : Array TypeId} (ht : ts[0]? = some t) (hu : P.underlying t = some (.pointer a)) (ha : P.underlying a = some (.array n e)) (X : Value) (w : World) :
    (Builtin.len_ ts ty #[X]).run P w = .ok (.int .i64 (n : Int)) w := by
  simp [Builtin.len_, ht, under_run hu, under_run ha, goInt]

theorem assert_run {xt a : TypeId} {ok : Bool} (hi : isIface P a = some false) {x : V} {X : Value} (hx : x.rel σ X) {u : V} (h : assertV a (zero? P a) ok x = some u) (w : World) :
    ∃ Y, (Instr.typeAssert X xt a ok).run P w = .ok Y w ∧ u.rel σ Y := by
  have hnot : ∃ d, P.underlying a = some d ∧ ∀ ms, d ≠ .interface ms := by
    unfold isIface at hi
    split at hi
    · cases hi
    · rename_i d hne hd
      exact ⟨d, hd, fun ms e => hne ms e⟩
    · cases hi
  obtain ⟨d, hd, hne⟩ := hnot
  have two : ∀ {z : V} {Z : Value} {b : Bool}, z.rel σ Z → (V.tuple [z, .bool b]).rel σ (.tuple #[Z, .bool b]) := by
    intro z Z b hz
    simp only [V.rel]
    exact ⟨_, rfl, relL_cons hz (relL_cons (by simp only [V.rel]) relL_nil)⟩
  rcases onIface_some h with ⟨rfl, h2⟩ | ⟨t, v, rfl, h2⟩
  · simp only [V.rel] at hx; subst hx
    obtain ⟨hok, h3⟩ := B_some h2
    obtain ⟨z, hz, h4⟩ := O_some' h3
    obtain rfl := Option.some.inj h4
    subst hok
    obtain ⟨Z, hZ, hr⟩ := zero_run (σ := σ) hz w
    refine ⟨.tuple #[Z, .bool false], ?_, two hr⟩
    unfold Instr.typeAssert
    simp only [Sem.run_bind, under_run hd, Result.andThen_ok]
    cases d <;> first | exact absurd rfl (hne _) | simp [hZ]
  · simp only [V.rel] at hx
    obtain ⟨Y, rfl, hY⟩ := hx
    have h2 : B (Nat.beq t a) (B ok (some (.tuple [v, .bool true])) (some v)) (B ok (O (zero? P a) none fun z => some (.tuple [z, .bool false])) none) = some u := h2
    rw [beq_iff] at h2
    by_cases ht : t = a
    · rw [decide_eq_true ht, B_true] at h2
      cases ok with
      | true =>
        obtain rfl := Option.some.inj h2
        refine ⟨.tuple #[Y, .bool true], ?_, two hY⟩
        unfold Instr.typeAssert
        simp only [Sem.run_bind, under_run hd, Result.andThen_ok]
        cases d <;> first | exact absurd rfl (hne _) | simp [ht]
      | false =>
        obtain rfl := Option.some.inj h2
        refine ⟨Y, ?_, hY⟩
        unfold Instr.typeAssert
        simp only [Sem.run_bind, under_run hd, Result.andThen_ok]
        cases d <;> first | exact absurd rfl (hne _) | simp [ht]
    · rw [decide_eq_false ht, B_false] at h2
      obtain ⟨hok, h3⟩ := B_some h2
      obtain ⟨z, hz, h4⟩ := O_some' h3
      obtain rfl := Option.some.inj h4
      subst hok
      obtain ⟨Z, hZ, hr⟩ := zero_run (σ := σ) hz w
      refine ⟨.tuple #[Z, .bool false], ?_, two hr⟩
      unfold Instr.typeAssert
      simp only [Sem.run_bind, under_run hd, Result.andThen_ok]
      cases d <;> first | exact absurd rfl (hne _) | simp [ht, hZ]

end
end Go.Proofs.YteicddmekhdjeaaGreatDoor.Eng

/- Each kind of operation keeps its word: the first kind. -/
namespace Go.Proofs.YteicddmekhdjeaaGreatDoor.Eng
variable [Syms]

section
variable {P : Program} {σ : Names} {ro : Lo}

theorem run1_some {tm : T V} {e : E} {f : V → Option V} {u : V} (h : run1 tm e f = some u) : ∃ v, e.run tm = some v ∧ f v = some u := O_some' h
theorem run2_some {tm : T V} {a b : E} {f : V → V → Option V} {u : V} (h : run2 tm a b f = some u) : ∃ v w, a.run tm = some v ∧ b.run tm = some w ∧ f v w = some u := by
  obtain ⟨v, hv, h2⟩ := O_some' h
  obtain ⟨w, hw, h3⟩ := O_some' h2
  exact ⟨v, w, hv, hw, h3⟩
theorem runO_some {tm : T V} {x : Option Operand} {f : Option V → Option V} {u : V} {ρ : Operand → Value} (hr : ∀ y, x = some y → ORel σ ro tm ρ y) (h : runO tm (x.map (evC ro)) f = some u) :
    ∃ v, OptRel σ v (x.map ρ) ∧ f v = some u := by
  cases x with
  | none => exact ⟨none, rfl, h⟩
  | some y =>
    obtain ⟨v, hv, h2⟩ := O_some' (x := (evC ro y).run tm) h
    exact ⟨some v, ⟨ρ y, rfl, hr y rfl v hv⟩, h2⟩

theorem isIface_false {t : TypeId} (h : isIface P t = some false) : ∃ d, P.underlying t = some d ∧ ∀ ms, d ≠ .interface ms := by
  unfold isIface at h
  split at h
  · cases h
  · rename_i d hne hd
    exact ⟨d, hd, fun ms e => hne ms e⟩
  · cases h

theorem mem_ops {op : Op} {x : Operand} (h : x ∈ op.operands) : x ∈ op.operands.toList := Array.mem_toList_iff.2 h

theorem arrayAt_run {t e : TypeId} {n : Nat} (hu : P.underlying t = some (.array n e)) {x u : V} {X : Value} (hx : x.rel σ X) (h : arrayAtV n x = some u) (w : World) : ∃ Y, (Instr.arrayAt t X).run P w = .ok Y w ∧ u.rel σ Y := by
  cases x with
  | nilslice => cases h
  | slice i off len cap es =>
    have h : B (andB (Nat.blt 0 n) (Nat.ble n len)) (mkPtr i off) none = some u := h
    obtain ⟨hc, h2⟩ := B_some h
    rw [andB_eq, Bool.and_eq_true] at hc
    have h1 := blt_true hc.1
    have h3 := Nat.le_of_ble_eq_true hc.2
    unfold mkPtr at h2
    rw [forceN_eq] at h2
    obtain rfl := Option.some.inj h2
    simp only [V.rel] at hx
    obtain ⟨b, hb, hx⟩ := hx
    rcases hx with ⟨-, -, rfl⟩ | ⟨-, o, c, hlc, ho, -, rfl⟩
    · exact ⟨.pointer (some ⟨b.block, b.base + off, none⟩), by simp [Instr.arrayAt, under_run hu, Nat.not_lt.2 h3], by simp only [V.rel]; exact ⟨b, hb, rfl⟩⟩
    · have := ho (by omega)
      subst this
      exact ⟨.pointer (some ⟨b.block, b.base + off, none⟩), by simp [Instr.arrayAt, under_run hu, Nat.not_lt.2 h3], by simp only [V.rel]; exact ⟨b, hb, rfl⟩⟩
  | _ => cases h

theorem onIfaceO_some {x : V} {a : Option V} {c : TypeId → V → Option V} {u : V} (h : x.onIface none a c = some u) : (x = .niliface ∧ a = some u) ∨ ∃ t v, x = .iface t v ∧ c t v = some u := by
  cases x <;> first | exact .inl ⟨rfl, h⟩ | exact .inr ⟨_, _, rfl, h⟩ | cases h

/-- An interface value against nil. -/
theorem nilEq_run {bop : BinOp} {t : TypeId} {x y : Operand} {want : Bool} (hw : nilWant P bop t x y = some want) {v v' : V} {X Y : Value} (hx : v.rel σ X) (hy : v'.rel σ Y) {u : V} (h : nilEqV want v v' = some u) (w : World) :
    ∃ Z, (do eqGuard bop t x y X Y; binOp bop t X Y : Sem Value).run P w = .ok Z w ∧ u.rel σ Z := by
  unfold nilWant at hw
  split at hw
  · rename_i ms f g w0 hu hb
    have hc : (isConst x || isConst y) = true ∧ w0 = some want := by
      cases h1 : isConst x <;> cases h2 : isConst y <;> rw [h1, h2] at hw <;> first | cases hw; done | exact ⟨rfl, hw⟩
    obtain ⟨hc, rfl⟩ := hc
    have key : ∀ r : Bool, (∀ d, (Op.equalIn (d + 1) t X Y).run P w = .ok r w) → (eqGuard bop t x y X Y).run P w = .ok () w → (X = .nilIface ∨ Y = .nilIface) → ((∃ a b, X = .iface a b) ∨ X = .nilIface) → some u = mkBool (r == want) →
        ∃ Z, (do eqGuard bop t x y X Y; binOp bop t X Y : Sem Value).run P w = .ok Z w ∧ u.rel σ Z := by
      intro r he hg hn hX hm
      rw [mkBool_eq] at hm
      obtain rfl := Option.some.inj hm
      have he' : (Op.equal t X Y).run P w = .ok r w := he 9999
      have hshape : (binOp .eql t X Y).run P w = .ok (.bool r) w ∧ (binOp .neq t X Y).run P w = .ok (.bool !r) w := by
        rcases hX with ⟨a, b, rfl⟩ | rfl
        · exact ⟨by simp [binOp, he'], by simp [binOp, he']⟩
        · exact ⟨by simp [binOp, he'], by simp [binOp, he']⟩
      cases bop <;> simp only [binC, Bin.mk.injEq, reduceCtorEq, and_false] at hb
      case eql =>
        obtain ⟨-, -, e⟩ := hb
        obtain rfl := Option.some.inj e
        exact ⟨.bool r, by simp [hg, hshape.1], by simp only [V.rel]; simp⟩
      case neq =>
        obtain ⟨-, -, e⟩ := hb
        obtain rfl := Option.some.inj e
        exact ⟨.bool !r, by simp [hg, hshape.2], by simp only [V.rel]; cases r <;> rfl⟩
    have h : v.onIface none (v'.onIface none (mkBool (true == want)) fun _ _ => mkBool (false == want)) (fun _ _ => v'.onIface none (mkBool (false == want)) fun _ _ => none) = some u := h
    rcases onIfaceO_some h with ⟨rfl, h1⟩ | ⟨t1, v1, rfl, h1⟩
    · simp only [V.rel] at hx
      subst hx
      rcases onIfaceO_some h1 with ⟨rfl, h2⟩ | ⟨t2, v2, rfl, h2⟩
      · simp only [V.rel] at hy
        subst hy
        refine key true (fun d => by simp [Op.equalIn, under_run hu]) ?_ (.inl rfl) (.inr rfl) h2.symm
        unfold eqGuard
        cases x <;> cases y <;> first | (cases hc; done) | (cases bop <;> rfl)
      · simp only [V.rel] at hy
        obtain ⟨Z, rfl, -⟩ := hy
        exact key false (fun d => by simp [Op.equalIn, under_run hu]) (by unfold eqGuard; split <;> rfl) (.inl rfl) (.inr rfl) h2.symm
    · simp only [V.rel] at hx
      obtain ⟨Z, rfl, -⟩ := hx
      rcases onIfaceO_some h1 with ⟨rfl, h2⟩ | ⟨t2, v2, rfl, h2⟩
      · simp only [V.rel] at hy
        subst hy
        exact key false (fun d => by simp [Op.equalIn, under_run hu]) (by unfold eqGuard; split <;> rfl) (.inr rfl) (.inl ⟨_, _, rfl⟩) h2.symm
      · cases h2
  · cases hw

theorem pure_sound {op : Op} {f : T V → Option V} (hk : kind P ro op = .pure f) {tm : T V} {u : V} (hf : f tm = some u) {ρ : Operand → Value}
    (hr : ∀ x ∈ op.operands.toList, ORel σ ro tm ρ x) (o : Oper) (ho : o.op = op) (w : World) : ∃ Y, (execOp ρ o).run P w = .ok (.value Y) w ∧ u.rel σ Y := by
  have lift : ∀ {s : Sem Value}, (∃ Y, s.run P w = .ok Y w ∧ u.rel σ Y) → ∃ Y, (do pure (.value (← s)) : Sem Next).run P w = .ok (.value Y) w ∧ u.rel σ Y := by
    rintro s ⟨Y, hY, hu⟩
    exact ⟨Y, by simp [hY], hu⟩
  unfold execOp
  rw [ho]
  cases op with
  | move x =>
    simp only [kind, forceE_eq, Kind.pure.injEq] at hk
    subst hk
    exact ⟨ρ x, rfl, hr x (by simp [Op.operands]) u hf⟩
  | assign x =>
    simp only [kind, forceE_eq, Kind.pure.injEq] at hk
    subst hk
    exact ⟨ρ x, rfl, hr x (by simp [Op.operands]) u hf⟩
  | pick c a b =>
    simp only [kind, forceE_eq, Kind.pure.injEq] at hk
    subst hk
    obtain ⟨v, hv, h2⟩ := O_some' hf
    obtain ⟨t, rfl, h3⟩ := onBool_some h2
    have hc := hr c (by simp [Op.operands]) _ hv
    simp only [V.rel] at hc
    cases t with
    | true => exact ⟨ρ a, by simp [hc, asBool], hr a (by simp [Op.operands]) u h3⟩
    | false => exact ⟨ρ b, by simp [hc, asBool], hr b (by simp [Op.operands]) u h3⟩
  | build t parts =>
    simp only [kind] at hk
    exact lift (build_run hk hf (fun p hp => hr p.2 (by simp only [Op.operands]; exact List.mem_map.2 ⟨p, hp, rfl⟩)) w)
  | nilCheck x =>
    simp only [kind, forceE_eq, Kind.pure.injEq] at hk
    subst hk
    obtain ⟨v, hv, h2⟩ := run1_some hf
    have hx := hr x (by simp [Op.operands]) v hv
    unfold nilCheckV at h2
    split at h2 <;> try (cases h2; done)
    all_goals (obtain rfl := Option.some.inj h2)
    all_goals (have hx' := hx; simp only [V.rel] at hx; dsimp only)
    · obtain ⟨b, -, e⟩ := hx; rw [e] at hx' ⊢; exact ⟨_, rfl, hx'⟩
    · obtain ⟨y, e, -⟩ := hx; rw [e] at hx' ⊢; exact ⟨_, rfl, hx'⟩
    · obtain ⟨a', c', e, -, -⟩ := hx; rw [e] at hx' ⊢; exact ⟨_, rfl, hx'⟩
  | binOp bop t x y yt =>
    simp only [kind, kBinOp, forceE_eq] at hk
    cases hpw : ptrWant P bop t with
    | some want => rw [hpw] at hk; cases hk
    | none =>
    rw [hpw] at hk
    cases hnw : nilWant P bop t x y with
    | some want =>
      rw [hnw] at hk
      have hk : Kind.pure (fun tm => run2 tm (evC ro x) (evC ro y) (nilEqV want)) = .pure f := hk
      simp only [Kind.pure.injEq] at hk
      subst hk
      obtain ⟨v, v', hv, hv', h2⟩ := run2_some hf
      exact lift (nilEq_run hnw (hr x (by simp [Op.operands]) v hv) (hr y (by simp [Op.operands]) v' hv') h2 w)
    | none =>
    rw [hnw] at hk
    have hk : Kind.pure (fun tm => run2 tm (evC ro x) (evC ro y) (binV (binC bop) (P.underlying t) (eqAggs P t))) = .pure f := by
      rw [← hk]; cases binC bop <;> rfl
    simp only [Kind.pure.injEq] at hk
    subst hk
    obtain ⟨v, v', hv, hv', h2⟩ := run2_some hf
    exact lift (bin_run (hr x (by simp [Op.operands]) v hv) (hr y (by simp [Op.operands]) v' hv') h2 x y w)
  | unOp uop t x =>
    simp only [kind, forceE_eq, Kind.pure.injEq] at hk
    subst hk
    obtain ⟨v, hv, h2⟩ := run1_some hf
    exact lift (un_run (hr x (by simp [Op.operands]) v hv) h2 w)
  | convert s d x =>
    simp only [kind, kConvert] at hk
    have hx := hr x (by simp [Op.operands])
    split at hk
    · rename_i ds k hs hd
      simp only [forceE_eq, Kind.pure.injEq] at hk
      subst hk
      obtain ⟨v, hv, h2⟩ := run1_some hf
      exact lift (convInt_run hs hd (hx v hv) h2 w)
    · rename_i hs hd
      simp only [forceE_eq, Kind.pure.injEq] at hk
      subst hk
      obtain ⟨v, hv, h2⟩ := run1_some hf
      exact lift (convStr_run hs hd (hx v hv) h2 w)
    · split at hk <;> simp at hk
    · split at hk <;> simp at hk
    · split at hk <;> simp at hk
    · cases hk
  | makeInterface t x =>
    simp only [kind] at hk
    split at hk
    · rename_i hi
      simp only [forceE_eq, Kind.pure.injEq] at hk
      subst hk
      obtain ⟨v, hv, h2⟩ := run1_some hf
      obtain rfl := Option.some.inj h2
      obtain ⟨d, hd, hne⟩ := isIface_false hi
      refine lift ⟨.iface t (ρ x), ?_, ?_⟩
      · unfold Instr.makeInterface
        simp only [Sem.run_bind, under_run hd, Result.andThen_ok]
        cases d <;> first | exact absurd rfl (hne _) | rfl
      · simp only [V.rel]; exact ⟨_, rfl, hr x (by simp [Op.operands]) v hv⟩
    · cases hk
  | makeFunc fn first captured =>
    simp only [kind, forceEs_eq, Kind.pure.injEq] at hk
    subst hk
    obtain ⟨a, ha, h2⟩ := O_some' hf
    obtain ⟨b, hb, h3⟩ := O_some' h2
    obtain rfl := Option.some.inj h3
    refine lift ⟨.func fn (first.map ρ) (captured.map ρ), rfl, ?_⟩
    simp only [V.rel]
    refine ⟨_, _, rfl, ?_, ?_⟩
    · rw [Array.toList_map]; exact runs_rel (fun x hx => hr x (by simp only [Op.operands, Array.toList_append, List.mem_append]; exact .inl hx)) ha
    · rw [Array.toList_map]; exact runs_rel (fun x hx => hr x (by simp only [Op.operands, Array.toList_append, List.mem_append]; exact .inr hx)) hb
  | slice t x lo hi mx =>
    simp only [kind, kSlice] at hk
    split at hk
    · rename_i _ mx'
      unfold kSlice3 at hk
      split at hk
      · rename_i _ _ hi' e hu
        split at hk
        · rename_i s hs
          simp only [forceN_eq, forceE_eq, optE_eq, Kind.pure.injEq] at hk
          have hx := hr x (by simp [Op.operands])
          have hlo : ∀ y, lo = some y → ORel σ ro tm ρ y := fun y hy => hr y (by subst hy; simp [Op.operands])
          have hhi : ORel σ ro tm ρ hi' := hr hi' (by simp [Op.operands])
          have hmx : ORel σ ro tm ρ mx' := hr mx' (by simp [Op.operands])
          subst hk
          obtain ⟨v, hv, h2⟩ := run1_some hf
          obtain ⟨l, hl, h3⟩ := runO_some hlo h2
          obtain ⟨h, hh, h4⟩ := O_some' h3
          obtain ⟨m, hm, h5⟩ := O_some' h4
          exact lift (sliceSlice3_run hu hs (hx v hv) hl (hhi h hh) (hmx m hm) h5 w)
        · cases hk
      · cases hk
    · simp only [forceE_eq, optE_eq] at hk
      have hx := hr x (by simp [Op.operands])
      have hlo : ∀ y, lo = some y → ORel σ ro tm ρ y := fun y hy => hr y (by subst hy; simp [Op.operands])
      have hhi : ∀ y, hi = some y → ORel σ ro tm ρ y := fun y hy => hr y (by subst hy; simp [Op.operands])
      split at hk
      · rename_i hu
        simp only [Kind.pure.injEq] at hk
        subst hk
        obtain ⟨v, hv, h2⟩ := run1_some hf
        obtain ⟨l, hl, h3⟩ := runO_some hlo h2
        obtain ⟨h, hh, h4⟩ := runO_some hhi h3
        exact lift (sliceStr_run hu (hx v hv) hl hh h4 w)
      · rename_i e hu
        split at hk
        · rename_i s hs
          simp only [forceN_eq, Kind.pure.injEq] at hk
          subst hk
          obtain ⟨v, hv, h2⟩ := run1_some hf
          obtain ⟨l, hl, h3⟩ := runO_some hlo h2
          obtain ⟨h, hh, h4⟩ := runO_some hhi h3
          exact lift (sliceSlice_run hu hs (hx v hv) hl hh h4 w)
        · cases hk
      · rename_i n e hu
        split at hk
        · rename_i s hs
          simp only [forceN_eq, Kind.pure.injEq] at hk
          subst hk
          obtain ⟨v, hv, h2⟩ := run1_some hf
          obtain ⟨l, hl, h3⟩ := runO_some hlo h2
          obtain ⟨h, hh, h4⟩ := runO_some hhi h3
          exact lift (sliceArray_run hu hs (hx v hv) hl hh h4 w)
        · cases hk
      · cases hk
  | fieldAddr t x f' =>
    simp only [kind, kFieldAddr] at hk
    split at hk
    · rename_i fs hu
      split at hk
      · rename_i fd hfd
        split at hk
        · rename_i n hn
          simp only [forceN_eq, forceE_eq, Kind.pure.injEq] at hk
          subst hk
          obtain ⟨v, hv, h2⟩ := run1_some hf
          exact lift (fieldAddr_run hu hfd hn (hr x (by simp [Op.operands]) v hv) h2 w)
        · cases hk
      · cases hk
    · cases hk
  | field t x f' =>
    simp only [kind, kField] at hk
    split at hk
    · rename_i fs hu
      split at hk
      · rename_i fd hfd
        simp only [forceS_eq, forceN_eq, forceE_eq, Kind.pure.injEq] at hk
        subst hk
        obtain ⟨v, hv, h2⟩ := run1_some hf
        exact lift (field_run hu hfd (hr x (by simp [Op.operands]) v hv) h2 w)
      · cases hk
    · cases hk
  | indexAddr t x ix =>
    simp only [kind, kIndexAddr] at hk
    split at hk
    · rename_i e hu
      split at hk
      · rename_i s hs
        simp only [forceN_eq, forceE_eq, Kind.pure.injEq] at hk
        subst hk
        obtain ⟨v, v', hv, hv', h2⟩ := run2_some hf
        exact lift (indexSlice_run hu hs (hr x (by simp [Op.operands]) v hv) (hr ix (by simp [Op.operands]) v' hv') h2 w)
      · cases hk
    · rename_i n e hu
      split at hk
      · rename_i s hs
        simp only [forceN_eq, forceE_eq, Kind.pure.injEq] at hk
        subst hk
        obtain ⟨v, v', hv, hv', h2⟩ := run2_some hf
        exact lift (indexArray_run hu hs (hr x (by simp [Op.operands]) v hv) (hr ix (by simp [Op.operands]) v' hv') h2 w)
      · cases hk
    · cases hk
  | index t x ix =>
    simp only [kind, kIndex] at hk
    split at hk
    · rename_i n e hu
      split at hk
      · rename_i s hs
        simp only [forceS_eq, forceN_eq, forceE_eq, Kind.pure.injEq] at hk
        subst hk
        obtain ⟨v, v', hv, hv', h2⟩ := run2_some hf
        exact lift (index_agg_run hu hs (hr x (by simp [Op.operands]) v hv) (hr ix (by simp [Op.operands]) v' hv') h2 w)
      · cases hk
    · rename_i hu
      simp only [forceE_eq, Kind.pure.injEq] at hk
      subst hk
      obtain ⟨v, v', hv, hv', h2⟩ := run2_some hf
      exact lift (index_str_run hu (hr x (by simp [Op.operands]) v hv) (hr ix (by simp [Op.operands]) v' hv') h2 w)
    · cases hk
  | sliceToArrayPointer t x =>
    simp only [kind] at hk
    split at hk
    · rename_i n e hu
      simp only [forceN_eq, forceE_eq, Kind.pure.injEq] at hk
      subst hk
      obtain ⟨v, hv, h2⟩ := run1_some hf
      exact lift (arrayAt_run hu (hr x (by simp [Op.operands]) v hv) h2 w)
    · cases hk
  | extract x ix =>
    simp only [kind, forceE_eq, Kind.pure.injEq] at hk
    subst hk
    obtain ⟨v, hv, h2⟩ := run1_some hf
    obtain ⟨l, rfl, h3⟩ := onTuple_some h2
    have hx := hr x (by simp [Op.operands]) _ hv
    simp only [V.rel] at hx
    obtain ⟨a, ea, ha⟩ := hx
    obtain ⟨y, hy, hu⟩ := ha.get h3
    refine lift ⟨y, ?_, hu⟩
    have hy' : a[ix]? = some y := by simpa using hy
    simp [ea, Instr.extract, hy']
  | typeAssert x xt a ok =>
    simp only [kind] at hk
    split at hk
    · rename_i hi
      simp only [forceE_eq, Kind.pure.injEq] at hk
      subst hk
      obtain ⟨v, hv, h2⟩ := run1_some hf
      exact lift (assert_run hi (hr x (by simp [Op.operands]) v hv) h2 w)
    · cases hk
  | call c =>
    obtain ⟨callee, args, argTypes⟩ := c
    simp only [kind, kCall] at hk
    split at hk
    · rename_i _ b
      have hmem : ∀ x ∈ args.toList, ORel σ ro tm ρ x := fun x hx => hr x (by simp only [Op.operands, Call.operands]; simpa using hx)
      unfold kBuiltin at hk
      split at hk
      · rename_i x t ts hargs htypes
        have e1 : args = #[x] := by rw [← Array.toList_inj]; simpa using hargs
        subst e1
        have ht : argTypes[0]? = some t := by rw [← Array.getElem?_toList, htypes]; rfl
        have hx := hmem x (by simp)
        unfold kLen at hk
        split at hk
        · rename_i hu
          simp only [forceE_eq, Kind.pure.injEq] at hk
          subst hk
          obtain ⟨v, hv, h2⟩ := run1_some hf
          obtain ⟨Y, hY, hu'⟩ := lenStr_run (ty := o.type) ht hu (hx v hv) h2 w
          exact ⟨Y, by simp [resolve, invoke, builtin, hY], hu'⟩
        · rename_i e hu
          simp only [forceE_eq, Kind.pure.injEq] at hk
          subst hk
          obtain ⟨v, hv, h2⟩ := run1_some hf
          obtain ⟨Y, hY, hu'⟩ := lenSlice_run (ty := o.type) ht hu (hx v hv) h2 w
          exact ⟨Y, by simp [resolve, invoke, builtin, hY], hu'⟩
        · rename_i n e hu
          simp only [Kind.pure.injEq] at hk
          subst hk
          rw [mkInt_eq] at hf
          obtain rfl := Option.some.inj hf
          exact ⟨_, by simp [resolve, invoke, builtin, lenArray_run ht hu]; rfl, by simp only [V.rel]; rfl⟩
        · rename_i a hu
          split at hk
          · rename_i n e ha
            simp only [Kind.pure.injEq] at hk
            subst hk
            rw [mkInt_eq] at hf
            obtain rfl := Option.some.inj hf
            exact ⟨_, by simp [resolve, invoke, builtin, lenPointer_run ht hu ha]; rfl, by simp only [V.rel]; rfl⟩
          · cases hk
        · simp only [forceE_eq, reduceCtorEq] at hk
        · cases hk
      · unfold kAppend at hk
        split at hk
        · split at hk
          · split at hk <;> simp at hk
          · cases hk
        · cases hk
      · unfold kCopy at hk
        split at hk
        · split at hk <;> simp at hk
        · cases hk
      · unfold kClear at hk
        split at hk
        · split at hk <;> simp at hk
        · cases hk
      · unfold kDelete at hk
        split at hk
        · simp only [forceE_eq, reduceCtorEq] at hk
        · cases hk
      · rename_i _ _ x xs hargs
        simp only [forceE_eq, forceEs_eq, Kind.pure.injEq] at hk
        subst hk
        obtain ⟨v, hv, h2⟩ := run1_some hf
        obtain ⟨vs, hvs, h3⟩ := O_some' h2
        have hx := hmem x (by rw [hargs]; simp) v hv
        obtain ⟨Y, hY, hu'⟩ := minV_run (P := P) hx (runs_rel (fun y hy => hmem y (by rw [hargs]; simp [hy])) hvs) h3 w
        have e2 : (args.map ρ).toList = ρ x :: xs.map ρ := by rw [Array.toList_map, hargs]; rfl
        refine ⟨Y, ?_, hu'⟩
        simp only [resolve, invoke, builtin, Sem.run_bind, Sem.run_pure, Result.andThen_ok, Builtin.min_, e2, hY]
      · rename_i _ _ x xs hargs
        simp only [forceE_eq, forceEs_eq, Kind.pure.injEq] at hk
        subst hk
        obtain ⟨v, hv, h2⟩ := run1_some hf
        obtain ⟨vs, hvs, h3⟩ := O_some' h2
        have hx := hmem x (by rw [hargs]; simp) v hv
        obtain ⟨Y, hY, hu'⟩ := maxV_run (P := P) hx (runs_rel (fun y hy => hmem y (by rw [hargs]; simp [hy])) hvs) h3 w
        have e2 : (args.map ρ).toList = ρ x :: xs.map ρ := by rw [Array.toList_map, hargs]; rfl
        refine ⟨Y, ?_, hu'⟩
        simp only [resolve, invoke, builtin, Sem.run_bind, Sem.run_pure, Result.andThen_ok, Builtin.max_, e2, hY]
      · cases hk
    · simp only [forceE_eq, forceEs_eq, reduceCtorEq] at hk
    · simp only [forceE_eq, forceEs_eq, reduceCtorEq] at hk
  | load t x => simp [kind] at hk
  | alloc t => simp only [kind] at hk; split at hk <;> simp at hk
  | box t x => simp [kind] at hk
  | buildSlice t n parts =>
    simp only [kind, kBuildSlice] at hk
    split at hk
    · split at hk
      · split at hk
        · rcases partsC_spec (ro := ro) (place := _) (bad := Kind.bad) parts.toList _ with hb | ⟨es, h1, -, -⟩
          · rw [forceL_eq, hb] at hk; cases hk
          · rw [forceL_eq, h1] at hk; cases hk
        · cases hk
      · cases hk
    · cases hk
  | makeSlice t l c =>
    simp only [kind, kMakeSlice] at hk
    split at hk
    · split at hk
      · split at hk <;> simp at hk
      · cases hk
    · cases hk
  | store t a x => simp only [kind] at hk; split at hk <;> simp at hk
  | makeMap t r => cases r <;> cases hk
  | lookup t x k ok => simp only [kind, forceE_eq] at hk; split at hk <;> simp at hk
  | range t x =>
    simp only [kind, kRange] at hk
    split at hk
    · simp only [forceE_eq, reduceCtorEq] at hk
    · cases hk
  | entry x => simp only [kind, forceE_eq, reduceCtorEq] at hk
  | mapUpdate t m k x => simp only [kind, forceE_eq] at hk; split at hk <;> simp at hk
  | _ => simp [kind] at hk

end
end Go.Proofs.YteicddmekhdjeaaGreatDoor.Eng
