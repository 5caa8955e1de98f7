/- The evaluator, part D of 4: it computes what the model's programs do at given arguments; its answers hold on every tape. -/
import Derived.Orders
import Derived.Lib.Bytealg
import Derived.Laws.Externs
import Derived.Lib.BytesEntry
import Derived.Test.YteicddmekhdjeaaGreatDoorEngC
set_option linter.unusedSectionVars false
/- What the evaluator did in a region that draws its order. -/
namespace Go.Proofs.YteicddmekhdjeaaGreatDoor.Eng
variable [Syms]
open Go.RowKit (Below)

structure Step where
  i : Nat
  dst : Option Nat
  v : V
  made : Bool
  nx : Nat

noncomputable def putS (t : T V) (dst : Option Nat) (v : V) : T V := match dst with | some d => t.set (some v) d | none => t

/-- The evaluator's way through the items of a region; the memory at the end of each stage. -/
inductive Tr (callF : CallF) (fin : T V × Heap × Nat) : List Item → Nat → List Found → T V → Heap → Nat → List Step → List (Heap × Nat) → Prop where
  | nil {j : Nat} {fs : List Found} {tm : T V} {h : Heap} {nx : Nat} : again h j fs = true → fin = (tm, h, nx) → Tr callF fin [] j fs tm h nx [] [(h, nx)]
  | skip {hi i b rd wr : Nat} {g : Option (Nat × Bool)} {dst : Option Nat} {k : Kind} {pos : String} {l : List Item} {j : Nat} {fs : List Found} {tm : T V} {h : Heap} {nx : Nat} {ss : List Step} {ends : List (Heap × Nat)} :
      wants g tm = some false → isActK k = false → Tr callF fin l j fs (putS tm dst (.tuple [])) h nx ss ends →
      Tr callF fin (.mk hi (.mk (.mk g dst k pos) i b rd wr) :: l) j fs tm h nx (⟨i, dst, .tuple [], false, nx⟩ :: ss) ends
  | pure {hi i b rd wr : Nat} {g : Option (Nat × Bool)} {dst : Option Nat} {f : T V → Option V} {pos : String} {v : V} {l : List Item} {j : Nat} {fs : List Found} {tm : T V} {h : Heap} {nx : Nat} {ss : List Step} {ends : List (Heap × Nat)} :
      wants g tm = some true → f tm = some v → Tr callF fin l j fs (putS tm dst v) h nx ss ends →
      Tr callF fin (.mk hi (.mk (.mk g dst (.pure f) pos) i b rd wr) :: l) j fs tm h nx (⟨i, dst, v, false, nx⟩ :: ss) ends
  | read {hi i b rd wr : Nat} {g : Option (Nat × Bool)} {dst : Option Nat} {f : T V → Option Rd} {pos : String} {r : Rd} {v : V} {l : List Item} {j : Nat} {fs : List Found} {tm : T V} {h : Heap} {nx : Nat} {ss : List Step} {ends : List (Heap × Nat)} :
      wants g tm = some true → f tm = some r → Tr callF fin l j (.read hi r v :: fs) (putS tm dst v) h nx ss ends →
      Tr callF fin (.mk hi (.mk (.mk g dst (.read f) pos) i b rd wr) :: l) j fs tm h nx (⟨i, dst, v, false, nx⟩ :: ss) ends
  | make {hi i b rd wr : Nat} {g : Option (Nat × Bool)} {dst : Option Nat} {f : T V → Nat → Option (V × List V)} {pos : String} {v : V} {c : List V} {l : List Item} {j : Nat} {fs : List Found} {tm : T V} {h : Heap} {nx : Nat} {ss : List Step} {ends : List (Heap × Nat)} :
      wants g tm = some true → f tm nx = some (v, c) → Tr callF fin l j (.block hi nx (T.sets c .nil 0) :: fs) (putS tm dst v) (h.set (some (T.sets c .nil 0)) nx) (nx + 1) ss ends →
      Tr callF fin (.mk hi (.mk (.mk g dst (.make f) pos) i b rd wr) :: l) j fs tm h nx (⟨i, dst, v, true, nx⟩ :: ss) ends
  | actSkip {hi i b rd wr : Nat} {g : Option (Nat × Bool)} {dst : Option Nat} {f : CallF → T V → Heap → Nat → CRes} {pos : String} {l : List Item} {j : Nat} {fs : List Found} {tm : T V} {h : Heap} {nx : Nat} {ss : List Step} {ends : List (Heap × Nat)} :
      wants g tm = some false → again h j fs = true → Tr callF fin l (j + 1) fs (putS tm dst (.tuple [])) h nx ss ends →
      Tr callF fin (.mk hi (.mk (.mk g dst (.act f) pos) i b rd wr) :: l) j fs tm h nx (⟨i, dst, .tuple [], false, nx⟩ :: ss) ((h, nx) :: ends)
  | act {hi i b rd wr : Nat} {g : Option (Nat × Bool)} {dst : Option Nat} {f : CallF → T V → Heap → Nat → CRes} {pos : String} {v : V} {h1 : Heap} {n1 : Nat} {l : List Item} {j : Nat} {fs : List Found} {tm : T V} {h : Heap} {nx : Nat} {ss : List Step} {ends : List (Heap × Nat)} :
      wants g tm = some true → again h j fs = true → f callF tm h nx = .ok v h1 n1 → nx ≤ n1 → Tr callF fin l (j + 1) fs (putS tm dst v) h1 n1 ss ends →
      Tr callF fin (.mk hi (.mk (.mk g dst (.act f) pos) i b rd wr) :: l) j fs tm h nx (⟨i, dst, v, false, nx⟩ :: ss) ((h, nx) :: ends)

theorem putK_eq' {t : T V} {dst : Option Nat} {v : V} {c : T V → Res} : putK t dst v c = c (putS t dst v) := putK_eq

theorem B_okR {b : Bool} {why : List String} {c : Res} {e : Ex} {tm : T V} {h : Heap} {nx : Nat} (x : B b c (.fail why) = .ok e tm h nx) : b = true ∧ c = .ok e tm h nx := by
  cases b <;> first | exact ⟨rfl, x⟩ | cases x

theorem itemsRun_tr {callF : CallF} : ∀ {l : List Item} {j : Nat} {fs : List Found} {tm : T V} {h : Heap} {nx : Nat} {e : Ex} {tm' : T V} {h' : Heap} {nx' : Nat}, itemsRun callF l j fs tm h nx = .ok e tm' h' nx' →
    e = .normal ∧ ∃ ss ends, Tr callF (tm', h', nx') l j fs tm h nx ss ends
  | [], j, fs, tm, h, nx, e, tm', h', nx', hx => by
    obtain ⟨ha, hx2⟩ := B_okR (b := again h j fs) (c := .ok .normal tm h nx) hx
    simp only [Res.ok.injEq] at hx2
    obtain ⟨rfl, rfl, rfl, rfl⟩ := hx2
    exact ⟨rfl, [], _, .nil ha rfl⟩
  | .mk hi (.mk (.mk g dst k pos) i b rd wr) :: l, j, fs, tm, h, nx, e, tm', h', nx', hx => by
    obtain ⟨w, hw, hx2⟩ := O_okR (x := wants g tm) hx
    cases k with
    | pure f =>
      cases w with
      | true =>
        obtain ⟨v, hv, hx3⟩ := O_okR (x := f tm) hx2
        rw [putK_eq'] at hx3
        obtain ⟨he, ss, ends, ht⟩ := itemsRun_tr hx3
        exact ⟨he, _, _, .pure hw hv ht⟩
      | false =>
        have hx2 : putK tm dst (.tuple []) (fun tm => itemsRun callF l j fs tm h nx) = .ok e tm' h' nx' := hx2
        rw [putK_eq'] at hx2
        obtain ⟨he, ss, ends, ht⟩ := itemsRun_tr hx2
        exact ⟨he, _, _, .skip hw rfl ht⟩
    | read f =>
      cases w with
      | true =>
        obtain ⟨r, hr, hx3⟩ := O_okR (x := f tm) hx2
        obtain ⟨v, hv, hx4⟩ := O_okR hx3
        rw [putK_eq'] at hx4
        obtain ⟨he, ss, ends, ht⟩ := itemsRun_tr hx4
        exact ⟨he, _, _, .read hw hr ht⟩
      | false =>
        have hx2 : putK tm dst (.tuple []) (fun tm => itemsRun callF l j fs tm h nx) = .ok e tm' h' nx' := hx2
        rw [putK_eq'] at hx2
        obtain ⟨he, ss, ends, ht⟩ := itemsRun_tr hx2
        exact ⟨he, _, _, .skip hw rfl ht⟩
    | make f =>
      cases w with
      | true =>
        obtain ⟨⟨v, c⟩, hv, hx3⟩ := O_okR (x := f tm nx) hx2
        have hx3 : T.setsK c .nil 0 (fun blk => h.setK (some blk) nx fun h => putK tm dst v fun tm => forceN (Nat.succ nx) fun nx' => itemsRun callF l j (.block hi nx blk :: fs) tm h nx') = .ok e tm' h' nx' := hx3
        rw [T.setsK_eq, T.setK_eq, putK_eq', forceN_eq] at hx3
        obtain ⟨he, ss, ends, ht⟩ := itemsRun_tr hx3
        exact ⟨he, _, _, .make hw hv ht⟩
      | false =>
        have hx2 : putK tm dst (.tuple []) (fun tm => itemsRun callF l j fs tm h nx) = .ok e tm' h' nx' := hx2
        rw [putK_eq'] at hx2
        obtain ⟨he, ss, ends, ht⟩ := itemsRun_tr hx2
        exact ⟨he, _, _, .skip hw rfl ht⟩
    | act f =>
      obtain ⟨ha, hx3⟩ := B_okR (b := again h j fs) hx2
      cases w with
      | true =>
        obtain ⟨v, h1, n1, hv, hx4⟩ := onC_ok (r := f callF tm h nx) hx3
        obtain ⟨hle, hx5⟩ := B_okR hx4
        rw [putK_eq', forceN_eq] at hx5
        obtain ⟨he, ss, ends, ht⟩ := itemsRun_tr hx5
        exact ⟨he, _, _, .act hw ha hv (Nat.le_of_ble_eq_true hle) ht⟩
      | false =>
        have hx3 : putK tm dst (.tuple []) (fun tm => forceN (Nat.succ j) fun j => itemsRun callF l j fs tm h nx) = .ok e tm' h' nx' := hx3
        rw [putK_eq', forceN_eq] at hx3
        obtain ⟨he, ss, ends, ht⟩ := itemsRun_tr hx3
        exact ⟨he, _, _, .actSkip hw ha ht⟩
    | bad => cases hx2

/-- An act? -/
noncomputable def itAct (x : Item) : Bool := isAct (itemRow x)
noncomputable def acts (l : List Item) : Nat := (l.filter itAct).length
noncomputable def putsS (t : T V) (ss : List Step) : T V := ss.foldl (fun t s => putS t s.dst s.v) t
noncomputable def itI (x : Item) : Nat := (itemRow x).i
def itDst (x : Item) : Option Nat := match x with | .mk _ (.mk (.mk _ dst _ _) _ _ _ _) => dst

section
variable {callF : CallF} {fin : T V × Heap × Nat}

theorem itAct_mk (hi i b rd wr : Nat) (g : Option (Nat × Bool)) (dst : Option Nat) (k : Kind) (pos : String) : itAct (.mk hi (.mk (.mk g dst k pos) i b rd wr)) = isActK k := rfl
theorem itI_mk (hi i b rd wr : Nat) (g : Option (Nat × Bool)) (dst : Option Nat) (k : Kind) (pos : String) : itI (.mk hi (.mk (.mk g dst k pos) i b rd wr)) = i := rfl
theorem itDst_mk (hi i b rd wr : Nat) (g : Option (Nat × Bool)) (dst : Option Nat) (k : Kind) (pos : String) : itDst (.mk hi (.mk (.mk g dst k pos) i b rd wr)) = dst := rfl
theorem acts_cons (x : Item) (l : List Item) : acts (x :: l) = acts l + (if itAct x = true then 1 else 0) := by
  unfold acts
  rw [List.filter_cons]
  split <;> simp [*]
theorem acts_float {x : Item} {l : List Item} (h : itAct x = false) : acts (x :: l) = acts l := by rw [acts_cons, h]; rfl
theorem acts_act {x : Item} {l : List Item} (h : itAct x = true) : acts (x :: l) = acts l + 1 := by rw [acts_cons, h]; rfl

theorem Tr.split : ∀ {pre post : List Item} {j : Nat} {fs : List Found} {tm : T V} {h : Heap} {nx : Nat} {ss : List Step} {ends : List (Heap × Nat)}, Tr callF fin (pre ++ post) j fs tm h nx ss ends →
    ∃ ss1 ss2 fs' h' nx', ss = ss1 ++ ss2 ∧ Tr callF fin post (j + acts pre) fs' (putsS tm ss1) h' nx' ss2 (ends.drop (acts pre)) ∧ ss1.map (fun s => (s.i, s.dst)) = pre.map (fun x => (itI x, itDst x)) ∧ ∀ f ∈ fs, f ∈ fs'
  | [], post, j, fs, tm, h, nx, ss, ends, ht => ⟨[], ss, fs, h, nx, rfl, by simpa [acts, putsS] using ht, rfl, fun _ h => h⟩
  | x :: pre, post, j, fs, tm, h, nx, ss, ends, ht => by
    have hcons : x :: pre ++ post = x :: (pre ++ post) := rfl
    rw [hcons] at ht
    cases ht with
    | skip hw hk ht =>
      obtain ⟨ss1, ss2, fs', h', nx', e1, e2, e3, e4⟩ := Tr.split ht
      subst e1
      refine ⟨_ :: ss1, ss2, fs', h', nx', rfl, ?_, by rw [List.map_cons, List.map_cons, e3, itI_mk, itDst_mk], e4⟩
      rw [acts_float (by rw [itAct_mk]; exact hk)]
      exact e2
    | pure hw hv ht =>
      obtain ⟨ss1, ss2, fs', h', nx', e1, e2, e3, e4⟩ := Tr.split ht
      subst e1
      refine ⟨_ :: ss1, ss2, fs', h', nx', rfl, ?_, by rw [List.map_cons, List.map_cons, e3, itI_mk, itDst_mk], e4⟩
      rw [acts_float (by rfl)]
      exact e2
    | read hw hv ht =>
      obtain ⟨ss1, ss2, fs', h', nx', e1, e2, e3, e4⟩ := Tr.split ht
      subst e1
      refine ⟨_ :: ss1, ss2, fs', h', nx', rfl, ?_, by rw [List.map_cons, List.map_cons, e3, itI_mk, itDst_mk], fun f hf => e4 f (List.mem_cons_of_mem _ hf)⟩
      rw [acts_float (by rfl)]
      exact e2
    | make hw hv ht =>
      obtain ⟨ss1, ss2, fs', h', nx', e1, e2, e3, e4⟩ := Tr.split ht
      subst e1
      refine ⟨_ :: ss1, ss2, fs', h', nx', rfl, ?_, by rw [List.map_cons, List.map_cons, e3, itI_mk, itDst_mk], fun f hf => e4 f (List.mem_cons_of_mem _ hf)⟩
      rw [acts_float (by rfl)]
      exact e2
    | actSkip hw ha ht =>
      obtain ⟨ss1, ss2, fs', h', nx', e1, e2, e3, e4⟩ := Tr.split ht
      subst e1
      refine ⟨_ :: ss1, ss2, fs', h', nx', rfl, ?_, by rw [List.map_cons, List.map_cons, e3, itI_mk, itDst_mk], e4⟩
      rw [acts_act (by rfl), List.drop_succ_cons, show j + (acts pre + 1) = j + 1 + acts pre by omega]
      exact e2
    | act hw ha hv hle ht =>
      obtain ⟨ss1, ss2, fs', h', nx', e1, e2, e3, e4⟩ := Tr.split ht
      subst e1
      refine ⟨_ :: ss1, ss2, fs', h', nx', rfl, ?_, by rw [List.map_cons, List.map_cons, e3, itI_mk, itDst_mk], e4⟩
      rw [acts_act (by rfl), List.drop_succ_cons, show j + (acts pre + 1) = j + 1 + acts pre by omega]
      exact e2

/-- What a float has found is there at the end of every stage up to its last. -/
theorem Tr.found {l : List Item} {j : Nat} {fs : List Found} {tm : T V} {h : Heap} {nx : Nat} {ss : List Step} {ends : List (Heap × Nat)} (ht : Tr callF fin l j fs tm h nx ss ends) :
    ∀ f ∈ fs, ∀ d H n, ends[d]? = some (H, n) → j + d ≤ f.hi → FoundOk H f := by
  induction ht with
  | nil ha _ =>
    intro f hf d H n hd hle
    cases d with
    | zero => simp at hd; obtain ⟨rfl, rfl⟩ := hd; exact again_ok ha f hf (by simpa using hle)
    | succ d => simp at hd
  | skip _ _ _ ih => exact ih
  | pure _ _ _ ih => exact ih
  | read _ _ _ ih => exact fun f hf => ih f (List.mem_cons_of_mem _ hf)
  | make _ _ _ ih => exact fun f hf => ih f (List.mem_cons_of_mem _ hf)
  | actSkip _ ha _ ih =>
    intro f hf d H n hd hle
    cases d with
    | zero => simp at hd; obtain ⟨rfl, rfl⟩ := hd; exact again_ok ha f hf (by simpa using hle)
    | succ d => exact ih f hf d H n (by simpa using hd) (by omega)
  | act _ ha _ _ _ ih =>
    intro f hf d H n hd hle
    cases d with
    | zero => simp at hd; obtain ⟨rfl, rfl⟩ := hd; exact again_ok ha f hf (by simpa using hle)
    | succ d => exact ih f hf d H n (by simpa using hd) (by omega)

/-- Till the end of the stage blocks are made, and no more. -/
theorem Tr.first {l : List Item} {j : Nat} {fs : List Found} {tm : T V} {h : Heap} {nx : Nat} {ss : List Step} {ends : List (Heap × Nat)} (ht : Tr callF fin l j fs tm h nx ss ends) :
    ∃ H n, ends[0]? = some (H, n) ∧ nx ≤ n ∧ ∀ (σ : Names) (ro : Lo) (N : Nat) (w : World), HRel σ ro N h nx w → HRel σ ro N H n w := by
  induction ht with
  | nil _ _ => exact ⟨_, _, rfl, Nat.le_refl _, fun _ _ _ _ H => H⟩
  | skip _ _ _ ih => exact ih
  | pure _ _ _ ih => exact ih
  | read _ _ _ ih => exact ih
  | make _ _ _ ih =>
    obtain ⟨H, n, h1, h2, h3⟩ := ih
    exact ⟨H, n, h1, by omega, fun σ ro N w Hm => h3 σ ro N w (Hm.unnamed _)⟩
  | actSkip _ _ _ _ => exact ⟨_, _, rfl, Nat.le_refl _, fun _ _ _ _ H => H⟩
  | act _ _ _ _ _ _ => exact ⟨_, _, rfl, Nat.le_refl _, fun _ _ _ _ H => H⟩

/-- Names are given in order. -/
theorem Tr.rising {l : List Item} {j : Nat} {fs : List Found} {tm : T V} {h : Heap} {nx : Nat} {ss : List Step} {ends : List (Heap × Nat)} (ht : Tr callF fin l j fs tm h nx ss ends) :
    (∀ s ∈ ss, nx ≤ s.nx) ∧ ss.Pairwise (fun a b => a.nx ≤ b.nx ∧ (a.made = true → a.nx < b.nx)) := by
  induction ht with
  | nil _ _ => exact ⟨fun s hs => (by cases hs), List.Pairwise.nil⟩
  | skip _ _ _ ih | pure _ _ _ ih | read _ _ _ ih | actSkip _ _ _ ih =>
    refine ⟨fun s hs => ?_, List.Pairwise.cons (fun s hs => ⟨ih.1 s hs, fun h => by cases h⟩) ih.2⟩
    rcases List.mem_cons.1 hs with rfl | hs
    · exact Nat.le_refl _
    · exact ih.1 s hs
  | make _ _ _ ih =>
    refine ⟨fun s hs => ?_, List.Pairwise.cons (fun s hs => ⟨Nat.le_of_succ_le (ih.1 s hs), fun _ => ih.1 s hs⟩) ih.2⟩
    rcases List.mem_cons.1 hs with rfl | hs
    · exact Nat.le_refl _
    · exact Nat.le_of_succ_le (ih.1 s hs)
  | act _ _ _ hle _ ih =>
    refine ⟨fun s hs => ?_, List.Pairwise.cons (fun s hs => ⟨Nat.le_trans hle (ih.1 s hs), fun h => by cases h⟩) ih.2⟩
    rcases List.mem_cons.1 hs with rfl | hs
    · exact Nat.le_refl _
    · exact Nat.le_trans hle (ih.1 s hs)

theorem Tr.done {j : Nat} {fs : List Found} {tm : T V} {h : Heap} {nx : Nat} {ss : List Step} {ends : List (Heap × Nat)} (ht : Tr callF fin [] j fs tm h nx ss ends) : fin = (tm, h, nx) ∧ ends = [(h, nx)] ∧ ss = [] := by
  cases ht with
  | nil _ he => exact ⟨he, rfl, rfl⟩

end
end Go.Proofs.YteicddmekhdjeaaGreatDoor.Eng

/- The order that was made ready for a region is fit. -/
namespace Go.Proofs.YteicddmekhdjeaaGreatDoor.Eng
variable [Syms]

section
variable {P : Program} {ro : Lo} {nt : Nat} {ops : Array Oper}

/-- A row of a region is right. -/
def RowOk (P : Program) (ro : Lo) (nt : Nat) (ops : Array Oper) (all : List Row) (y : Row) : Prop :=
  ∃ (o : Oper) (g : Option (Nat × Bool)) (k : Kind) (pos : String) (i b : Nat), y = .mk (.mk g o.dst k pos) i b (readMask g o) (writeMask o) ∧ ops[i]? = some o ∧ OpOk P ro nt ops o g o.dst k ∧
    (∀ e ∈ o.after.toList, bindsB e = true → e.on < i) ∧
    ∀ m, Nat.testBit b m = true → ∃ e ∈ o.after.toList, bindsB e = true ∧ (m = e.on ∨ ∃ z ∈ all, z.i = e.on ∧ Nat.testBit z.before m = true)

theorem RowOk.mono {all all' : List Row} (h : ∀ z ∈ all, z ∈ all') {y : Row} (r : RowOk P ro nt ops all y) : RowOk P ro nt ops all' y := by
  obtain ⟨o, g, k, pos, i, b, h1, h2, h3, h4, h5⟩ := r
  refine ⟨o, g, k, pos, i, b, h1, h2, h3, h4, fun m hm => ?_⟩
  obtain ⟨e, he, hb, h6⟩ := h5 m hm
  exact ⟨e, he, hb, h6.imp id fun ⟨z, hz, h7⟩ => ⟨z, h z hz, h7⟩⟩

structure PlanOk (P : Program) (ro : Lo) (nt : Nat) (ops : Array Oper) (l : List Item) : Prop where
  out : ∃ all : List Row, (∀ y ∈ all, RowOk P ro nt ops all y) ∧ (∀ y ∈ all, ∀ z ∈ all, y.i = z.i → y = z) ∧ ∀ x ∈ l, itemRow x ∈ all
  len : l.length = ops.size
  pairs : allPairs l = true
  his : hisOk (actsOf l) l = true

theorem beforeOf_bit : ∀ {rows : List Row} {j m : Nat}, Nat.testBit (beforeOf rows j) m = true → ∃ z ∈ rows, z.i = j ∧ Nat.testBit z.before m = true
  | [], j, m, h => by simp [beforeOf] at h
  | .mk r i b rd wr :: rows, j, m, h => by
    have h : Nat.testBit (B (Nat.beq i j) b (beforeOf rows j)) m = true := h
    rw [beq_iff] at h
    by_cases e : i = j
    · rw [decide_eq_true e, B_true] at h
      exact ⟨_, List.mem_cons_self, e, h⟩
    · rw [decide_eq_false e, B_false] at h
      obtain ⟨z, hz, h2⟩ := beforeOf_bit h
      exact ⟨z, List.mem_cons_of_mem _ hz, h2⟩

theorem orEdges_bit {rows : List Row} : ∀ {es : List Edge} {m : Nat}, Nat.testBit (orEdges rows es) m = true → ∃ e ∈ es, bindsB e = true ∧ (m = e.on ∨ ∃ z ∈ rows, z.i = e.on ∧ Nat.testBit z.before m = true)
  | [], m, h => by simp [orEdges] at h
  | e :: es, m, h => by
    simp only [orEdges] at h
    cases hb : bindsB e with
    | false =>
      rw [hb, B_false] at h
      obtain ⟨e', he, h2⟩ := orEdges_bit h
      exact ⟨e', List.mem_cons_of_mem _ he, h2⟩
    | true =>
      rw [hb, B_true] at h
      have h : Nat.testBit ((2 ^ e.on ||| beforeOf rows e.on) ||| orEdges rows es) m = true := h
      rw [Nat.testBit_or, Nat.testBit_or, Nat.testBit_two_pow] at h
      simp only [Bool.or_eq_true, decide_eq_true_eq] at h
      rcases h with (h | h) | h
      · exact ⟨e, List.mem_cons_self, hb, .inl h.symm⟩
      · exact ⟨e, List.mem_cons_self, hb, .inr (beforeOf_bit h)⟩
      · obtain ⟨e', he, h2⟩ := orEdges_bit h
        exact ⟨e', List.mem_cons_of_mem _ he, h2⟩

theorem edgesOk_true {i : Nat} : ∀ {es : List Edge}, edgesOk i es = true → ∀ e ∈ es, bindsB e = true → e.on < i
  | [], _, e, he, _ => by cases he
  | a :: es, h, e, he, hb => by
    simp only [edgesOk] at h
    cases ha : bindsB a with
    | false =>
      rw [ha, B_false] at h
      rcases List.mem_cons.1 he with rfl | he
      · rw [ha] at hb; cases hb
      · exact edgesOk_true h e he hb
    | true =>
      rw [ha, B_true] at h
      cases hlt : Nat.blt a.on i with
      | false => rw [hlt] at h; cases h
      | true =>
        rw [hlt, B_true] at h
        rcases List.mem_cons.1 he with rfl | he
        · exact blt_true hlt
        · exact edgesOk_true h e he hb

theorem opR_spec (o : Oper) : (∃ g k pos, OpOk P ro nt ops o g o.dst k ∧ ∀ (R : Type) (bad : String → R) (c : OpR → R), opR P ro nt ops o bad c = c (.mk g o.dst k pos)) ∨
    (∀ (R : Type) (bad : String → R) (c : OpR → R), opR P ro nt ops o bad c = bad o.pos) := by
  cases hg : guardC ops o with
  | none => exact .inr fun R bad c => by simp [opR, hg]
  | some g =>
    cases hd : dstOk nt o with
    | false => exact .inr fun R bad c => by simp [opR, hg, hd]
    | true =>
      cases hk : kind P ro o.op with
      | bad => exact .inr fun R bad c => by simp [opR, hg, hd, hk]
      | pure f => exact .inl ⟨g, .pure f, o.pos, ⟨hg, rfl, hd, hk.symm⟩, fun R bad c => by simp [opR, hg, hd, hk]⟩
      | read f => exact .inl ⟨g, .read f, o.pos, ⟨hg, rfl, hd, hk.symm⟩, fun R bad c => by simp [opR, hg, hd, hk]⟩
      | make f => exact .inl ⟨g, .make f, o.pos, ⟨hg, rfl, hd, hk.symm⟩, fun R bad c => by simp [opR, hg, hd, hk]⟩
      | act f => exact .inl ⟨g, .act f, o.pos, ⟨hg, rfl, hd, hk.symm⟩, fun R bad c => by simp [opR, hg, hd, hk]⟩

theorem rowsK_spec : ∀ (os : List Oper) (i : Nat) (rows : List Row), (∀ m o, os[m]? = some o → ops[i + m]? = some o) → (∀ y ∈ rows, RowOk P ro nt ops rows y) → (∀ y ∈ rows, ∀ z ∈ rows, y.i = z.i → y = z) → (∀ y ∈ rows, y.i < i) →
    (∃ why, ∀ (R : Type) (bad : List String → R) (c : List Row → R), rowsK P ro nt ops bad os i rows c = bad why) ∨
    (∃ all, (∀ y ∈ all, RowOk P ro nt ops all y) ∧ (∀ y ∈ all, ∀ z ∈ all, y.i = z.i → y = z) ∧ ∀ (R : Type) (bad : List String → R) (c : List Row → R), rowsK P ro nt ops bad os i rows c = c all)
  | [], i, rows, _, h1, h2, _ => .inr ⟨rows, h1, h2, fun _ _ _ => rfl⟩
  | o :: os, i, rows, ho, h1, h2, h3 => by
    cases he : edgesOk i o.after.toList with
    | false => exact .inl ⟨_, fun R bad c => by simp only [rowsK, he, B_false]; rfl⟩
    | true =>
      rcases opR_spec (P := P) (ro := ro) (nt := nt) (ops := ops) o with ⟨g, k, pos, hok, hc⟩ | hb
      · have hnew : RowOk P ro nt ops rows (.mk (.mk g o.dst k pos) i (orEdges rows o.after.toList) (readMask g o) (writeMask o)) :=
          ⟨o, g, k, pos, i, _, rfl, by simpa using ho 0 o (by simp), hok, edgesOk_true he, fun m hm => orEdges_bit hm⟩
        have hsub : ∀ z ∈ rows, z ∈ (Row.mk (.mk g o.dst k pos) i (orEdges rows o.after.toList) (readMask g o) (writeMask o)) :: rows := fun z hz => List.mem_cons_of_mem _ hz
        rcases rowsK_spec os (i + 1) (.mk (.mk g o.dst k pos) i (orEdges rows o.after.toList) (readMask g o) (writeMask o) :: rows)
          (fun m q hq => by have := ho (m + 1) q (by simpa using hq); rwa [show i + (m + 1) = i + 1 + m by omega] at this)
          (fun y hy => by
            rcases List.mem_cons.1 hy with rfl | hy
            · exact hnew.mono hsub
            · exact (h1 y hy).mono hsub)
          (fun y hy z hz e => by
            rcases List.mem_cons.1 hy with rfl | hy <;> rcases List.mem_cons.1 hz with rfl | hz
            · rfl
            · have := h3 z hz; rw [← e] at this; exact absurd this (Nat.lt_irrefl _)
            · have := h3 y hy; rw [e] at this; exact absurd this (Nat.lt_irrefl _)
            · exact h2 y hy z hz e)
          (fun y hy => by
            rcases List.mem_cons.1 hy with rfl | hy
            · exact Nat.lt_succ_self _
            · exact Nat.lt_succ_of_lt (h3 y hy)) with ⟨why, hw⟩ | ⟨all, h4, h5, h6⟩
        · exact .inl ⟨why, fun R bad c => by simp only [rowsK, he, B_true, hc, forceN_eq, hw]⟩
        · exact .inr ⟨all, h4, h5, fun R bad c => by simp only [rowsK, he, B_true, hc, forceN_eq, h6]⟩
      · exact .inl ⟨_, fun R bad c => by simp only [rowsK, he, B_true, hb]; rfl⟩

theorem floatsK_spec (as : List Row) (j : Nat) : ∀ rs : List Row, ∃ l, (∀ x ∈ l, itemRow x ∈ rs) ∧ ∀ (R : Type) (c : List Item → R), floatsK as j rs c = c l
  | [] => ⟨[], fun x hx => (by cases hx), fun _ _ => rfl⟩
  | r :: rs => by
    obtain ⟨l, h1, h2⟩ := floatsK_spec as j rs
    cases ha : isAct r with
    | true => exact ⟨l, fun x hx => List.mem_cons_of_mem _ (h1 x hx), fun R c => by simp only [floatsK, ha, B_true, h2]⟩
    | false =>
      cases hj : Nat.beq (countIn r.before as) j with
      | true =>
        refine ⟨.mk (countNot r.i as) r :: l, fun x hx => ?_, fun R c => by simp only [floatsK, ha, B_false, hj, B_true, forceN_eq, h2]⟩
        rcases List.mem_cons.1 hx with rfl | hx
        · exact List.mem_cons_self
        · exact List.mem_cons_of_mem _ (h1 x hx)
      | false => exact ⟨l, fun x hx => List.mem_cons_of_mem _ (h1 x hx), fun R c => by simp only [floatsK, ha, B_false, hj, h2]⟩

theorem itemsK_spec (rows as : List Row) : ∀ (bs : List Row) (j : Nat), ∃ l, (∀ x ∈ l, itemRow x ∈ rows ∨ itemRow x ∈ bs) ∧ ∀ (R : Type) (c : List Item → R), itemsK rows as j bs c = c l
  | [], j => by
    obtain ⟨l, h1, h2⟩ := floatsK_spec as j rows
    exact ⟨l, fun x hx => .inl (h1 x hx), fun R c => by simp only [itemsK, h2]⟩
  | b :: bs, j => by
    obtain ⟨l, h1, h2⟩ := floatsK_spec as j rows
    obtain ⟨l', h3, h4⟩ := itemsK_spec rows as bs (j + 1)
    refine ⟨l ++ (.mk 0 b :: l'), fun x hx => ?_, fun R c => by simp only [itemsK, h2, h4, forceL_eq]⟩
    rcases List.mem_append.1 hx with hx | hx
    · exact .inl (h1 x hx)
    · rcases List.mem_cons.1 hx with rfl | hx
      · exact .inr List.mem_cons_self
      · exact (h3 x hx).imp id (List.mem_cons_of_mem _)

theorem planK_spec (nt : Nat) (ops : Array Oper) : (∃ l, PlanOk P ro nt ops l ∧ ∀ (R : Type) (bad : List String → R) (c : List Item → R), planK P ro nt ops bad c = c l) ∨
    (∃ why, ∀ (R : Type) (bad : List String → R) (c : List Item → R), planK P ro nt ops bad c = bad why) := by
  rcases rowsK_spec (P := P) (ro := ro) (nt := nt) (ops := ops) ops.toList 0 [] (fun m o h => by simpa using h) (fun y hy => (by cases hy)) (fun y hy => (by cases hy)) (fun y hy => (by cases hy)) with ⟨why, hw⟩ | ⟨all, h1, h2, h3⟩
  · exact .inr ⟨why, fun R bad c => by simp only [planK, hw]⟩
  · obtain ⟨l, h4, h5⟩ := itemsK_spec all.reverse (all.reverse.filter isAct) (all.reverse.filter isAct) 0
    cases hc : andB (Nat.beq l.length ops.size) (andB (allPairs l) (hisOk (actsOf l) l)) with
    | false => exact .inr ⟨_, fun R bad c => by simp only [planK, h3, forceL_eq, h5, hc, B_false]; rfl⟩
    | true =>
      rw [andB_eq, andB_eq, Bool.and_eq_true, Bool.and_eq_true] at hc
      obtain ⟨hc1, hc2, hc3⟩ := hc
      refine .inl ⟨l, ⟨⟨all, h1, h2, fun x hx => ?_⟩, Nat.eq_of_beq_eq_true hc1, hc2, hc3⟩, fun R bad c => ?_⟩
      · rcases h4 x hx with h | h
        · exact List.mem_reverse.1 h
        · exact List.mem_reverse.1 (List.mem_filter.1 h).1
      · simp only [planK, h3, forceL_eq, h5, hc1, hc2, hc3]; rfl

end
end Go.Proofs.YteicddmekhdjeaaGreatDoor.Eng

/- Regions that draw their order: every order does as the evaluator did. -/
namespace Go.Proofs.YteicddmekhdjeaaGreatDoor.Eng
variable [Syms]
open Go.RowKit (Below)

/-! ## Small things -/

theorem pigeon : ∀ (n : Nat) (l : List Nat), l.Pairwise (· ≠ ·) → (∀ x ∈ l, x < n) → l.length ≤ n
  | 0, [], _, _ => Nat.le_refl _
  | 0, x :: _, _, h => absurd (h x List.mem_cons_self) (Nat.not_lt_zero _)
  | n + 1, l, hp, h => by
    have h1 : (l.filter (· != n)).Pairwise (· ≠ ·) := hp.filter _
    have h2 : ∀ x ∈ l.filter (· != n), x < n := fun x hx => by
      obtain ⟨hx1, hx2⟩ := List.mem_filter.1 hx
      have := h x hx1
      have : x ≠ n := by simpa using hx2
      omega
    have h3 := pigeon n _ h1 h2
    have h4 : l.length ≤ (l.filter (· != n)).length + 1 := by
      clear h h1 h2 h3
      induction l with
      | nil => simp
      | cons y ys ih =>
        have hy := List.pairwise_cons.1 hp
        by_cases e : y = n
        · subst e
          have : ys.filter (· != y) = ys := List.filter_eq_self.2 fun z hz => by
            have := hy.1 z hz
            simp; exact fun e => this e.symm
          simp [this]
        · have := ih hy.2
          simp [e]; omega
    omega

theorem pigeon_mem {n : Nat} {l : List Nat} (hp : l.Pairwise (· ≠ ·)) (h : ∀ x ∈ l, x < n) (hl : l.length = n) {i : Nat} (hi : i < n) : i ∈ l := by
  by_cases hm : i ∈ l
  · exact hm
  · have := pigeon n (i :: l) (List.pairwise_cons.2 ⟨fun y hy e => hm (e ▸ hy), hp⟩) (fun x hx => by
      rcases List.mem_cons.1 hx with rfl | hx
      · exact hi
      · exact h x hx)
    simp [hl] at this; omega

theorem maskL_bit : ∀ {l : List Operand} {t : Nat}, Operand.tmp t ∈ l → Nat.testBit (maskL l) t = true
  | [], t, h => by cases h
  | x :: xs, t, h => by
    rcases List.mem_cons.1 h with rfl | h
    · show Nat.testBit (2 ^ t ||| maskL xs) t = true
      rw [Nat.testBit_or, Nat.testBit_two_pow]; simp
    · have ih := maskL_bit h
      cases x with
      | tmp u =>
        show Nat.testBit (2 ^ u ||| maskL xs) t = true
        rw [Nat.testBit_or, ih]; simp
      | _ => exact ih

theorem readMask_op {g : Option (Nat × Bool)} {o : Oper} {t : Nat} (h : Operand.tmp t ∈ o.op.operands.toList) : Nat.testBit (readMask g o) t = true := by
  cases g with
  | none => exact maskL_bit h
  | some p =>
    show Nat.testBit (2 ^ p.1 ||| maskL o.op.operands.toList) t = true
    rw [Nat.testBit_or, maskL_bit h]; simp
theorem readMask_guard {o : Oper} {d : Nat} {want : Bool} : Nat.testBit (readMask (some (d, want)) o) d = true := by
  show Nat.testBit (2 ^ d ||| maskL o.op.operands.toList) d = true
  rw [Nat.testBit_or, Nat.testBit_two_pow]; simp
theorem writeMask_bit {o : Oper} {d : Nat} (h : o.dst = some d) : Nat.testBit (writeMask o) d = true := by
  unfold writeMask; rw [h]; show Nat.testBit (2 ^ d) d = true
  rw [Nat.testBit_two_pow]; simp

theorem pairOk_true {r r' : OpR} {i b rx wx j b' ry wy : Nat} (h : pairOk (.mk r i b rx wx) (.mk r' j b' ry wy) = true) :
    i ≠ j ∧ (Nat.testBit b' i = true ∨ (isActR r = false ∧ ∀ t, ¬ (Nat.testBit wx t = true ∧ Nat.testBit ry t = true) ∧ ¬ (Nat.testBit wx t = true ∧ Nat.testBit wy t = true) ∧ ¬ (Nat.testBit rx t = true ∧ Nat.testBit wy t = true))) := by
  have h : B (Nat.beq i j) false (B (Nat.testBit b' i) true (B (isActR r) false (Nat.beq (Nat.lor (Nat.land wx (Nat.lor ry wy)) (Nat.land rx wy)) 0))) = true := h
  rw [beq_iff] at h
  by_cases e : i = j
  · rw [decide_eq_true e] at h; cases h
  · rw [decide_eq_false e, B_false] at h
    refine ⟨e, ?_⟩
    cases hb : Nat.testBit b' i with
    | true => exact .inl rfl
    | false =>
      rw [hb, B_false] at h
      cases ha : isActR r with
      | true => rw [ha] at h; cases h
      | false =>
        rw [ha, B_false] at h
        have hz : (wx &&& (ry ||| wy)) ||| (rx &&& wy) = 0 := Nat.eq_of_beq_eq_true h
        refine .inr ⟨rfl, fun t => ?_⟩
        have ht : Nat.testBit ((wx &&& (ry ||| wy)) ||| (rx &&& wy)) t = false := by rw [hz]; exact Nat.zero_testBit t
        rw [Nat.testBit_or, Nat.testBit_and, Nat.testBit_or, Nat.testBit_and] at ht
        cases h1 : Nat.testBit wx t <;> cases h2 : Nat.testBit ry t <;> cases h3 : Nat.testBit wy t <;> cases h4 : Nat.testBit rx t <;> simp_all

theorem allPairs_split : ∀ {pre post : List Item} {x : Item}, allPairs (pre ++ x :: post) = true → (∀ y ∈ pre, pairOk (itemRow y) (itemRow x) = true) ∧ ∀ z ∈ post, pairOk (itemRow x) (itemRow z) = true := by
  have hp : ∀ {r : Row} {l : List Item}, pairsOk r l = true → ∀ z ∈ l, pairOk r (itemRow z) = true := by
    intro r l
    induction l with
    | nil => intro _ z hz; cases hz
    | cons y ys ih =>
      intro h z hz
      have h : B (pairOk r (itemRow y)) (pairsOk r ys) false = true := h
      cases hy : pairOk r (itemRow y) with
      | false => rw [hy] at h; cases h
      | true =>
        rw [hy, B_true] at h
        rcases List.mem_cons.1 hz with rfl | hz
        · exact hy
        · exact ih h z hz
  have hc : ∀ {x : Item} {xs : List Item}, allPairs (x :: xs) = true → pairsOk (itemRow x) xs = true ∧ allPairs xs = true := by
    intro x xs h
    have h : B (pairsOk (itemRow x) xs) (allPairs xs) false = true := h
    cases hx : pairsOk (itemRow x) xs with
    | false => rw [hx] at h; cases h
    | true => rw [hx, B_true] at h; exact ⟨rfl, h⟩
  intro pre
  induction pre with
  | nil =>
    intro post x h
    exact ⟨fun y hy => (by cases hy), hp (hc h).1⟩
  | cons y ys ih =>
    intro post x h
    obtain ⟨h1, h2⟩ := hc (show allPairs (y :: (ys ++ x :: post)) = true from h)
    obtain ⟨h3, h4⟩ := ih h2
    refine ⟨fun z hz => ?_, h4⟩
    rcases List.mem_cons.1 hz with rfl | hz
    · exact hp h1 x (by simp)
    · exact h3 z hz

theorem hisOk_mem {as : List Row} : ∀ {l : List Item}, hisOk as l = true → ∀ x ∈ l, hiOk as x = true
  | [], _, x, hx => by cases hx
  | y :: ys, h, x, hx => by
    have h : B (hiOk as y) (hisOk as ys) false = true := h
    cases hy : hiOk as y with
    | false => rw [hy] at h; cases h
    | true =>
      rw [hy, B_true] at h
      rcases List.mem_cons.1 hx with rfl | hx
      · exact hy
      · exact hisOk_mem h x hx

/-- The act that has n acts ahead of it. -/
theorem nth_act : ∀ {l : List Item} {n : Nat}, n < acts l → ∃ pre x post, l = pre ++ x :: post ∧ itAct x = true ∧ acts pre = n
  | [], n, h => by simp [acts] at h
  | y :: ys, n, h => by
    cases hy : itAct y with
    | false =>
      rw [acts_float hy] at h
      obtain ⟨pre, x, post, h1, h2, h3⟩ := nth_act h
      exact ⟨y :: pre, x, post, by rw [h1]; rfl, h2, by rw [acts_float hy]; exact h3⟩
    | true =>
      rw [acts_act hy] at h
      cases n with
      | zero => exact ⟨[], y, ys, rfl, hy, rfl⟩
      | succ n =>
        obtain ⟨pre, x, post, h1, h2, h3⟩ := nth_act (l := ys) (n := n) (by omega)
        exact ⟨y :: pre, x, post, by rw [h1]; rfl, h2, by rw [acts_act hy, h3]⟩

theorem actsOf_drop : ∀ {pre : List Item} {x : Item} {post : List Item}, itAct x = true → (actsOf (pre ++ x :: post)).drop (acts pre) = itemRow x :: actsOf post
  | [], x, post, hx => by
    show (B (isAct (itemRow x)) (itemRow x :: actsOf post) (actsOf post)).drop 0 = _
    rw [show isAct (itemRow x) = true from hx]; rfl
  | y :: pre, x, post, hx => by
    show (B (isAct (itemRow y)) (itemRow y :: actsOf (pre ++ x :: post)) (actsOf (pre ++ x :: post))).drop (acts (y :: pre)) = _
    cases hy : itAct y with
    | false => rw [show isAct (itemRow y) = false from hy, B_false, acts_float hy]; exact actsOf_drop hx
    | true => rw [show isAct (itemRow y) = true from hy, B_true, acts_act hy, List.drop_succ_cons]; exact actsOf_drop hx

/-! ## What the temporaries hold when some operations have run -/

def valF (acc : Option V) (S : Nat → Bool) (t : Nat) : List Step → Option V
  | [] => acc
  | s :: ss => valF (if S s.i = true ∧ s.dst = some t then some s.v else acc) S t ss

theorem putS_get (tm : T V) (dst : Option Nat) (v : V) (t : Nat) : (putS tm dst v).get t = if dst = some t then some v else tm.get t := by
  cases dst with
  | none => simp [putS]
  | some d =>
    simp only [putS, T.get_set]
    by_cases e : t = d
    · subst e; simp
    · rw [if_neg e, if_neg (by simp; exact fun h => e h.symm)]

theorem valF_all {S : Nat → Bool} {t : Nat} : ∀ {ss : List Step} {tm : T V}, (∀ s ∈ ss, s.dst = some t → S s.i = true) → valF (tm.get t) S t ss = (putsS tm ss).get t
  | [], tm, _ => rfl
  | s :: ss, tm, h => by
    simp only [valF]
    have e : (if S s.i = true ∧ s.dst = some t then some s.v else tm.get t) = (putS tm s.dst s.v).get t := by
      rw [putS_get]
      by_cases hd : s.dst = some t
      · rw [if_pos ⟨h s List.mem_cons_self hd, hd⟩, if_pos hd]
      · rw [if_neg (fun hh => hd hh.2), if_neg hd]
    rw [e]
    exact valF_all fun s' hs' => h s' (List.mem_cons_of_mem _ hs')
theorem valF_none {S : Nat → Bool} {t : Nat} : ∀ {ss : List Step} {acc : Option V}, (∀ s ∈ ss, s.dst = some t → S s.i = false) → valF acc S t ss = acc
  | [], acc, _ => rfl
  | s :: ss, acc, h => by
    simp only [valF]
    rw [if_neg (fun hh => by have := h s List.mem_cons_self hh.2; rw [this] at hh; cases hh.1)]
    exact valF_none fun s' hs' => h s' (List.mem_cons_of_mem _ hs')
theorem valF_append {S : Nat → Bool} {t : Nat} : ∀ {a b : List Step} {acc : Option V}, valF acc S t (a ++ b) = valF (valF acc S t a) S t b
  | [], _, _ => rfl
  | s :: a, b, acc => by simp only [List.cons_append, valF]; exact valF_append
theorem valF_congr {S S' : Nat → Bool} {t : Nat} : ∀ {ss : List Step} {acc : Option V}, (∀ s ∈ ss, S s.i = S' s.i) → valF acc S t ss = valF acc S' t ss
  | [], _, _ => rfl
  | s :: ss, acc, h => by
    simp only [valF]
    rw [h s List.mem_cons_self]
    exact valF_congr fun s' hs' => h s' (List.mem_cons_of_mem _ hs')

theorem operand_of {σ : Names} {ro : Lo} {tm : T V} {a : Act} (hg : ∀ g, g < ro.gl → ∃ b, σ g = some b ∧ b.block = g ∧ b.base = 0) {X : Operand}
    (ht : ∀ t, X = .tmp t → ∀ v, tm.get t = some v → ∃ x, a.tmps[t]? = some x ∧ v.rel σ x) : ORel σ ro tm a.eval X := by
  intro v hv
  cases X with
  | tmp n =>
    obtain ⟨y, hy, hr⟩ := ht n rfl v hv
    show v.rel σ (a.tmps.getD n undef)
    rw [Array.getD_eq_getD_getElem?, hy]; exact hr
  | const c =>
    simp only [evC] at hv
    split at hv
    · rename_i u hu
      obtain rfl := Option.some.inj hv
      exact constV_rel hu
    · simp [E.run] at hv
  | func f =>
    obtain rfl := Option.some.inj hv
    show V.rel σ _ (Value.func (.func f) #[] #[])
    simp only [V.rel]
    exact ⟨#[], #[], rfl, relL_nil, relL_nil⟩
  | global g =>
    simp only [evC] at hv
    cases hb : Nat.blt g ro.gl with
    | false => rw [hb] at hv; simp [E.run] at hv
    | true =>
      rw [hb, B_true] at hv
      obtain rfl := Option.some.inj hv
      obtain ⟨b, hb1, hb2, hb3⟩ := hg g (blt_true hb)
      show V.rel σ _ (Value.pointer (some ⟨g, 0, none⟩))
      simp only [V.rel]
      exact ⟨b, hb1, by rw [hb2, hb3]⟩

end Go.Proofs.YteicddmekhdjeaaGreatDoor.Eng

/- Regions that draw their order: one operation in its turn. -/
namespace Go.Proofs.YteicddmekhdjeaaGreatDoor.Eng
variable [Syms]
open Go.RowKit (Below)

theorem Tr.le {callF : CallF} {fin : T V × Heap × Nat} {l : List Item} {j : Nat} {fs : List Found} {tm : T V} {h : Heap} {nx : Nat} {ss : List Step} {ends : List (Heap × Nat)} (ht : Tr callF fin l j fs tm h nx ss ends) :
    nx ≤ fin.2.2 ∧ ∀ (d : Nat) (H : Heap) (n : Nat), ends[d]? = some (H, n) → nx ≤ n := by
  induction ht with
  | nil _ he =>
    subst he
    refine ⟨Nat.le_refl _, fun d H n hd => ?_⟩
    cases d with
    | zero => simp at hd; omega
    | succ d => simp at hd
  | skip _ _ _ ih | pure _ _ _ ih | read _ _ _ ih => exact ih
  | make _ _ _ ih => exact ⟨by have := ih.1; omega, fun d H n hd => by have := ih.2 d H n hd; omega⟩
  | actSkip _ _ _ ih =>
    refine ⟨ih.1, fun d H n hd => ?_⟩
    cases d with
    | zero => simp at hd; omega
    | succ d => exact ih.2 d H n (by simpa using hd)
  | act _ _ _ hle _ ih =>
    refine ⟨Nat.le_trans hle ih.1, fun d H n hd => ?_⟩
    cases d with
    | zero => simp at hd; omega
    | succ d => exact Nat.le_trans hle (ih.2 d H n (by simpa using hd))

theorem Tr.maps {callF : CallF} {fin : T V × Heap × Nat} {l : List Item} {j : Nat} {fs : List Found} {tm : T V} {h : Heap} {nx : Nat} {ss : List Step} {ends : List (Heap × Nat)} (ht : Tr callF fin l j fs tm h nx ss ends) :
    ss.map (fun s => (s.i, s.dst)) = l.map (fun x => (itI x, itDst x)) := by
  have ht' := ht
  rw [← List.append_nil l] at ht'
  obtain ⟨ss1, ss2, fs', h', nx', e1, e2, e3, -⟩ := Tr.split ht'
  obtain ⟨-, -, rfl⟩ := e2.done
  rw [e1, List.append_nil, e3]

theorem acts_append (a b : List Item) : acts (a ++ b) = acts a + acts b := by simp [acts]

section
variable {P : Program} {ro : Lo} {N D0 nt : Nat} {ops : Array Oper} {callF : CallF} {l : List Item} {all : List Row} {fin : T V × Heap × Nat} {tm0 : T V} {ss : List Step} {ends : List (Heap × Nat)} {σ0 : Names} {nx0 : Nat} {w0 : World}

/-- What holds when the operations of S have run, j acts among them. -/
structure Inv (ro : Lo) (N D0 nt : Nat) (l : List Item) (all : List Row) (tm0 : T V) (ss : List Step) (ends : List (Heap × Nat)) (σ0 : Names) (nx0 : Nat) (w0 : World) (S : Nat → Bool) (j : Nat) (σ : Names) (a : Act) (w : World) : Prop where
  closed : ∀ y ∈ all, S y.i = true → ∀ m, Nat.testBit y.before m = true → S m = true
  acts : ∀ pre x post, l = pre ++ x :: post → itAct x = true → (S (itI x) = true ↔ Eng.acts pre < j)
  jle : j ≤ Eng.acts l
  size : nt ≤ a.tmps.size
  tmps : ∀ t u, valF (tm0.get t) S t ss = some u → ∃ y, a.tmps[t]? = some y ∧ u.rel σ y
  defers : Marks D0 w a.defers
  mem : ∃ H n, ends[j]? = some (H, n) ∧ HRel σ ro N H n w
  names : ∀ s ∈ ss, s.made = true → S s.i = false → σ s.nx = none
  more : More σ0 σ
  new : ∀ i, σ0 i = none → i < nx0 → σ i = none
  below : Keep N w0 w

def ins (S : Nat → Bool) (i : Nat) : Nat → Bool := fun k => if k = i then true else S k
theorem ins_self (S : Nat → Bool) (i : Nat) : ins S i i = true := by simp [ins]
theorem ins_ne {S : Nat → Bool} {i k : Nat} (h : k ≠ i) : ins S i k = S k := by simp [ins, h]
theorem ins_of {S : Nat → Bool} {i k : Nat} (h : S k = true) : ins S i k = true := by unfold ins; split <;> simp_all

/-- The steps and the items go side by side. -/
theorem step_item {ss1 : List Step} {pre : List Item} (h : ss1.map (fun s => (s.i, s.dst)) = pre.map (fun x => (itI x, itDst x))) {s : Step} (hs : s ∈ ss1) : ∃ y ∈ pre, itI y = s.i ∧ itDst y = s.dst := by
  have : (s.i, s.dst) ∈ pre.map (fun x => (itI x, itDst x)) := by rw [← h]; exact List.mem_map.2 ⟨s, hs, rfl⟩
  obtain ⟨y, hy, e⟩ := List.mem_map.1 this
  simp only [Prod.mk.injEq] at e
  exact ⟨y, hy, e.1, e.2⟩

theorem step_sound {rd : Option Nat} (hrows : ∀ y ∈ all, RowOk P ro nt ops all y) (huniq : ∀ y ∈ all, ∀ z ∈ all, y.i = z.i → y = z) (hmem : ∀ x ∈ l, itemRow x ∈ all) (hpairs : allPairs l = true) (hhis : hisOk (actsOf l) l = true)
    {h0 : Heap} (htr : Tr callF fin l 0 [] tm0 h0 nx0 ss ends) {σ1 : Names} (hcall : CallOk P ro σ1 callF) (hmo : More σ1 σ0) (hron : ro.ro ≤ nx0)
    {S : Nat → Bool} {j : Nat} {σ : Names} {a : Act} {w : World} (I : Inv ro N D0 nt l all tm0 ss ends σ0 nx0 w0 S j σ a w)
    {pre post : List Item} {x : Item} (hl : l = pre ++ x :: post) (hS : S (itI x) = false) {o : Oper} (ho : ops[itI x]? = some o)
    (hready : ∀ e ∈ o.after.toList, bindsB e = true → S e.on = true) {K : Act → World → Prop} {Q : Exit → Act → World → Prop}
    (hK : ∀ j' τ a' w', Inv ro N D0 nt l all tm0 ss ends σ0 nx0 w0 (ins S (itI x)) j' τ a' w' → K a' w') : wpOpIn (wideAt rd) 0 P ops Q (itI x) K a w := by
  have hxl : x ∈ l := by rw [hl]; simp
  obtain ⟨o', g, k, pos, i, b, hrow, hoi, hok, hlt, hbits⟩ := hrows _ (hmem x hxl)
  obtain ⟨hi, r⟩ := x
  have hrow : r = Row.mk (.mk g o'.dst k pos) i b (readMask g o') (writeMask o') := hrow
  subst hrow
  have hii : itI (.mk hi (.mk (.mk g o'.dst k pos) i b (readMask g o') (writeMask o'))) = i := rfl
  rw [hii] at hS ho hK ⊢
  rw [hoi] at ho
  obtain rfl := Option.some.inj ho
  -- all that must lie before has run
  have hbefore : ∀ m, Nat.testBit b m = true → S m = true := by
    intro m hm
    obtain ⟨e, he, hb, h⟩ := hbits m hm
    rcases h with rfl | ⟨z, hz, hzi, hzm⟩
    · exact hready e he hb
    · exact I.closed z hz (by rw [hzi]; exact hready e he hb) m hzm
  have hmy := hmem _ hxl
  obtain ⟨hpre, hpost⟩ := allPairs_split (pre := pre) (post := post) (x := .mk hi (.mk (.mk g o'.dst k pos) i b (readMask g o') (writeMask o'))) (by rw [← hl]; exact hpairs)
  -- the closed set of the next state
  have hclosed : ∀ y ∈ all, ins S i y.i = true → ∀ m, Nat.testBit y.before m = true → ins S i m = true := by
    intro y hy hyS m hm
    by_cases e : y.i = i
    · have : y = Row.mk (.mk g o'.dst k pos) i b (readMask g o') (writeMask o') := huniq _ hy _ hmy e
      subst this
      exact ins_of (hbefore m hm)
    · rw [ins_ne e] at hyS
      exact ins_of (I.closed y hy hyS m hm)
  -- an item behind that touches x has not run
  have hbehind : ∀ z ∈ post, ∀ r' i' b' rd' wr', itemRow z = .mk r' i' b' rd' wr' → Nat.testBit b' i = true → S i' = false := by
    intro z hz r' i' b' rd' wr' hzr hbit
    cases hs : S i' with
    | false => rfl
    | true =>
      have hzl : z ∈ l := by rw [hl]; simp [hz]
      have := I.closed (itemRow z) (hmem z hzl) (by rw [hzr]; exact hs) i (by rw [hzr]; exact hbit)
      rw [hS] at this; cases this
  -- the trace, split at x
  have htr' := htr
  rw [hl] at htr'
  obtain ⟨ss1, ss2', fs1, h1, nx1, hss, ht1, hmap, -⟩ := Tr.split htr'
  simp only [Nat.zero_add] at ht1
  have hdistinct : ∀ s ∈ ss1, s.i ≠ i := by
    intro s hs
    obtain ⟨y, hy, hyi, -⟩ := step_item hmap hs
    have := hpre y hy
    obtain ⟨hi', ⟨r', i', b', rd', wr'⟩⟩ := y
    have := (pairOk_true (show pairOk (.mk r' i' b' rd' wr') _ = true from this)).1
    rw [← hyi]; exact this
  -- acts that have run
  have hactsle : Eng.acts pre ≤ j := by
    rcases Nat.lt_or_ge j (Eng.acts pre) with hlt' | hge
    · obtain ⟨p1, y, p2, e1, e2, e3⟩ := nth_act hlt'
      have hy : S (itI y) = true := by
        have hyp : y ∈ pre := by rw [e1]; simp
        have hpo := hpre y hyp
        obtain ⟨hi', ⟨r', i', b', rd', wr'⟩⟩ := y
        rcases (pairOk_true (show pairOk (.mk r' i' b' rd' wr') _ = true from hpo)).2 with hb' | ⟨hna, -⟩
        · exact hbefore _ hb'
        · have : isActR r' = true := e2
          rw [hna] at this; cases this
      have := (I.acts p1 y (p2 ++ _ :: post) (by rw [hl, e1]; simp; rfl) e2).1 hy
      omega
    · exact hge
  -- what the temporaries hold that x looks at
  have hlook : ∀ ss2 : List Step, ss = ss1 ++ ⟨i, o'.dst, (.tuple []), false, 0⟩ :: ss2 ∨ (∃ v m n, ss = ss1 ++ ⟨i, o'.dst, v, m, n⟩ :: ss2) → ss2.map (fun s => (s.i, s.dst)) = post.map (fun x => (itI x, itDst x)) →
      ∀ t, Nat.testBit (readMask g o') t = true → ∀ u, (putsS tm0 ss1).get t = some u → ∃ y, a.tmps[t]? = some y ∧ u.rel σ y := by
    intro ss2 hss2 hmap2 t ht u hu
    obtain ⟨v, m, n, hss3⟩ : ∃ v m n, ss = ss1 ++ ⟨i, o'.dst, v, m, n⟩ :: ss2 := by
      rcases hss2 with h | h
      · exact ⟨_, _, _, h⟩
      · exact h
    refine I.tmps t u ?_
    rw [hss3, valF_append, valF_all, hu]
    · refine valF_none fun s hs hd => ?_
      rcases List.mem_cons.1 hs with rfl | hs
      · exact hS
      · obtain ⟨z, hz, hzi, hzd⟩ := step_item hmap2 hs
        have hpo := hpost z hz
        have hzl : z ∈ l := by rw [hl]; simp [hz]
        obtain ⟨oz, gz, kz, pz, iz, bz, hrz, -⟩ := hrows _ (hmem z hzl)
        obtain ⟨hz', rz⟩ := z
        have hrz : rz = _ := hrz
        subst hrz
        have hdz : oz.dst = some t := by rw [← hd, ← hzd]; rfl
        have hzi : iz = s.i := hzi
        rw [← hzi]
        rcases (pairOk_true hpo).2 with hb' | ⟨-, hno⟩
        · exact hbehind _ hz _ _ _ _ _ rfl hb'
        · exact absurd ⟨ht, writeMask_bit hdz⟩ (hno t).2.2
    · intro s hs hd
      obtain ⟨y, hy, hyi, hyd⟩ := step_item hmap hs
      have hpo := hpre y hy
      have hyl : y ∈ l := by rw [hl]; simp [hy]
      obtain ⟨oy, gy, ky, py, iy, by', hry, -⟩ := hrows _ (hmem y hyl)
      obtain ⟨hy', ry⟩ := y
      have hry : ry = _ := hry
      subst hry
      have hdy : oy.dst = some t := by rw [← hd, ← hyd]; rfl
      have hyi : iy = s.i := hyi
      rw [← hyi]
      rcases (pairOk_true hpo).2 with hb' | ⟨-, hno⟩
      · exact hbefore _ hb'
      · exact absurd ⟨writeMask_bit hdy, ht⟩ (hno t).1
  -- the temporaries behind x
  have htmps' : ∀ (ss2 : List Step) (v : V) (m : Bool) (n : Nat), ss = ss1 ++ ⟨i, o'.dst, v, m, n⟩ :: ss2 → ss2.map (fun s => (s.i, s.dst)) = post.map (fun x => (itI x, itDst x)) →
      ∀ (τ : Names) (y : Value), More σ τ → v.rel τ y → ∀ t u, valF (tm0.get t) (ins S i) t ss = some u → ∃ z, (a.put o'.dst y).tmps[t]? = some z ∧ u.rel τ z := by
    intro ss2 v m n hss3 hmap2 τ y hmore hv t u hu
    have hne2 : ∀ s ∈ ss2, s.i ≠ i := by
      intro s hs
      obtain ⟨z, hz, hzi, -⟩ := step_item hmap2 hs
      have hpo := hpost z hz
      obtain ⟨hz', ⟨r', i', b', rd', wr'⟩⟩ := z
      have := (pairOk_true (show pairOk _ (.mk r' i' b' rd' wr') = true from hpo)).1
      rw [← hzi]; exact fun e => this e.symm
    by_cases hd : o'.dst = some t
    · -- the slot that x writes
      have hval : valF (tm0.get t) (ins S i) t ss = some v := by
        rw [hss3, valF_append]
        simp only [valF]
        rw [if_pos ⟨ins_self S i, hd⟩]
        refine valF_none fun s hs hsd => ?_
        rw [ins_ne (hne2 s hs)]
        obtain ⟨z, hz, hzi, hzd⟩ := step_item hmap2 hs
        have hpo := hpost z hz
        have hzl : z ∈ l := by rw [hl]; simp [hz]
        obtain ⟨oz, gz, kz, pz, iz, bz, hrz, -⟩ := hrows _ (hmem z hzl)
        obtain ⟨hz', rz⟩ := z
        have hrz : rz = _ := hrz
        subst hrz
        have hdz : oz.dst = some t := by rw [← hsd, ← hzd]; rfl
        have hzi : iz = s.i := hzi
        rw [← hzi]
        rcases (pairOk_true hpo).2 with hb' | ⟨-, hno⟩
        · exact hbehind _ hz _ _ _ _ _ rfl hb'
        · exact absurd ⟨writeMask_bit hd, writeMask_bit hdz⟩ (hno t).2.1
      rw [hval] at hu
      obtain rfl := Option.some.inj hu
      have hlt' : t < nt := by
        have := hok.dstOk
        unfold dstOk at this
        rw [hd] at this
        exact blt_true this
      refine ⟨y, ?_, hv⟩
      rw [hd]
      show (a.tmps.setIfInBounds t y)[t]? = some y
      rw [Array.getElem?_setIfInBounds_self_of_lt (Nat.lt_of_lt_of_le hlt' I.size)]
    · have hval : valF (tm0.get t) (ins S i) t ss = valF (tm0.get t) S t ss := by
        rw [hss3, valF_append, valF_append]
        simp only [valF]
        rw [if_neg (fun hh => hd hh.2), if_neg (fun hh => hd hh.2)]
        rw [valF_congr (S := ins S i) (S' := S) (ss := ss1) (fun s hs => ins_ne (hdistinct s hs)), valF_congr (S := ins S i) (S' := S) (ss := ss2) (fun s hs => ins_ne (hne2 s hs))]
      rw [hval] at hu
      obtain ⟨z, hz, hr⟩ := I.tmps t u hu
      refine ⟨z, ?_, hr.more hmore⟩
      cases hd2 : o'.dst with
      | none => exact hz
      | some d =>
        show (a.tmps.setIfInBounds d y)[t]? = some z
        rw [Array.getElem?_setIfInBounds_ne (fun e => hd (by rw [hd2, e]))]
        exact hz
  have hsize' : ∀ y, nt ≤ (a.put o'.dst y).tmps.size := by
    intro y
    cases hd2 : o'.dst with
    | none => exact I.size
    | some d => show nt ≤ (a.tmps.setIfInBounds d y).size; simpa using I.size
  have hk : k = kind P ro o'.op := hok.kind
  obtain ⟨H, n, hend, Hm⟩ := I.mem
  -- a float: till when its window lasts
  have hwin : isActK k = false → j ≤ hi := by
    intro hna
    rcases Nat.lt_or_ge hi j with hlt' | hge
    · have hjl : hi < Eng.acts l := Nat.lt_of_lt_of_le hlt' I.jle
      obtain ⟨p1, y, p2, e1, e2, e3⟩ := nth_act hjl
      have hh := hisOk_mem hhis _ hxl
      have hh : B (isActK k) true (L ((actsOf l).drop hi) true fun a _ => Nat.testBit a.before i) = true := hh
      rw [hna, B_false] at hh
      have hd := actsOf_drop (pre := p1) (post := p2) e2
      rw [← e1, e3] at hd
      rw [hd, L_cons] at hh
      have hys := (I.acts p1 y p2 e1 e2).2 (by omega)
      have := I.closed (itemRow y) (hmem y (by rw [e1]; simp)) hys i hh
      rw [hS] at this; cases this
    · exact hge
  have hfl : ∀ p1 y p2, l = p1 ++ y :: p2 → itAct y = true → isActK k = false → itI y ≠ i := by
    intro p1 y p2 e1 e2 hna e
    have hy := hmem y (by rw [e1]; simp)
    have := huniq _ hy _ hmy e
    have h3 : itAct y = isActK k := by unfold itAct; rw [this]; rfl
    rw [h3, hna] at e2; cases e2
  -- a float that turns no memory and makes none
  have hfloat : isActK k = false → ∀ (ss2 : List Step) (v : V) (n' : Nat), ss = ss1 ++ ⟨i, o'.dst, v, false, n'⟩ :: ss2 → ss2.map (fun s => (s.i, s.dst)) = post.map (fun x => (itI x, itDst x)) → ∀ y, v.rel σ y → K (a.put o'.dst y) w := by
    intro hna ss2 v n' hss3 hmap2 y hv
    refine hK j σ _ w
      { closed := hclosed
        acts := fun p1 z p2 e1 e2 => by rw [ins_ne (hfl p1 z p2 e1 e2 hna)]; exact I.acts p1 z p2 e1 e2
        jle := I.jle
        size := hsize' y
        tmps := htmps' ss2 v false n' hss3 hmap2 σ y (More.refl σ) hv
        defers := by rw [put_defers]; exact I.defers
        mem := ⟨H, n, hend, Hm⟩
        names := fun s hs hm hsi => by
          have hne : s.i ≠ i := fun e => by rw [e, ins_self] at hsi; cases hsi
          rw [ins_ne hne] at hsi
          exact I.names s hs hm hsi
        more := I.more
        new := I.new
        below := I.below }
  have hwp : ∀ (v : Bool), wants g (putsS tm0 ss1) = some v → (∀ d want, g = some (d, want) → ∀ u, (putsS tm0 ss1).get d = some u → ∃ x, a.tmps[d]? = some x ∧ u.rel σ x) → Region.wanted o' (yielded ops a.tmps) = v := fun v hw ht => wants_sound hok.guard ht hw
  have hat : ∀ e d, ends.drop (Eng.acts pre) = e :: d → ends[Eng.acts pre]? = some e := by
    intro e d he
    have := congrArg (fun q => q[0]?) he
    simpa using this
  -- which acts have run when x, an act, has
  have hactiff : isActK k = true → Eng.acts pre = j → ∀ p1 z p2, l = p1 ++ z :: p2 → itAct z = true → (ins S i (itI z) = true ↔ Eng.acts p1 < j + 1) := by
    intro hact hj p1 z p2 e1 e2
    have hxa : itAct (.mk hi (.mk (.mk g o'.dst k pos) i b (readMask g o') (writeMask o'))) = true := hact
    have hdx := actsOf_drop (pre := pre) (post := post) hxa
    rw [← hl, hj] at hdx
    by_cases e : itI z = i
    · refine ⟨fun _ => ?_, fun _ => by rw [e]; exact ins_self S i⟩
      rcases Nat.lt_or_ge j (Eng.acts p1) with hgt | hle
      · -- x would lie ahead of z, and be z
        obtain ⟨q1, y, q2, e3, e4, e5⟩ := nth_act hgt
        have hdy := actsOf_drop (pre := q1) (post := q2 ++ z :: p2) e4
        rw [show q1 ++ y :: (q2 ++ z :: p2) = l by rw [e1, e3]; simp, e5, hdx] at hdy
        have hyx : itemRow y = .mk (.mk g o'.dst k pos) i b (readMask g o') (writeMask o') := (List.cons.inj hdy).1.symm
        have hpz := (allPairs_split (pre := p1) (post := p2) (x := z) (by rw [← e1]; exact hpairs)).1 y (by rw [e3]; simp)
        rw [hyx] at hpz
        obtain ⟨hz', ⟨r', i', b', rd', wr'⟩⟩ := z
        have := (pairOk_true (show pairOk _ (.mk r' i' b' rd' wr') = true from hpz)).1
        exact absurd e.symm this
      · omega
    · rw [ins_ne e, I.acts p1 z p2 e1 e2]
      refine ⟨fun h => by omega, fun h => ?_⟩
      rcases Nat.lt_or_ge (Eng.acts p1) j with h2 | h2
      · exact h2
      · exfalso
        have h3 : Eng.acts p1 = j := by omega
        have hdz := actsOf_drop (pre := p1) (post := p2) e2
        rw [← e1, h3, hdx] at hdz
        have hzx : itemRow z = .mk (.mk g o'.dst k pos) i b (readMask g o') (writeMask o') := (List.cons.inj hdz).1.symm
        exact e (by unfold itI; rw [hzx]; rfl)
  unfold wpOpIn
  rw [hoi]
  simp only
  generalize hed : ends.drop (Eng.acts pre) = ed at ht1
  have hej : ed[j - Eng.acts pre]? = some (H, n) := by rw [← hed, List.getElem?_drop, show Eng.acts pre + (j - Eng.acts pre) = j by omega]; exact hend
  cases ht1 with
  | skip hw hna ht2 =>
    rename_i ss2
    have hmap2 := ht2.maps
    have hl2 := hlook ss2 (.inr ⟨_, _, _, hss⟩) hmap2
    rw [if_neg (by rw [hwp false hw (fun d want hg => hl2 d (by rw [hg]; exact readMask_guard))]; decide)]
    refine ⟨fun _ _ => trivial, ?_⟩
    exact hfloat hna ss2 _ _ hss hmap2 undef undef_rel
  | pure hw hv ht2 =>
    rename_i f v ss2
    have hmap2 := ht2.maps
    have hl2 := hlook ss2 (.inr ⟨_, _, _, hss⟩) hmap2
    rw [if_pos (hwp true hw (fun d want hg => hl2 d (by rw [hg]; exact readMask_guard)))]
    obtain ⟨Y, hY, hr⟩ := pure_sound (σ := σ) hk.symm hv (ρ := a.eval) (fun X hX => operand_of Hm.globals fun t e => hl2 t (readMask_op (by rw [← e]; exact hX))) o' rfl w
    refine ⟨fun _ _ => trivial, ?_⟩
    rw [semAt_of hk.symm (fun e => by cases e) rd]
    rw [hY]
    exact hfloat rfl ss2 v _ hss hmap2 Y hr
  | read hw hf ht2 =>
    rename_i f r v ss2
    have hmap2 := ht2.maps
    have hl2 := hlook ss2 (.inr ⟨_, _, _, hss⟩) hmap2
    rw [if_pos (hwp true hw (fun d want hg => hl2 d (by rw [hg]; exact readMask_guard)))]
    have hfo : FoundOk H (.read hi r v) := ht2.found _ List.mem_cons_self (j - Eng.acts pre) H n hej (by
      have := hwin rfl
      show Eng.acts pre + (j - Eng.acts pre) ≤ hi
      omega)
    obtain ⟨Y, hY, hr⟩ := read_sound hk.symm hf (ρ := a.eval) (fun X hX => operand_of Hm.globals fun t e => hl2 t (readMask_op (by rw [← e]; exact hX))) o' rfl Hm hfo
    refine ⟨fun _ _ => trivial, ?_⟩
    rw [semAt_of hk.symm (fun e => by cases e) rd]
    rw [hY]
    exact hfloat rfl ss2 v _ hss hmap2 Y hr
  | make hw hf ht2 =>
    rename_i f v c ss2
    have hmap2 := ht2.maps
    have hl2 := hlook ss2 (.inr ⟨_, _, _, hss⟩) hmap2
    rw [if_pos (hwp true hw (fun d want hg => hl2 d (by rw [hg]; exact readMask_guard)))]
    have hfo : FoundOk H (.block hi nx1 (T.sets c .nil 0)) := ht2.found _ List.mem_cons_self (j - Eng.acts pre) H n hej (by
      have := hwin rfl
      show Eng.acts pre + (j - Eng.acts pre) ≤ hi
      omega)
    have hnn : nx1 + 1 ≤ n := ht2.le.2 (j - Eng.acts pre) H n hej
    obtain ⟨hris1, hris2⟩ := htr.rising
    have hsx : (⟨i, o'.dst, v, true, nx1⟩ : Step) ∈ ss := by rw [hss]; simp
    have hnx0 : nx0 ≤ nx1 := hris1 _ hsx
    have hnone : σ nx1 = none := I.names _ hsx rfl hS
    obtain ⟨Y, w', hY, ⟨C, M, hrv, hrl⟩⟩ := make_sound (σ := σ) hk.symm hf (ρ := a.eval) (fun X hX => operand_of Hm.globals fun t e => hl2 t (readMask_op (by rw [← e]; exact hX))) o' rfl w
    have hmore := upd_more (b := ⟨w.heap.size, 0, C.size, .no⟩) hnone
    refine ⟨fun _ _ => trivial, ?_⟩
    rw [semAt_of hk.symm (fun e => by cases e) rd]
    rw [hY]
    refine hK j (upd σ nx1 ⟨w.heap.size, 0, C.size, .no⟩) _ w'
      { closed := hclosed
        acts := fun p1 z p2 e1 e2 => by rw [ins_ne (hfl p1 z p2 e1 e2 rfl)]; exact I.acts p1 z p2 e1 e2
        jle := I.jle
        size := hsize' Y
        tmps := htmps' ss2 v true nx1 hss hmap2 _ Y hmore (hrv _ hmore (upd_same _ _ _))
        defers := by rw [put_defers]; exact I.defers.keep (M.below Hm.low)
        mem := ⟨H, n, hend, Hm.named (by omega) (by omega) hnone hfo M (fun o'' v'' h'' => hrl o'' v'' (sets_get c h''))⟩
        names := fun s hs hm hsi => by
          have hne : s.i ≠ i := fun e => by rw [e, ins_self] at hsi; cases hsi
          rw [ins_ne hne] at hsi
          have hsn := I.names s hs hm hsi
          have : s.nx ≠ nx1 := by
            rw [hss] at hs hris2
            rcases List.mem_append.1 hs with h1 | h1
            · have := (List.pairwise_append.1 hris2).2.2 s h1 _ List.mem_cons_self
              have := this.2 hm
              simp only at this; omega
            · rcases List.mem_cons.1 h1 with rfl | h1
              · exact absurd rfl hne
              · have := (List.pairwise_cons.1 (List.pairwise_append.1 hris2).2.1).1 s h1
                have := this.2 rfl
                simp only at this; omega
          unfold upd
          rw [if_neg this]; exact hsn
        more := I.more.trans hmore
        new := fun q hq hlt' => by
          unfold upd
          rw [if_neg (by omega)]; exact I.new q hq hlt'
        below := I.below.trans (M.below Hm.low) }
  | actSkip hw ha ht2 =>
    rename_i f ss2 ends2
    have hmap2 := ht2.maps
    have hl2 := hlook ss2 (.inr ⟨_, _, _, hss⟩) hmap2
    rw [if_neg (by rw [hwp false hw (fun d want hg => hl2 d (by rw [hg]; exact readMask_guard))]; decide)]
    refine ⟨fun _ _ => trivial, ?_⟩
    obtain ⟨hj, rfl, rfl⟩ : Eng.acts pre = j ∧ H = h1 ∧ n = nx1 := by
      have hge : j ≤ Eng.acts pre := by
        rcases Nat.lt_or_ge (Eng.acts pre) j with h | h
        · have := (I.acts pre _ post hl rfl).2 h
          rw [hii, hS] at this; cases this
        · exact h
      have hj : Eng.acts pre = j := by omega
      have := hat _ _ hed
      rw [hj, hend] at this
      simp only [Option.some.injEq, Prod.mk.injEq] at this
      exact ⟨hj, this.1, this.2⟩
    obtain ⟨H', n', he', -, hm'⟩ := ht2.first
    refine hK (j + 1) σ _ w
      { closed := hclosed
        acts := hactiff rfl hj
        jle := by rw [hl, acts_append, acts_act (by rfl)]; omega
        size := hsize' undef
        tmps := htmps' ss2 _ false n hss hmap2 σ undef (More.refl σ) undef_rel
        defers := by rw [put_defers]; exact I.defers
        mem := ⟨H', n', by rw [← hj]; have := congrArg (fun q => q[1]?) hed; simp only [List.getElem?_drop] at this; rw [this]; simpa using he', hm' σ ro N w Hm⟩
        names := fun s hs hm hsi => by
          have hne : s.i ≠ i := fun e => by rw [e, ins_self] at hsi; cases hsi
          rw [ins_ne hne] at hsi
          exact I.names s hs hm hsi
        more := I.more
        new := I.new
        below := I.below }
  | act hw ha hv hle ht2 =>
    rename_i f v h2 n2 ss2 ends2
    have hmap2 := ht2.maps
    have hl2 := hlook ss2 (.inr ⟨_, _, _, hss⟩) hmap2
    rw [if_pos (hwp true hw (fun d want hg => hl2 d (by rw [hg]; exact readMask_guard)))]
    obtain ⟨hj, rfl, rfl⟩ : Eng.acts pre = j ∧ H = h1 ∧ n = nx1 := by
      have hge : j ≤ Eng.acts pre := by
        rcases Nat.lt_or_ge (Eng.acts pre) j with h | h
        · have := (I.acts pre _ post hl rfl).2 h
          rw [hii, hS] at this; cases this
        · exact h
      have hj : Eng.acts pre = j := by omega
      have := hat _ _ hed
      rw [hj, hend] at this
      simp only [Option.some.injEq, Prod.mk.injEq] at this
      exact ⟨hj, this.1, this.2⟩
    obtain ⟨hris1, hris2⟩ := htr.rising
    have hsx : (⟨i, o'.dst, v, false, n⟩ : Step) ∈ ss := by rw [hss]; simp
    have hnx0 : nx0 ≤ n := hris1 _ hsx
    have hd := act_sound (σ := σ) (N := N) hk.symm hcall (hmo.trans I.more) hv (ρ := a.eval) (fun X hX => operand_of Hm.globals fun t e => hl2 t (readMask_op (by rw [← e]; exact hX))) o' rfl (Nat.le_trans hron hnx0) Hm
    refine ⟨fun _ _ => trivial, ?_⟩
    rw [semAt_of hk.symm (fun e => by cases e) rd]
    refine hd.upon fun y w' ⟨_, τ, hmore, hnew, hrel, Hm2, hbel⟩ => ?_
    obtain ⟨H', n', he', -, hm'⟩ := ht2.first
    obtain ⟨hris3, -⟩ := ht2.rising
    refine hK (j + 1) τ _ w'
      { closed := hclosed
        acts := hactiff rfl hj
        jle := by rw [hl, acts_append, acts_act (by rfl)]; omega
        size := hsize' y
        tmps := htmps' ss2 v false n hss hmap2 τ y hmore hrel
        defers := by rw [put_defers]; exact I.defers.keep hbel
        mem := ⟨H', n', by rw [← hj]; have := congrArg (fun q => q[1]?) hed; simp only [List.getElem?_drop] at this; rw [this]; simpa using he', hm' τ ro N w' Hm2⟩
        names := fun s hs hm hsi => by
          have hne : s.i ≠ i := fun e => by rw [e, ins_self] at hsi; cases hsi
          rw [ins_ne hne] at hsi
          have hsn := I.names s hs hm hsi
          rw [hss] at hs hris2
          rcases List.mem_append.1 hs with h1 | h1
          · have := (List.pairwise_append.1 hris2).2.2 s h1 _ List.mem_cons_self
            exact hnew _ hsn (this.2 hm)
          · rcases List.mem_cons.1 h1 with rfl | h1
            · exact absurd rfl hne
            · cases hc : τ s.nx with
              | none => rfl
              | some bb =>
                have h5 := Hm2.old _ bb hc
                have h6 := hris3 s h1
                omega
        more := I.more.trans hmore
        new := fun q hq hlt' => hnew q (I.new q hq hlt') (by omega)
        below := I.below.trans hbel }

end
end Go.Proofs.YteicddmekhdjeaaGreatDoor.Eng

/- Regions that draw their order: the whole region. -/
namespace Go.Proofs.YteicddmekhdjeaaGreatDoor.Eng
variable [Syms]
open Go.RowKit (Below)

/-- How many of the first n have not run. -/
def left (S : Nat → Bool) : Nat → Nat
  | 0 => 0
  | n + 1 => left S n + if S n = true then 0 else 1
theorem left_zero {S : Nat → Bool} : ∀ {n : Nat}, left S n = 0 → ∀ i, i < n → S i = true
  | 0, _, i, h => absurd h (Nat.not_lt_zero _)
  | n + 1, h, i, hi => by
    simp only [left] at h
    have h1 : left S n = 0 := by omega
    by_cases e : i = n
    · subst e
      cases hs : S i with
      | true => rfl
      | false => rw [hs] at h; simp at h
    · exact left_zero h1 i (by omega)
theorem left_ins {S : Nat → Bool} {i : Nat} : ∀ {n : Nat}, i < n → S i = false → left (ins S i) n + 1 = left S n
  | 0, h, _ => absurd h (Nat.not_lt_zero _)
  | n + 1, h, hs => by
    simp only [left]
    by_cases e : i = n
    · subst e
      have : left (ins S i) i = left S i := by
        have : ∀ m, m ≤ i → left (ins S i) m = left S m := by
          intro m
          induction m with
          | zero => intro _; rfl
          | succ m ih =>
            intro hm
            simp only [left]
            rw [ih (by omega), ins_ne (by omega)]
        exact this i (Nat.le_refl _)
      rw [this, ins_self, hs]; simp
    · have ih := left_ins (n := n) (by omega) hs
      rw [ins_ne (fun e2 => e e2.symm)]
      omega
theorem left_pos {S : Nat → Bool} {n i : Nat} (hi : i < n) (hs : S i = false) : 0 < left S n := by
  have := left_ins (n := n) hi hs; omega
/-- The least that has not run. -/
theorem least {S : Nat → Bool} {n i : Nat} (hi : i < n) (hs : S i = false) : ∃ m, m < n ∧ S m = false ∧ ∀ q, q < m → S q = true := by
  induction i using Nat.strongRecOn with
  | _ i ih =>
    by_cases h : ∃ q, q < i ∧ S q = false
    · obtain ⟨q, hq, hsq⟩ := h
      exact ih q hq (by omega) hsq
    · refine ⟨i, hi, hs, fun q hq => ?_⟩
      cases hc : S q with
      | true => rfl
      | false => exact absurd ⟨q, hq, hc⟩ h

theorem binds_any (e : Edge) : Region.binds .any e = bindsB e := by
  unfold Region.binds bindsB
  cases e.ground <;> rfl

section
variable {P : Program} {ro : Lo} {N D0 nt : Nat} {ops : Array Oper}

theorem draw_sound {rd : Option Nat} (hm : P.follows .mixedOrders = true) {callF : CallF} {σ1 : Names} (hcall : CallOk P ro σ1 callF) {l : List Item} (hp : PlanOk P ro nt ops l) {tm : T V} {h : Heap} {nx : Nat} {tm' : T V} {h' : Heap} {nx' : Nat}
    (hx : itemsRun callF l 0 [] tm h nx = .ok .normal tm' h' nx') {σ : Names} (hmo : More σ1 σ) {a : Act} {w : World} (S0 : St σ ro N D0 nt tm h nx a w) {id : Nat} {Q : Exit → Act → World → Prop}
    (hQ : ∀ τ a' w', After N σ nx w τ nx' w' → St τ ro N D0 nt tm' h' nx' a' w' → Q .normal a' w') : (Code.region id ops true).wpIn (wideAt rd) 0 P Q a w := by
  obtain ⟨-, ss, ends, htr⟩ := itemsRun_tr hx
  obtain ⟨⟨all, hrows, huniq, hmem⟩, hlen, hpairs, hhis⟩ := hp
  refine wpIn_region_any hm ?_
  -- every operation is an item
  have hidx : ∀ x ∈ l, itI x < ops.size := by
    intro x hx
    obtain ⟨o, g, k, pos, i, b, hrow, ho, -⟩ := hrows _ (hmem x hx)
    have : itI x = i := by unfold itI; rw [hrow]; rfl
    rw [this]
    exact (Array.getElem?_eq_some_iff.1 ho).1
  have hdist : (l.map itI).Pairwise (· ≠ ·) := by
    have : ∀ (m : List Item), (∃ pre, l = pre ++ m) → (m.map itI).Pairwise (· ≠ ·) := by
      intro m
      induction m with
      | nil => intro _; exact List.Pairwise.nil
      | cons x xs ih =>
        rintro ⟨pre, e⟩
        rw [List.map_cons]
        refine List.Pairwise.cons (fun i hi => ?_) (ih ⟨pre ++ [x], by rw [e]; simp⟩)
        obtain ⟨z, hz, rfl⟩ := List.mem_map.1 hi
        have hpo := (allPairs_split (pre := pre) (post := xs) (x := x) (by rw [← e]; exact hpairs)).2 z hz
        obtain ⟨h1, ⟨r1, i1, b1, rd1, wr1⟩⟩ := x
        obtain ⟨h2, ⟨r2, i2, b2, rd2, wr2⟩⟩ := z
        exact (pairOk_true hpo).1
    exact this l ⟨[], rfl⟩
  have hcover : ∀ i, i < ops.size → ∃ pre x post, l = pre ++ x :: post ∧ itI x = i := by
    intro i hi
    have := pigeon_mem hdist (fun q hq => by obtain ⟨x, hx, rfl⟩ := List.mem_map.1 hq; exact hidx x hx) (by rw [List.length_map, hlen]) hi
    obtain ⟨x, hx, e⟩ := List.mem_map.1 this
    obtain ⟨pre, post, e2⟩ := List.append_of_mem hx
    exact ⟨pre, x, post, e2, e⟩
  -- the end
  have hend : ∀ (S : Nat → Bool) j τ a' w', Inv ro N D0 nt l all tm ss ends σ nx w S j τ a' w' → (∀ i, i < ops.size → S i = true) → Q .normal a' w' := by
    intro S j τ a' w' I hall
    have hj : j = Eng.acts l := by
      rcases Nat.lt_or_ge j (Eng.acts l) with hlt | hge
      · obtain ⟨pre, x, post, e1, e2, e3⟩ := nth_act hlt
        have := (I.acts pre x post e1 e2).1 (hall _ (hidx x (by rw [e1]; simp)))
        omega
      · exact Nat.le_antisymm I.jle hge
    have htr' := htr
    rw [← List.append_nil l] at htr'
    obtain ⟨ss1, ss2, fs', h1, nx1, e1, e2, e3, -⟩ := Tr.split htr'
    obtain ⟨hfin, hends, rfl⟩ := e2.done
    rw [List.append_nil] at e1
    subst e1
    simp only [Prod.mk.injEq] at hfin
    obtain ⟨rfl, rfl, rfl⟩ := hfin
    obtain ⟨H, n, he, Hm⟩ := I.mem
    have he' : ends[Eng.acts l]? = some (h', nx') := by
      have := congrArg (fun q => q[0]?) hends
      simpa using this
    rw [hj, he'] at he
    simp only [Option.some.injEq, Prod.mk.injEq] at he
    obtain ⟨rfl, rfl⟩ := he
    have hle : nx ≤ nx' := htr.le.1
    refine hQ τ a' w' ⟨I.more, I.new, hle, I.below⟩
      { tmps := ⟨I.size, fun i v hv => I.tmps i v (by
          rw [valF_all]
          · exact hv
          · intro s hs _
            obtain ⟨y, hy, hyi, -⟩ := step_item e3 hs
            rw [← hyi]; exact hall _ (hidx y hy))⟩
        defers := I.defers
        mem := Hm
        ron := Nat.le_trans S0.ron hle
        d0 := Nat.le_trans S0.d0 I.below.below.size }
  -- all orders
  have key : ∀ (fuel : Nat) (listed : Array Bool) j τ a' w', listed.size = ops.size → Inv ro N D0 nt l all tm ss ends σ nx w (fun i => listed.getD i false) j τ a' w' → left (fun i => listed.getD i false) ops.size ≤ fuel →
      wpAnyIn (wideAt rd) 0 P .any ops Q fuel listed a' w' := by
    intro fuel
    induction fuel with
    | zero =>
      intro listed j τ a' w' hsz I hle
      have hall := left_zero (S := fun i => listed.getD i false) (n := ops.size) (by omega)
      refine ⟨?_, hend _ j τ a' w' I hall⟩
      unfold Region.ready
      rw [List.filter_eq_nil_iff]
      intro i hi
      have hi' : i < ops.size := List.mem_range.1 hi
      have h1 : listed.getD i false = true := hall i hi'
      have h2 : listed.getD i true = true := by
        simp only [Array.getD_eq_getD_getElem?] at h1 ⊢
        rw [Array.getElem?_eq_getElem (by omega)] at h1 ⊢
        exact h1
      simp [h2]
    | succ fuel ih =>
      intro listed j τ a' w' hsz I hle
      have hget : ∀ i, i < ops.size → listed.getD i true = listed.getD i false := by
        intro i hi
        simp only [Array.getD_eq_getD_getElem?]
        rw [Array.getElem?_eq_getElem (by omega)]
        rfl
      refine ⟨fun hr => ?_, fun i hi => ?_⟩
      · -- nothing is ready: all have run
        refine hend _ j τ a' w' I fun i hi => ?_
        cases hs : listed.getD i false with
        | true => rfl
        | false =>
          exfalso
          obtain ⟨m, hm1, hm2, hm3⟩ := least (S := fun i => listed.getD i false) hi hs
          obtain ⟨pre, x, post, e1, e2⟩ := hcover m hm1
          obtain ⟨o, g, k, pos, i', b, hrow, ho, -, hlt, -⟩ := hrows _ (hmem x (by rw [e1]; simp))
          have hi' : i' = m := by rw [← e2]; unfold itI; rw [hrow]; rfl
          subst hi'
          have : i' ∈ Region.ready .any ops listed := by
            unfold Region.ready
            rw [List.mem_filter]
            refine ⟨List.mem_range.2 hm1, ?_⟩
            rw [hget i' hm1]
            have hm2' : listed.getD i' false = false := hm2
            rw [hm2', ho]
            simp only [Bool.not_false, Option.map_some, Option.getD_some, Bool.true_and]
            rw [Array.all_eq_true_iff_forall_mem]
            intro e he
            rw [binds_any]
            cases hb : bindsB e with
            | false => rfl
            | true => simpa using hm3 _ (hlt e (Array.mem_toList_iff.2 he) hb)
          rw [hr] at this; cases this
      · -- one that is ready runs
        unfold Region.ready at hi
        rw [List.mem_filter] at hi
        obtain ⟨hi1, hi2⟩ := hi
        have hi' : i < ops.size := List.mem_range.1 hi1
        rw [Bool.and_eq_true] at hi2
        obtain ⟨hi3, hi4⟩ := hi2
        rw [hget i hi'] at hi3
        have hs : listed.getD i false = false := by simpa using hi3
        obtain ⟨pre, x, post, e1, e2⟩ := hcover i hi'
        subst e2
        have ho : ops[itI x]? = some ops[itI x] := Array.getElem?_eq_getElem hi'
        refine step_sound hrows huniq hmem hpairs hhis htr hcall hmo S0.ron I e1 hs ho (fun e he hb => ?_) fun j' τ' a'' w'' I' => ?_
        · rw [ho] at hi4
          simp only [Option.map_some, Option.getD_some] at hi4
          have := Array.all_eq_true_iff_forall_mem.1 hi4 e (Array.mem_toList_iff.1 he)
          rw [binds_any, hb] at this
          simpa using this
        · have hS : (fun q => (listed.setIfInBounds (itI x) true).getD q false) = ins (fun q => listed.getD q false) (itI x) := by
            funext q
            unfold ins
            simp only [Array.getD_eq_getD_getElem?]
            by_cases e : q = itI x
            · rw [if_pos e, e, Array.getElem?_setIfInBounds_self_of_lt (by omega)]; rfl
            · rw [if_neg e, Array.getElem?_setIfInBounds_ne (fun e2 => e e2.symm)]
          refine ih _ j' τ' a'' w'' (by simpa using hsz) (by rw [hS]; exact I') ?_
          rw [hS]
          have := left_ins (S := fun q => listed.getD q false) hi' hs
          omega
  refine key ops.size _ 0 σ a _ (by simp) ?_ ?_
  · have hfalse : ∀ i, (Array.replicate ops.size false).getD i false = false := by
      intro i
      simp only [Array.getD_eq_getD_getElem?, Array.getElem?_replicate]
      split <;> rfl
    obtain ⟨H, n, he, hle, hmm⟩ := htr.first
    exact
      { closed := fun y _ hy => by simp only [hfalse] at hy; cases hy
        acts := fun pre x post _ _ => by simp only [hfalse]; simp
        jle := Nat.zero_le _
        size := S0.tmps.size
        tmps := fun t u hu => by
          rw [valF_none (fun s _ _ => hfalse s.i)] at hu
          exact S0.tmps.get t u hu
        defers := S0.defers.keep (Keep.refl N w).drew
        mem := ⟨H, n, he, hmm σ ro N _ (S0.mem.drew _)⟩
        names := fun s hs _ _ => by
          cases hc : σ s.nx with
          | none => rfl
          | some b =>
            have h1 := S0.mem.old _ b hc
            have h2 := htr.rising.1 s hs
            omega
        more := More.refl σ
        new := fun _ hh _ => hh
        below := (Keep.refl _ _).drew }
  · have : ∀ (S : Nat → Bool) n, left S n ≤ n := by
      intro S n
      induction n with
      | zero => exact Nat.le_refl _
      | succ n ih => simp only [left]; split <;> omega
    exact this _ _

theorem itemsRun_normal {callF : CallF} {l : List Item} {j : Nat} {fs : List Found} {tm : T V} {h : Heap} {nx : Nat} {e : Ex} {tm' : T V} {h' : Heap} {nx' : Nat} (hx : itemsRun callF l j fs tm h nx = .ok e tm' h' nx') : e = .normal := (itemsRun_tr hx).1

end
end Go.Proofs.YteicddmekhdjeaaGreatDoor.Eng

/- The record of a loop over a function. -/
namespace Go.Proofs.YteicddmekhdjeaaGreatDoor.Eng
variable [Syms]
open Go.RowKit (Below)

section
variable {P : Program} {ro : Lo} {σ : Names} {N nx : Nat} {h : Heap} {w : World}

/-- What is known of a loop's state is so. -/
theorem stateOf_ok (H : HRel σ ro N h nx w) {i n : Nat} {b : BI} {r : Loop} (hr : ro.ro ≤ i) (hb : σ i = some b) (hod : b.odd = .loop r) (hn : stateOf h nx i = some n) : nx ≤ big ∧ w.heap[b.block]? = some (loopAt r n) := by
  unfold stateOf at hn
  obtain ⟨h1, h2⟩ := B_some hn
  rw [ble_iff] at h1
  have h1 : nx ≤ big := by simpa using h1
  obtain ⟨blk, h3, h4⟩ := O_some' h2
  obtain ⟨v, h5, h6⟩ := O_some' h4
  obtain ⟨k, z, rfl, h7⟩ := onInt_some h6
  obtain ⟨h8, h9⟩ := B_some h7
  obtain ⟨m, rfl, h10⟩ := Z_some h9
  obtain rfl := Option.some.inj h10
  obtain rfl := kindEq_true h8
  have h11 := ((H.odd i b hb (by rw [hod]; rfl)).2.2 hr).2 h1 blk h3
  rw [hod] at h11
  exact ⟨h1, h11 _ h5⟩

theorem loopAt_loop (r : Loop) (n : Nat) : ∃ q, loopAt r n = Obj.loop q ∧ q.fn = r.fn ∧ q.tmps = r.tmps ∧ q.params = r.params ∧ q.assign = r.assign ∧ q.body = r.body ∧ q.defers = r.defers := by
  unfold loopAt
  split <;> exact ⟨_, rfl, rfl, rfl, rfl, rfl, rfl, rfl⟩

theorem putState_ok {R : Type} {h : Heap} {nx i n : Nat} {d : R} {c : Heap → R} {x : R} (e : putState h nx i n d c = x) (hd : d ≠ x) : c (h.set (some (T.sets [.int .u64 (Int.ofNat n)] .nil 0)) (i + big)) = x := by
  unfold putState at e
  cases hb : Nat.ble nx big with
  | false => rw [hb] at e; exact absurd e hd
  | true =>
    rw [hb, B_true, forceN_eq, T.setsK_eq, T.setK_eq] at e
    exact e

theorem putState_big {R : Type} {h : Heap} {nx i n : Nat} {d : R} {c : Heap → R} {x : R} (e : putState h nx i n d c = x) (hd : d ≠ x) : nx ≤ big := by
  unfold putState at e
  cases hb : Nat.ble nx big with
  | false => rw [hb] at e; exact absurd e hd
  | true => exact Nat.le_of_ble_eq_true hb

theorem state_odd (σ : Names) (r : Loop) (n : Nat) {q : Loop} (hq : loopAt r n = Obj.loop q) : ∀ c, some (T.sets [V.int .u64 (Int.ofNat n)] .nil 0) = some c → OddRel σ (.loop r) c (some (Obj.loop q)) := by
  intro c hc
  obtain rfl := Option.some.inj hc
  intro m hm
  rw [T.get_sets] at hm
  simp at hm
  have hnm : n = m := by omega
  subst hnm
  rw [hq]

theorem setPs_ok {nt : Nat} {R : Type} {d : R} {c : T V → R} {x : R} (hd : d ≠ x) : ∀ {ps : List Nat} {args : List V} {xs : List Value} {tm : T V} {tmps : Array Value}, setPs d c ps args tm = x → (∀ p ∈ ps, p < nt) → relL σ args xs → TRel σ nt tm tmps →
    ps.length = xs.length ∧ ∃ tm', c tm' = x ∧ TRel σ nt tm' ((ps.zip xs).foldl (fun tmps (p : Nat × Value) => tmps.setIfInBounds p.1 p.2) tmps)
  | [], [], xs, tm, tmps, e, _, hr, ht => by
    simp only [relL] at hr; subst hr
    exact ⟨rfl, tm, e, ht⟩
  | p :: ps, a :: args, xs, tm, tmps, e, hp, hr, ht => by
    simp only [relL] at hr
    obtain ⟨y, ys, rfl, hy, hys⟩ := hr
    simp only [setPs, T.setK_eq] at e
    obtain ⟨h1, h2⟩ := setPs_ok hd e (fun q hq => hp q (List.mem_cons_of_mem _ hq)) hys (ht.set (hp p List.mem_cons_self) hy)
    exact ⟨by simp [h1], h2⟩
  | [], _ :: _, _, _, _, e, _, _, _ => absurd e hd
  | _ :: _, [], _, _, _, e, _, _, _ => absurd e hd

end
end Go.Proofs.YteicddmekhdjeaaGreatDoor.Eng

/- Ways through a loop over a map are laid one over the other: by another numbering of the new blocks. -/
namespace Go.Proofs.YteicddmekhdjeaaGreatDoor.Eng
variable [Syms]
open Go.RowKit (Below)

/-- Names by another numbering. -/
def through (τ : Names) (π : Nat → Nat) : Names := fun i => τ (π i)

theorem le1_rel {π : Nat → Nat} {τ : Names} {a b : V} (h : le1 π a b = true) : ∀ {x : Value}, b.rel τ x → a.rel (through τ π) x := by
  intro X hX
  cases a with
  | bool x =>
    obtain ⟨y, rfl, h2⟩ := onBool_true (v := b) h
    simp only [V.rel] at hX ⊢
    cases x <;> cases y <;> first | exact hX | cases h2
  | int k x =>
    obtain ⟨l, y, rfl, h2⟩ := onInt_true (v := b) h
    obtain ⟨h3, h4⟩ := andB_true h2
    rw [eqI_eq] at h4
    obtain rfl := kindEq_true h3
    obtain rfl := of_decide_eq_true h4
    simp only [V.rel] at hX ⊢
    exact hX
  | str x =>
    obtain ⟨y, rfl, h2⟩ := onStr_true (v := b) h
    rw [eqBytes_true] at h2
    obtain rfl := eq_of_beq h2
    simp only [V.rel] at hX ⊢
    exact hX
  | nilptr => cases b <;> first | (simp only [V.rel] at hX ⊢; exact hX) | cases h
  | ptr i o =>
    obtain ⟨j, p, rfl, h2⟩ := onPtr_true (v := b) h
    obtain ⟨h3, h4⟩ := andB_true h2
    obtain rfl := nbeq h3
    obtain rfl := nbeq h4
    simp only [V.rel] at hX ⊢
    exact hX
  | nilslice =>
    rcases onSlice_true (v := b) h with ⟨rfl, _⟩ | ⟨_, _, _, _, _, rfl, h2⟩
    · simp only [V.rel] at hX ⊢; exact hX
    · cases h2
  | slice i o n c e =>
    rcases onSlice_true (v := b) h with ⟨rfl, h2⟩ | ⟨_, _, _, _, _, rfl, h2⟩
    · cases h2
    · obtain ⟨h3, h4⟩ := andB_true h2
      obtain ⟨h5, h6⟩ := andB_true h4
      obtain ⟨h7, h8⟩ := andB_true h6
      obtain ⟨h9, h10⟩ := andB_true h8
      obtain rfl := nbeq h3
      obtain rfl := nbeq h5
      obtain rfl := nbeq h7
      obtain rfl := nbeq h9
      obtain rfl := nbeq h10
      simp only [V.rel] at hX ⊢
      exact hX
  | nilfunc => cases b <;> first | (simp only [V.rel] at hX ⊢; exact hX) | cases h
  | func f x y => cases h
  | niliface =>
    rcases onIface_true (v := b) h with ⟨rfl, _⟩ | ⟨_, _, rfl, h2⟩
    · simp only [V.rel] at hX ⊢; exact hX
    · cases h2
  | iface t x => cases h
  | agg l => cases h
  | tuple l => cases h
  | nilmap => cases b <;> first | (simp only [V.rel] at hX ⊢; exact hX) | cases h
  | map i =>
    rcases onMap_true (v := b) h with ⟨_, h2⟩ | ⟨_, rfl, h2⟩
    · cases h2
    · obtain rfl := nbeq h2
      simp only [V.rel] at hX ⊢
      exact hX
  | yield i =>
    obtain ⟨_, rfl, h2⟩ := onYield_true (v := b) h
    obtain rfl := nbeq h2
    simp only [V.rel] at hX ⊢
    exact hX
  | sym i =>
    obtain ⟨_, rfl, h2⟩ := onSym_true (v := b) h
    obtain rfl := nbeq h2
    simp only [V.rel] at hX ⊢
    exact hX
  | iter i =>
    obtain ⟨_, rfl, h2⟩ := onIter_true (v := b) h
    obtain rfl := nbeq h2
    simp only [V.rel] at hX ⊢
    exact hX
  | any => cases b <;> first | (simp only [V.rel] at hX ⊢; exact hX) | cases h

/-- Two lists: one and the same, or the same but for the numbering. -/
def LLe (π : Nat → Nat) (l m : List V) : Prop := (π = id ∧ l = m) ∨ sameL (le1 π) l m = true
/-- Two values. -/
def VLe (π : Nat → Nat) (a b : V) : Prop := (π = id ∧ a = b) ∨ le π a b = true

theorem sameL_cons {f : V → V → Bool} {a : V} {l m : List V} (h : sameL f (a :: l) m = true) : ∃ b r, m = b :: r ∧ f a b = true ∧ sameL f l r = true := by
  cases m with
  | nil => cases h
  | cons b r =>
    have h : B (f a b) (sameL f l r) false = true := h
    cases hf : f a b with
    | false => rw [hf] at h; cases h
    | true => rw [hf, B_true] at h; exact ⟨b, r, rfl, hf, h⟩

theorem sameL_rel {π : Nat → Nat} {τ : Names} : ∀ {l m : List V} {xs : List Value}, sameL (le1 π) l m = true → relL τ m xs → relL (through τ π) l xs
  | [], [], xs, _, hx => by simpa only [relL] using hx
  | [], _ :: _, _, h, _ => by cases h
  | a :: l, m, xs, h, hx => by
    obtain ⟨b, r, rfl, h1, h2⟩ := sameL_cons h
    simp only [relL] at hx ⊢
    obtain ⟨y, ys, rfl, hy, hys⟩ := hx
    exact ⟨y, ys, rfl, le1_rel h1 hy, sameL_rel h2 hys⟩

theorem onTuple_true {v : V} {c : List V → Bool} (h : v.onTuple false c = true) : ∃ l, v = .tuple l ∧ c l = true := by cases v <;> first | exact ⟨_, rfl, h⟩ | cases h

theorem le_rel {π : Nat → Nat} {τ : Names} {a b : V} (h : le π a b = true) {x : Value} (hx : b.rel τ x) : a.rel (through τ π) x := by
  have plain : le π a b = le1 π a b → a.rel (through τ π) x := fun e => le1_rel (e ▸ h) hx
  cases a with
  | agg l =>
    obtain ⟨m, rfl, h2⟩ := onAgg_true (v := b) h
    simp only [V.rel] at hx ⊢
    obtain ⟨a, rfl, ha⟩ := hx
    exact ⟨a, rfl, sameL_rel h2 ha⟩
  | tuple l =>
    obtain ⟨m, rfl, h2⟩ := onTuple_true (v := b) h
    simp only [V.rel] at hx ⊢
    obtain ⟨a, rfl, ha⟩ := hx
    exact ⟨a, rfl, sameL_rel h2 ha⟩
  | iface t x =>
    rcases onIface_true (v := b) h with ⟨rfl, h2⟩ | ⟨u, y, rfl, h2⟩
    · cases h2
    · obtain ⟨h3, h4⟩ := andB_true h2
      obtain rfl := nbeq h3
      simp only [V.rel] at hx ⊢
      obtain ⟨y, rfl, hy⟩ := hx
      exact ⟨y, rfl, le1_rel h4 hy⟩
  | func f x y =>
    obtain ⟨g, z, w, rfl, h2⟩ := onFunc_true (v := b) h
    obtain ⟨f', rfl, h3⟩ := onFn_true h2
    obtain ⟨g', rfl, h4⟩ := onFn_true h3
    obtain ⟨h5, h6⟩ := andB_true h4
    obtain ⟨h7, h8⟩ := andB_true h6
    obtain rfl := nbeq h5
    simp only [V.rel] at hx ⊢
    obtain ⟨a', c', rfl, ha, hc⟩ := hx
    exact ⟨a', c', rfl, sameL_rel h7 ha, sameL_rel h8 hc⟩
  | _ => exact plain rfl

theorem VLe.rel {π : Nat → Nat} {τ : Names} {a b : V} (h : VLe π a b) {x : Value} (hx : b.rel τ x) : a.rel (through τ π) x := by
  rcases h with ⟨rfl, rfl⟩ | h
  · exact hx
  · exact le_rel h hx

theorem VLe.int {π : Nat → Nat} {k : IntKind} {n : Int} {u : V} (h : VLe π (.int k n) u) : u = .int k n := by
  rcases h with ⟨rfl, rfl⟩ | h
  · rfl
  · obtain ⟨l, y, rfl, h2⟩ := onInt_true (v := u) (show u.onInt false (fun l y => andB (kindEq k l) (eqI n y)) = true from h)
    obtain ⟨h3, h4⟩ := andB_true h2
    rw [eqI_eq] at h4
    obtain rfl := kindEq_true h3
    obtain rfl := of_decide_eq_true h4
    rfl

theorem VLe.byte {π : Nat → Nat} {v u : V} (h : VLe π v u) (hv : isByte v = false) : isByte u = false := by
  rcases h with ⟨-, rfl⟩ | h
  · exact hv
  · cases u with
    | int k n =>
      cases v with
      | int l m =>
        have := VLe.int (.inr h : VLe π (.int l m) (.int k n))
        cases this; exact hv
      | func f x y => exact absurd (show false = true from h) (by decide)
      | _ => cases h
    | any =>
      cases v with
      | any => cases hv
      | func f x y => exact absurd (show false = true from h) (by decide)
      | _ => cases h
    | sym i =>
      cases v with
      | sym j => cases hv
      | func f x y => exact absurd (show false = true from h) (by decide)
      | _ => cases h
    | _ => rfl

theorem VLe.tuple {π : Nat → Nat} {l : List V} {u : V} (h : VLe π (.tuple l) u) : ∃ m, u = .tuple m ∧ LLe π l m := by
  rcases h with ⟨rfl, rfl⟩ | h
  · exact ⟨l, rfl, .inl ⟨rfl, rfl⟩⟩
  · obtain ⟨m, rfl, h2⟩ := onTuple_true (v := u) (show u.onTuple false (fun y => sameL (le1 π) l y) = true from h)
    exact ⟨m, rfl, .inr h2⟩

theorem sameL_ents {π : Nat → Nat} {τ : Names} : ∀ {l m : List V} {es : List MapEntry}, sameL (le1 π) l m = true → entsRel τ m es → entsRel (through τ π) l es
  | [], [], _, _, hx => hx
  | [], _ :: _, _, h, _ => by cases h
  | [a], m, es, h, hx => by
    obtain ⟨b, r, rfl, h1, h2⟩ := sameL_cons h
    cases r with
    | nil => exact hx
    | cons _ _ => cases h2
  | a :: v :: l, m, es, h, hx => by
    obtain ⟨b, r, rfl, h1, h2⟩ := sameL_cons h
    obtain ⟨c, r, rfl, h3, h4⟩ := sameL_cons h2
    obtain ⟨e, es', rfl, k1, k2, k3⟩ := hx
    exact ⟨e, es', rfl, le1_rel h1 k1, le1_rel h3 k2, sameL_ents h4 k3⟩

theorem LLe.ents {π : Nat → Nat} {τ : Names} {l m : List V} {es : List MapEntry} (h : LLe π l m) (hx : entsRel τ m es) : entsRel (through τ π) l es := by
  rcases h with ⟨rfl, rfl⟩ | h
  · exact hx
  · exact sameL_ents h hx

theorem le1_nat {π : Nat → Nat} {n : Nat} {u : V} (h : le1 π (natV n) u = true) : u = natV n := VLe.int (.inr (show le π (natV n) u = true from h))
theorem sameL_nats {π : Nat → Nat} : ∀ {ns : List Nat} {m : List V}, sameL (le1 π) (ns.map natV) m = true → m = ns.map natV
  | [], [], _ => rfl
  | [], _ :: _, h => by cases h
  | n :: ns, m, h => by
    obtain ⟨b, r, rfl, h1, h2⟩ := sameL_cons (show sameL (le1 π) (natV n :: ns.map natV) m = true from h)
    rw [le1_nat h1, sameL_nats h2]; rfl

/-- Blocks. -/
def BlkLe (π : Nat → Nat) (a b : T V) : Prop := ∀ o v, a.get o = some v → ∃ u, b.get o = some u ∧ VLe π v u

theorem OddRel.through {π : Nat → Nat} {τ : Names} {d : Odd} {a b : T V} {o : Option Obj} (hl : BlkLe π a b) (h : OddRel τ d b o) : OddRel (Eng.through τ π) d a o := by
  cases d with
  | no => trivial
  | loop r =>
    intro n hn
    obtain ⟨u, hu, hv⟩ := hl _ _ hn
    rw [hv.int] at hu
    exact h n hu
  | map =>
    intro l h0
    obtain ⟨u, hu, hv⟩ := hl _ _ h0
    obtain ⟨m, rfl, hm⟩ := hv.tuple
    obtain ⟨es, clock, h1, h2, h3⟩ := h m hu
    refine ⟨es, clock, h1, hm.ents h2, fun c bs hcb => ?_⟩
    obtain ⟨u, hu', hv'⟩ := hl _ _ hcb
    obtain ⟨m', rfl, hm'⟩ := hv'.tuple
    refine h3 c bs ?_
    rcases hm' with ⟨-, rfl⟩ | hm'
    · exact hu'
    · have := sameL_nats (ns := c :: bs) hm'
      rw [this] at hu'
      exact hu'
  | iter =>
    intro x s t ns h0
    obtain ⟨u, hu, hv⟩ := hl _ _ h0
    obtain ⟨m, rfl, hm⟩ := hv.tuple
    rcases hm with ⟨rfl, rfl⟩ | hm
    · exact h x s t ns hu
    · obtain ⟨y, r, rfl, h1, h2⟩ := sameL_cons hm
      rw [sameL_nats (ns := s :: t :: ns) h2] at hu
      obtain ⟨mm, h3, h4⟩ := h y s t ns hu
      exact ⟨mm, le1_rel h1 h3, h4⟩

/-- Another numbering: it turns the numbers from a on and below b only. -/
structure PiOk (a b : Nat) (π : Nat → Nat) : Prop where
  out : ∀ x, x < a ∨ b ≤ x → π x = x
  inj : ∀ x y, π x = π y → x = y

theorem PiOk.id (a b : Nat) : PiOk a b id := ⟨fun _ _ => rfl, fun _ _ h => h⟩
theorem PiOk.lt {a b : Nat} {π : Nat → Nat} (h : PiOk a b π) {x : Nat} (hx : π x < b) : x < b := by
  rcases Nat.lt_or_ge x b with h1 | h1
  · exact h1
  · rw [h.out x (.inr h1)] at hx; omega
theorem PiOk.ge {a b : Nat} {π : Nat → Nat} (h : PiOk a b π) {x r : Nat} (hr : r ≤ a) (hx : r ≤ x) : r ≤ π x := by
  rcases Nat.lt_or_ge (π x) a with h1 | h1
  · have h2 := h.inj _ _ (h.out (π x) (.inl h1))
    rw [h2]; exact hx
  · omega
theorem PiOk.lo {a b : Nat} {π : Nat → Nat} (h : PiOk a b π) {x r : Nat} (hr : r ≤ a) (hx : x < r) : π x = x := h.out x (.inl (by omega))

section
variable {P : Program} {ro : Lo} {N n : Nat} {hp hM : Heap} {w : World}

/-- Memory. -/
structure HLe (π : Nat → Nat) (n : Nat) (a b : Heap) : Prop where
  cells : ∀ i blk, i < n → a.get i = some blk → ∃ bp, b.get (π i) = some bp ∧ BlkLe π blk bp
  odds : ∀ i blk, i < n → a.get (i + big) = some blk → ∃ bp, b.get (π i + big) = some bp ∧ BlkLe π blk bp

theorem HRel.merge {τ : Names} (H : HRel τ ro N hp n w) {a : Nat} {π : Nat → Nat} (hπ : PiOk a n π) (hra : ro.ro ≤ a) (hga : ∀ g, g < ro.gl → g < a) (hle : HLe π n hM hp) : HRel (through τ π) ro N hM n w := by
  have old : ∀ i b, through τ π i = some b → i < n := fun i b h => hπ.lt (H.old (π i) b h)
  exact
    { old := old
      cell := fun i blk b hi hb o v ho => by
        obtain ⟨bp, h1, h2⟩ := hle.cells i blk (old i b hb) hi
        obtain ⟨u, h3, h4⟩ := h2 o v ho
        obtain ⟨x, h5, h6⟩ := H.cell (π i) bp b h1 hb o u h3
        exact ⟨x, h5, h4.rel h6⟩
      own := fun i blk b hi hb hr => by
        obtain ⟨bp, h1, h2⟩ := hle.cells i blk (old i b hb) hi
        exact H.own (π i) bp b h1 hb (hπ.ge hra hr)
      apart := fun i j bi bj ci cj hi hj hbi hbj hr hne => by
        obtain ⟨bp, h1, -⟩ := hle.cells i ci (old i bi hbi) hi
        obtain ⟨bq, h2, -⟩ := hle.cells j cj (old j bj hbj) hj
        exact H.apart (π i) (π j) bi bj bp bq h1 h2 hbi hbj (hπ.ge hra hr) fun e => hne (hπ.inj _ _ e)
      globals := fun g hg => by
        obtain ⟨b, h1, h2⟩ := H.globals g hg
        refine ⟨b, ?_, h2⟩
        show τ (π g) = some b
        rw [hπ.out g (.inl (hga g hg))]; exact h1
      low := H.low
      lows := fun i blk b hi hb hr => by
        obtain ⟨bp, h1, -⟩ := hle.cells i blk (old i b hb) hi
        exact H.lows (π i) bp b h1 hb (by rw [hπ.lo hra hr]; exact hr)
      whole := fun i blk b hi hb hr => by
        obtain ⟨bp, h1, h2⟩ := hle.cells i blk (old i b hb) hi
        exact H.whole (π i) bp b h1 hb (hπ.ge hra hr)
      plain := fun i blk b o v hi hb hr ho hv => by
        obtain ⟨bp, h1, h2⟩ := hle.cells i blk (old i b hb) hi
        obtain ⟨u, h3, h4⟩ := h2 o v ho
        exact H.plain (π i) bp b o u h1 hb (hπ.ge hra hr) h3 (h4.byte hv)
      odd := fun i b hb ho => by
        obtain ⟨h1, h2, h3⟩ := H.odd (π i) b hb ho
        refine ⟨?_, h2, fun hr => ?_⟩
        · cases hi : hM.get i with
          | none => rfl
          | some blk =>
            obtain ⟨bp, h4, -⟩ := hle.cells i blk (old i b hb) hi
            rw [h1] at h4; cases h4
        · obtain ⟨h4, h5⟩ := h3 (hπ.ge hra hr)
          refine ⟨h4, fun hx blk hi => ?_⟩
          obtain ⟨bp, h6, h7⟩ := hle.odds i blk (old i b hb) hi
          exact (h5 hx bp h6).through h7
      oddApart := fun i j bi bj hbi hbj hr hne ho hc => by
        refine H.oddApart (π i) (π j) bi bj hbi hbj (hπ.ge hra hr) (fun e => hne (hπ.inj _ _ e)) ho ?_
        rcases hc with h1 | ⟨cj, h1⟩
        · exact .inl h1
        · obtain ⟨bp, h2, -⟩ := hle.cells j cj (old j bj hbj) h1
          exact .inr ⟨bp, h2⟩ }

/-- Temporaries. -/
def TLe (π : Nat → Nat) (a b : T V) : Prop := ∀ o v, a.get o = some v → ∃ u, b.get o = some u ∧ VLe π v u

theorem TRel.merge {τ : Names} {nt : Nat} {tp tM : T V} {tmps : Array Value} {π : Nat → Nat} (h : TRel τ nt tp tmps) (hle : TLe π tM tp) : TRel (through τ π) nt tM tmps :=
  ⟨h.size, fun i v hv => by
    obtain ⟨u, h1, h2⟩ := hle i v hv
    obtain ⟨x, h3, h4⟩ := h.get i u h1
    exact ⟨x, h3, h2.rel h4⟩⟩

theorem After.merge {σ τ : Names} {nx : Nat} {w' : World} (A : After N σ nx w τ n w') {π : Nat → Nat} (hπ : PiOk nx n π) (hold : ∀ i b, σ i = some b → i < nx) : After N σ nx w (through τ π) n w' :=
  ⟨fun i b hb => by show τ (π i) = some b; rw [hπ.out i (.inl (hold i b hb))]; exact A.more i b hb, fun i hi hl => by show τ (π i) = none; rw [hπ.out i (.inl hl)]; exact A.new i hi hl, A.le, A.below⟩

theorem St.merge {τ : Names} {nt D0 : Nat} {tp tM : T V} {a : Act} (S : St τ ro N D0 nt tp hp n a w) {nx : Nat} {π : Nat → Nat} (hπ : PiOk nx n π) (hra : ro.ro ≤ nx) (hga : ∀ g, g < ro.gl → g < nx) (ht : TLe π tM tp) (hle : HLe π n hM hp) :
    St (through τ π) ro N D0 nt tM hM n a w := ⟨S.tmps.merge ht, S.defers, S.mem.merge hπ hra hga hle, S.ron, S.d0⟩
end

/- The checks say so. -/

theorem inside_ok {a b : Nat} : ∀ {l : List (Nat × Nat × Nat)}, inside a b l = true → ∀ p ∈ l, a ≤ p.1 ∧ p.1 + p.2.1 ≤ b ∧ a ≤ p.2.2 ∧ p.2.2 + p.2.1 ≤ b
  | [], _, p, hp => by cases hp
  | (s, m, t) :: l, h, p, hp => by
    have h : B (andB (andB (Nat.ble a s) (Nat.ble (Nat.add s m) b)) (andB (Nat.ble a t) (Nat.ble (Nat.add t m) b))) (inside a b l) false = true := h
    cases hc : andB (andB (Nat.ble a s) (Nat.ble (Nat.add s m) b)) (andB (Nat.ble a t) (Nat.ble (Nat.add t m) b)) with
    | false => rw [hc] at h; cases h
    | true =>
      rw [hc, B_true] at h
      obtain ⟨h1, h2⟩ := andB_true hc
      obtain ⟨h3, h4⟩ := andB_true h1
      obtain ⟨h5, h6⟩ := andB_true h2
      rcases List.mem_cons.1 hp with rfl | hp
      · exact ⟨Nat.le_of_ble_eq_true h3, Nat.le_of_ble_eq_true h4, Nat.le_of_ble_eq_true h5, Nat.le_of_ble_eq_true h6⟩
      · exact inside_ok h p hp

theorem piFn_or (x : Nat) : ∀ (l : List (Nat × Nat × Nat)), piFn l x = x ∨ ∃ p ∈ l, p.1 ≤ x ∧ x < p.1 + p.2.1 ∧ piFn l x = p.2.2 + (x - p.1)
  | [] => .inl rfl
  | (s, m, t) :: l => by
    have e : piFn ((s, m, t) :: l) x = B (andB (Nat.ble s x) (Nat.blt x (Nat.add s m))) (Nat.add t (Nat.sub x s)) (piFn l x) := rfl
    cases hc : andB (Nat.ble s x) (Nat.blt x (Nat.add s m)) with
    | true =>
      rw [hc, B_true] at e
      obtain ⟨h1, h2⟩ := andB_true hc
      exact .inr ⟨_, List.mem_cons_self, Nat.le_of_ble_eq_true h1, blt_true h2, e⟩
    | false =>
      rw [hc, B_false] at e
      rcases piFn_or x l with h | ⟨p, h1, h2⟩
      · exact .inl (by rw [e, h])
      · exact .inr ⟨p, List.mem_cons_of_mem _ h1, by rw [e]; exact h2⟩

theorem allFrom_ok {f : Nat → Bool} : ∀ {n k : Nat}, allFrom f n k = true → ∀ i, k ≤ i → i < k + n → f i = true
  | 0, k, _, i, h1, h2 => by omega
  | n + 1, k, h, i, h1, h2 => by
    have h : B (f k) (forceN (Nat.succ k) (allFrom f n)) false = true := h
    rw [forceN_eq] at h
    cases hf : f k with
    | false => rw [hf] at h; cases h
    | true =>
      rw [hf, B_true] at h
      by_cases e : i = k
      · subst e; exact hf
      · exact allFrom_ok h i (by omega) (by omega)

theorem piOk_ok {a b : Nat} {l m : List (Nat × Nat × Nat)} (h : piOk a b l m = true) : PiOk a b (piFn l) := by
  obtain ⟨h1, h2⟩ := andB_true h
  obtain ⟨h3, h4⟩ := andB_true h2
  obtain ⟨h5, h6⟩ := andB_true h4
  have hab := Nat.le_of_ble_eq_true h1
  have back : ∀ x, a ≤ x → x < b → piFn m (piFn l x) = x := fun x hx hy => by
    have := allFrom_ok h6 x hx (by have : Nat.sub b a = b - a := rfl; omega)
    rw [forceN_eq] at this
    exact nbeq this
  have out : ∀ x, x < a ∨ b ≤ x → piFn l x = x := fun x hx => by
    rcases piFn_or x l with h | ⟨p, k1, k2, k3, -⟩
    · exact h
    · have := inside_ok h3 p k1
      omega
  have inn : ∀ x, a ≤ x → x < b → a ≤ piFn l x ∧ piFn l x < b := fun x hx hy => by
    rcases piFn_or x l with h | ⟨p, k1, k2, k3, k4⟩
    · rw [h]; exact ⟨hx, hy⟩
    · have := inside_ok h3 p k1
      rw [k4]; omega
  refine ⟨out, fun x y e => ?_⟩
  by_cases hx : a ≤ x ∧ x < b
  · by_cases hy : a ≤ y ∧ y < b
    · rw [← back x hx.1 hx.2, ← back y hy.1 hy.2, e]
    · have h7 := inn x hx.1 hx.2
      rw [out y (by omega)] at e
      omega
  · by_cases hy : a ≤ y ∧ y < b
    · have h7 := inn y hy.1 hy.2
      rw [out x (by omega)] at e
      omega
    · rw [out x (by omega), out y (by omega)] at e
      exact e

theorem leO_ok {π : Nat → Nat} {a b : Option V} (h : leO π a b = true) : ∀ v, a = some v → ∃ u, b = some u ∧ le π v u = true := by
  rintro v rfl
  cases b with
  | none => cases h
  | some u => exact ⟨u, rfl, h⟩

theorem leT_ok {π : Nat → Nat} : ∀ {a b : T V}, leT π a b = true → ∀ o v, a.get o = some v → ∃ u, b.get o = some u ∧ le π v u = true
  | .nil, _, _, o, v, ho => by cases ho
  | .node .., .nil, h, _, _, _ => by cases h
  | .node x l r, .node x' l' r', h, o, v, ho => by
    have h : andB (leO π x x') (andB (leT π l l') (leT π r r')) = true := h
    obtain ⟨h1, h2⟩ := andB_true h
    obtain ⟨h3, h4⟩ := andB_true h2
    cases o with
    | zero => exact leO_ok h1 v ho
    | succ j =>
      have ho : Bool.rec (motive := fun _ => Option V) (r.get (Nat.div j 2)) (l.get (Nat.div j 2)) (Nat.beq (Nat.mod j 2) 0) = some v := ho
      show ∃ u, Bool.rec (motive := fun _ => Option V) (r'.get (Nat.div j 2)) (l'.get (Nat.div j 2)) (Nat.beq (Nat.mod j 2) 0) = some u ∧ _
      cases hb : Nat.beq (Nat.mod j 2) 0 with
      | true => rw [hb] at ho; exact leT_ok h3 _ v ho
      | false => rw [hb] at ho; exact leT_ok h4 _ v ho

theorem meetK_spec {π : Nat → Nat} : ∀ (a b : T V), ∃ t : T V, (∀ o v, t.get o = some v → a.get o = some v ∧ ∃ u, b.get o = some u ∧ le π v u = true) ∧ ∀ (R : Type) (c : T V → R), meetK π a b c = c t
  | .nil, _ => ⟨.nil, fun o v h => (by cases h), fun _ _ => rfl⟩
  | .node .., .nil => ⟨.nil, fun o v h => (by cases h), fun _ _ => rfl⟩
  | .node x l r, .node x' l' r' => by
    obtain ⟨s, hs1, hs2⟩ := meetK_spec (π := π) l l'
    obtain ⟨t, ht1, ht2⟩ := meetK_spec (π := π) r r'
    have key : ∀ z : Option V, (∀ v, z = some v → x = some v ∧ ∃ u, x' = some u ∧ le π v u = true) → ∀ o v, (T.node z s t).get o = some v → (T.node x l r).get o = some v ∧ ∃ u, (T.node x' l' r').get o = some u ∧ le π v u = true := by
      intro z hz o v ho
      cases o with
      | zero => exact hz v ho
      | succ j =>
        have ho : Bool.rec (motive := fun _ => Option V) (t.get (Nat.div j 2)) (s.get (Nat.div j 2)) (Nat.beq (Nat.mod j 2) 0) = some v := ho
        show Bool.rec (motive := fun _ => Option V) (r.get (Nat.div j 2)) (l.get (Nat.div j 2)) (Nat.beq (Nat.mod j 2) 0) = some v ∧ ∃ u, Bool.rec (motive := fun _ => Option V) (r'.get (Nat.div j 2)) (l'.get (Nat.div j 2)) (Nat.beq (Nat.mod j 2) 0) = some u ∧ _
        cases hb : Nat.beq (Nat.mod j 2) 0 with
        | true => rw [hb] at ho; exact hs1 _ v ho
        | false => rw [hb] at ho; exact ht1 _ v ho
    cases hx : leO π x x' with
    | true =>
      refine ⟨.node x s t, key x fun v hv => ⟨hv, leO_ok hx v hv⟩, fun R c => ?_⟩
      show meetK π l l' (fun l => meetK π r r' fun r => B (leO π x x') (c (.node x l r)) (c (.node none l r))) = _
      rw [hs2, ht2, hx, B_true]
    | false =>
      refine ⟨.node none s t, key none fun v hv => (by cases hv), fun R c => ?_⟩
      show meetK π l l' (fun l => meetK π r r' fun r => B (leO π x x') (c (.node x l r)) (c (.node none l r))) = _
      rw [hs2, ht2, hx, B_false]

theorem keepK_spec {π : Nat → Nat} (hp : Heap) (i j : Nat) (h : Heap) : ∃ h' : Heap, (∀ k b, h'.get k = some b → h.get k = some b) ∧ (∀ b, h'.get i = some b → ∃ b', hp.get j = some b' ∧ leT π b b' = true) ∧ ∀ (R : Type) (c : Heap → R), keepK π hp i j h c = c h' := by
  unfold keepK
  cases hi : h.get i with
  | none => exact ⟨h, fun _ _ h => h, fun b hb => (by rw [hi] at hb; cases hb), fun R c => rfl⟩
  | some b =>
    simp only [O_some]
    cases hc : O (hp.get j) false (fun b' => leT π b b') with
    | true =>
      refine ⟨h, fun _ _ h => h, fun b0 hb => ?_, fun R c => rfl⟩
      rw [hi] at hb
      obtain rfl := Option.some.inj hb
      cases hj : hp.get j with
      | none => rw [hj] at hc; cases hc
      | some b' => rw [hj] at hc; exact ⟨b', rfl, hc⟩
    | false =>
      refine ⟨h.set none i, fun k b0 hb => ?_, fun b0 hb => ?_, fun R c => by rw [B_false, T.setK_eq]⟩
      · rw [T.get_set] at hb
        by_cases e : k = i
        · rw [if_pos e] at hb; cases hb
        · rw [if_neg e] at hb; exact hb
      · rw [T.get_set, if_pos rfl] at hb; cases hb

theorem mergeK_spec {π : Nat → Nat} (hp : Heap) : ∀ (n k : Nat) (h : Heap), ∃ h' : Heap, (∀ i b, h'.get i = some b → h.get i = some b) ∧
    (∀ i, k ≤ i → i < k + n → (∀ b, h'.get i = some b → ∃ b', hp.get (π i) = some b' ∧ leT π b b' = true) ∧ ∀ b, h'.get (i + big) = some b → ∃ b', hp.get (π i + big) = some b' ∧ leT π b b' = true) ∧ ∀ (R : Type) (c : Heap → R), mergeK π hp n k h c = c h'
  | 0, k, h => ⟨h, fun _ _ h => h, fun i h1 h2 => (by omega), fun _ _ => rfl⟩
  | n + 1, k, h => by
    obtain ⟨h1, a1, a2, a3⟩ := keepK_spec (π := π) hp k (π k) h
    obtain ⟨h2, b1, b2, b3⟩ := keepK_spec (π := π) hp (k + big) (π k + big) h1
    obtain ⟨h3, c1, c2, c3⟩ := mergeK_spec (π := π) hp n (k + 1) h2
    refine ⟨h3, fun i b hb => a1 i b (b1 i b (c1 i b hb)), fun i hi1 hi2 => ?_, fun R c => ?_⟩
    · by_cases e : i = k
      · subst e
        exact ⟨fun b hb => a2 b (b1 _ b (c1 _ b hb)), fun b hb => b2 b (c1 _ b hb)⟩
      · exact c2 i (by omega) (by omega)
    · show forceN (π k) (fun j => keepK π hp k j h fun h => keepK π hp (Nat.add k big) (Nat.add j big) h fun h => forceN (Nat.succ k) fun k => mergeK π hp n k h c) = c h3
      rw [forceN_eq, a3]
      have : keepK π hp (Nat.add k big) (Nat.add (π k) big) h1 (fun h => forceN (Nat.succ k) fun k => mergeK π hp n k h c) = _ := b3 _ _
      rw [this, forceN_eq]
      exact c3 R c

def Leaf.ex : Leaf → Ex | .mk e _ _ _ _ => e
def Leaf.tm : Leaf → T V | .mk _ t _ _ _ => t
def Leaf.heap : Leaf → Heap | .mk _ _ h _ _ => h
def Leaf.nx : Leaf → Nat | .mk _ _ _ n _ => n

theorem sameEx_ok {a b : Ex} (h : sameEx a b = true) : a = b := by
  cases a <;> cases b <;> first | rfl | cases h | (rw [nbeq (show Nat.beq _ _ = true from h)])

theorem spansK_spec : ∀ (l : List (Nat × Nat)) (e : Nat), ∃ s : List (Nat × Nat × Nat), ∀ (R : Type) (c : List (Nat × Nat × Nat) → R), spansK l e c = c s
  | [], _ => ⟨[], fun _ _ => rfl⟩
  | (b, s) :: r, e => by
    obtain ⟨l, hl⟩ := spansK_spec r s
    exact ⟨(b, s, e - s) :: l, fun R c => by simp only [spansK, forceN_eq, hl]; rfl⟩

theorem triplesK_ok {other : List (Nat × Nat × Nat)} {why : List String} {e : Ex} {tm : T V} {h : Heap} {nx : Nat} : ∀ {l : List (Nat × Nat × Nat)} {c : List (Nat × Nat × Nat) → List (Nat × Nat × Nat) → Res}, triplesK other (.fail why) l c = .ok e tm h nx → ∃ a b, c a b = .ok e tm h nx
  | [], c, h => ⟨[], [], h⟩
  | (b, s, n) :: r, c, hx => by
    have hx : O (spanOf b other) (Res.fail why) (fun q => Prod.rec (motive := fun _ => Res) (fun s' n' => B (Nat.beq n n') (triplesK other (.fail why) r fun l m => c ((s, n, s') :: l) ((s', n, s) :: m)) (.fail why)) q) = .ok e tm h nx := hx
    cases ho : spanOf b other with
    | none => rw [ho] at hx; cases hx
    | some q =>
      obtain ⟨s', n'⟩ := q
      rw [ho, O_some] at hx
      have hx : B (Nat.beq n n') (triplesK other (.fail why) r fun l m => c ((s, n, s') :: l) ((s', n, s) :: m)) (.fail why) = .ok e tm h nx := hx
      cases hb : Nat.beq n n' with
      | false => rw [hb] at hx; cases hx
      | true =>
        rw [hb, B_true] at hx
        obtain ⟨a, b', hc⟩ := triplesK_ok hx
        exact ⟨_, _, hc⟩

/-- What the merged way says of each way. -/
def LeafLe (nx : Nat) (e : Ex) (tm : T V) (h : Heap) (n : Nat) (x : Leaf) : Prop := x.ex = e ∧ x.nx = n ∧ ∃ π, PiOk nx n π ∧ TLe π tm x.tm ∧ HLe π n h x.heap

theorem B_okA {b : Bool} {why : List String} {c : Res} {e : Ex} {tm : T V} {h : Heap} {nx : Nat} (x : B b c (.fail why) = .ok e tm h nx) : b = true ∧ c = .ok e tm h nx := by
  cases b <;> first | exact ⟨rfl, x⟩ | cases x

theorem mergeAll_ok {nx : Nat} {e : Ex} {n0 : Nat} {sp : List (Nat × Nat × Nat)} {e' : Ex} {tm' : T V} {h' : Heap} {nx' : Nat} : ∀ {l : List Leaf} {tm : T V} {h : Heap}, mergeAll nx e n0 sp l tm h = .ok e' tm' h' nx' →
    e' = e ∧ nx' = n0 ∧ (∀ o v, tm'.get o = some v → tm.get o = some v) ∧ (∀ i b, h'.get i = some b → h.get i = some b) ∧ ∀ x ∈ l, LeafLe nx e tm' h' n0 x
  | [], tm, h, hx => by
    have hx : Res.ok e tm h n0 = .ok e' tm' h' nx' := hx
    simp only [Res.ok.injEq] at hx
    obtain ⟨rfl, rfl, rfl, rfl⟩ := hx
    exact ⟨rfl, rfl, fun _ _ h => h, fun _ _ h => h, fun x hx => by cases hx⟩
  | .mk e1 tm1 h1 n1 lay :: l, tm, h, hx => by
    have hx : B (andB (sameEx e e1) (Nat.beq n0 n1)) (spansK lay n1 fun sp' => triplesK sp' (.fail ["rounds"]) sp fun l' m => B (piOk nx n0 l' m)
          (meetK (piFn l') tm tm1 fun tm => mergeK (piFn l') h1 n0 0 h fun h => mergeAll nx e n0 sp l tm h) (.fail ["numbers"])) (.fail ["order"]) = .ok e' tm' h' nx' := hx
    obtain ⟨hb, hx2⟩ := B_okA hx
    clear hx
    obtain ⟨hb1, hb2⟩ := andB_true hb
    obtain rfl := sameEx_ok hb1
    obtain rfl := nbeq hb2
    obtain ⟨sp', hsp⟩ := spansK_spec lay n0
    rw [hsp] at hx2
    obtain ⟨a, b, hx3⟩ := triplesK_ok hx2
    obtain ⟨hpi, hx4⟩ := B_okA hx3
    obtain ⟨t, ht1, ht2⟩ := meetK_spec (π := piFn a) tm tm1
    rw [ht2] at hx4
    obtain ⟨g, hg1, hg2, hg3⟩ := mergeK_spec (π := piFn a) h1 n0 0 h
    rw [hg3] at hx4
    obtain ⟨k1, k2, k3, k4, k5⟩ := mergeAll_ok hx4
    refine ⟨k1, k2, fun o v ho => (ht1 o v (k3 o v ho)).1, fun i b hb => hg1 i b (k4 i b hb), fun x hx => ?_⟩
    rcases List.mem_cons.1 hx with rfl | hx
    · have blk : ∀ {b b' : T V}, leT (piFn a) b b' = true → BlkLe (piFn a) b b' := fun hl o v ho => let ⟨u, h1, h2⟩ := leT_ok hl o v ho; ⟨u, h1, .inr h2⟩
      refine ⟨rfl, rfl, piFn a, piOk_ok hpi, fun o v ho => ?_, ⟨fun i b hi hb => ?_, fun i b hi hb => ?_⟩⟩
      · obtain ⟨u, h1, h2⟩ := (ht1 o v (k3 o v ho)).2
        exact ⟨u, h1, .inr h2⟩
      · obtain ⟨b', h1, h2⟩ := (hg2 i (Nat.zero_le _) (by omega)).1 b (k4 _ b hb)
        exact ⟨b', h1, blk h2⟩
      · obtain ⟨b', h1, h2⟩ := (hg2 i (Nat.zero_le _) (by omega)).2 b (k4 _ b hb)
        exact ⟨b', h1, blk h2⟩
    · exact k5 x hx

/-- The first way, too. -/
theorem LeafLe.first {nx : Nat} {e : Ex} {tm tm' : T V} {h h' : Heap} {n : Nat} {lay : List (Nat × Nat)} (h1 : ∀ o v, tm'.get o = some v → tm.get o = some v) (h2 : ∀ i b, h'.get i = some b → h.get i = some b) : LeafLe nx e tm' h' n (.mk e tm h n lay) :=
  ⟨rfl, rfl, id, PiOk.id _ _, fun o v ho => ⟨v, h1 o v ho, .inl ⟨rfl, rfl⟩⟩, ⟨fun i b _ hb => ⟨b, h2 i b hb, fun o v ho => ⟨v, ho, .inl ⟨rfl, rfl⟩⟩⟩, fun i b _ hb => ⟨b, h2 _ b hb, fun o v ho => ⟨v, ho, .inl ⟨rfl, rfl⟩⟩⟩⟩⟩

end Go.Proofs.YteicddmekhdjeaaGreatDoor.Eng

/- Control, calls. -/
namespace Go.Proofs.YteicddmekhdjeaaGreatDoor.Eng
variable [Syms]
open Go.RowKit (Below)

section
variable {P : Program} {ro : Lo}

section
variable {P : Program} {F : Fence} {n : Nat} {b : Frame} {a : Act} {k : List Go.Item} {cs : List Frame} {w : World} {Q : Exit → Act → World → Prop}
theorem stepR_scope {c : Code} : step P (lone (b.atR a (.code (.scope c) :: k)) cs w) = .next (lone (b.atR a (.code c :: .inScope c :: k)) cs w) :=
  step_lone_go (by simp [stepG, stepG.exec, Frame.atR])
theorem stepR_inScope {c : Code} : step P (lone (b.atR a (.inScope c :: k)) cs w) = .next (lone (b.atR a k) cs w) :=
  step_lone_go (by simp [stepG, stepG.exec, Frame.atR])

theorem wpIn_scope_straight {c : Code} (h : c.wpIn F n P (Exit.noGoto Q) a w) : (Code.scope c).wpIn F n P Q a w := by
  intro b k cs hro hb hr
  have h0 : (lone (b.atR a (.code (.scope c) :: k)) cs w).fenced P F := fenced_calm hb hr rfl
  obtain ⟨e, a₁, w₁, hq, harr⟩ := h b (.inScope c :: k) cs hro hb hr
  have hx : ∀ id, exitTo id (.inScope c :: k) = exitTo id k := fun id => by simp [exitTo]
  cases e with
  | normal => exact ⟨.normal, a₁, w₁, hq, .head h0 stepR_scope (StepsIn.trans harr (.one (fenced_calm hb hr rfl) stepR_inScope))⟩
  | exit id => exact ⟨.exit id, a₁, w₁, hq, fun k' hk => .head h0 stepR_scope (harr.1 k' (by rw [hx]; exact hk)),
      fun hr' hk => let ⟨k₁, h1, h2⟩ := harr.2 hr' (by rw [hx]; exact hk); ⟨k₁, h1, .head h0 stepR_scope h2⟩⟩
  | goto l => exact hq.elim
  | ret => exact ⟨_, a₁, w₁, hq, .of_steps (.one h0 stepR_scope) harr⟩
  | panic ch => exact ⟨_, a₁, w₁, hq, .of_steps (.one h0 stepR_scope) harr⟩
  | outgrown => exact ⟨_, a₁, w₁, hq, .of_steps (.one h0 stepR_scope) harr⟩
end

/-- Code that was made ready is the code. -/
inductive Comp (P : Program) (ro : Lo) (nt : Nat) : Code → EC → Prop where
  | skip : Comp P ro nt .skip .skip
  | label (l : Nat) : Comp P ro nt (.label l) .skip
  | seq {id : Nat} {ops : Array Oper} {rs : List OpR} : OpsOk P ro nt ops ops.toList rs → Comp P ro nt (.region id ops false) (.seq rs)
  | draw {id : Nat} {ops : Array Oper} {l : List Item} : PlanOk P ro nt ops l → Comp P ro nt (.region id ops true) (.draw l)
  | bad {c : Code} {why : List String} : Comp P ro nt c (.bad why)
  | andThen {a b : Code} {x y : EC} : Comp P ro nt a x → Comp P ro nt b y → Comp P ro nt (.seq a b) (.andThen x y)
  | cond {e : Operand} {a b : Code} {x y : EC} : Comp P ro nt a x → Comp P ro nt b y → Comp P ro nt (.cond e a b) (.cond (evC ro e) x y)
  | block {id : Nat} {b : Code} {x : EC} : Comp P ro nt b x → Comp P ro nt (.block id b) (.block id x)
  | loop {b : Code} {x : EC} : Comp P ro nt b x → Comp P ro nt (.loop b) (.loop x)
  | scope {b : Code} {x : EC} : Comp P ro nt b x → Comp P ro nt (.scope b) x
  | exit (id : Nat) : Comp P ro nt (.exit id) (.exit id)
  | ret : Comp P ro nt .ret .ret
  | range {g : Operand} {ps : Array Tmp} {a b : Code} {x y : EC} : (∀ p ∈ ps.toList, p < nt) → Comp P ro nt a x → Comp P ro nt b y → Comp P ro nt (.rangeFunc g ps a b) (.range (evC ro g) ps.toList x y)
  | mloop {id : Nat} {ops : Array Oper} {o : Oper} {os : List Oper} {it : Operand} {d : Nat} {rs : List OpR} {c : Code} {x : EC} : ops.toList = o :: os → o.op = .next it false → o.dst = some d → o.guard = none → d < nt → OpsOk P ro nt ops os rs → Comp P ro nt c x →
      Comp P ro nt (.loop (.seq (.region id ops false) c)) (.mloop (evC ro it) d rs x)

theorem opRs_spec (nt : Nat) (ops : Array Oper) : ∀ os : List Oper, (∃ rs, OpsOk P ro nt ops os rs ∧ ∀ (R : Type) (bad : String → R) (c : List OpR → R), opRs P ro nt ops bad os c = c rs) ∨
    (∃ why, ∀ (R : Type) (bad : String → R) (c : List OpR → R), opRs P ro nt ops bad os c = bad why)
  | [] => .inl ⟨[], .nil, fun _ _ _ => rfl⟩
  | o :: os => by
    rcases opR_spec (P := P) (ro := ro) (nt := nt) (ops := ops) o with ⟨g, k, pos, hok, hc⟩ | hb
    · rcases opRs_spec nt ops os with ⟨rs, hrs, hc2⟩ | ⟨why, hb2⟩
      · exact .inl ⟨.mk g o.dst k pos :: rs, .cons (pos := pos) hok hrs, fun R bad c => by simp only [opRs, hc, hc2]⟩
      · exact .inr ⟨why, fun R bad c => by simp only [opRs, hc, hb2]⟩
    · exact .inr ⟨o.pos, fun R bad c => by simp only [opRs, hb]⟩

theorem regionC_spec (nt id : Nat) (ops : Array Oper) (draw : Bool) : ∃ ec, Comp P ro nt (.region id ops draw) ec ∧ ∀ (R : Type) (c : EC → R), regionC P ro nt ops draw c = c ec := by
  cases draw with
  | false =>
    rcases opRs_spec (P := P) (ro := ro) nt ops ops.toList with ⟨rs, hrs, hc⟩ | ⟨why, hb⟩
    · exact ⟨.seq rs, .seq hrs, fun R c => by simp only [regionC, hc]⟩
    · exact ⟨.bad [why], .bad, fun R c => by simp only [regionC, hb]⟩
  | true =>
    rcases planK_spec (P := P) (ro := ro) nt ops with ⟨l, hl, hc⟩ | ⟨why, hb⟩
    · exact ⟨.draw l, .draw hl, fun R c => by simp only [regionC, hc]⟩
    · exact ⟨.bad why, .bad, fun R c => by simp only [regionC, hb]⟩

theorem nextOf_some {ops : Array Oper} {it : Operand} {d : Nat} {os : List Oper} (h : nextOf ops = some (it, d, os)) : ∃ o, ops.toList = o :: os ∧ o.op = .next it false ∧ o.dst = some d ∧ o.guard = none := by
  unfold nextOf at h
  split at h
  · cases h
  · rename_i o os' htl
    split at h
    · rename_i it' d' h1 h2 h3
      simp only [Option.some.injEq, Prod.mk.injEq] at h
      obtain ⟨rfl, rfl, rfl⟩ := h
      exact ⟨o, htl, h1, h2, h3⟩
    · cases h

theorem loopC_spec (nt id : Nat) (ops : Array Oper) (draw : Bool) {b : Code} {x : EC} (hx : Comp P ro nt b x) : ∃ ec, Comp P ro nt (.loop (.seq (.region id ops draw) b)) ec ∧ ∀ (R : Type) (c : EC → R), loopC P ro nt ops draw x c = c ec := by
  have plain : (∀ (R : Type) (c : EC → R), loopC P ro nt ops draw x c = regionC P ro nt ops draw fun a => c (.loop (.andThen a x))) → ∃ ec, Comp P ro nt (.loop (.seq (.region id ops draw) b)) ec ∧ ∀ (R : Type) (c : EC → R), loopC P ro nt ops draw x c = c ec := by
    intro e
    obtain ⟨a, ha, hc⟩ := regionC_spec (P := P) (ro := ro) nt id ops draw
    exact ⟨.loop (.andThen a x), .loop (.andThen ha hx), fun R c => by rw [e, hc]⟩
  cases draw with
  | true => exact plain fun R c => by simp only [loopC]
  | false =>
    cases hn : nextOf ops with
    | none => exact plain fun R c => by simp only [loopC, hn]
    | some p =>
      obtain ⟨it, d, os⟩ := p
      obtain ⟨o, h1, h2, h3, h4⟩ := nextOf_some hn
      cases hd : Nat.blt d nt with
      | false => exact ⟨.bad ["range over a map"], .bad, fun R c => by simp only [loopC, hn, hd]⟩
      | true =>
        rcases opRs_spec (P := P) (ro := ro) nt ops os with ⟨rs, hrs, hc⟩ | ⟨why, hb⟩
        · exact ⟨.mloop (evC ro it) d rs x, .mloop h1 h2 h3 h4 (blt_true hd) hrs hx, fun R c => by simp only [loopC, hn, hd, forceE_eq, forceN_eq, hc]⟩
        · exact ⟨.bad [why], .bad, fun R c => by simp only [loopC, hn, hd, forceE_eq, forceN_eq, hb]⟩

theorem codeC_spec2 (nt : Nat) (code : Code) : (∃ ec, Comp P ro nt code ec ∧ ∀ (R : Type) (c : EC → R), codeC P ro nt code c = c ec) ∧
    ∀ id ops draw b, code = .seq (.region id ops draw) b → ∃ x, Comp P ro nt b x ∧ ∀ (R : Type) (c : EC → R), codeC P ro nt b c = c x := by
  induction code with
  | skip => exact ⟨⟨.skip, .skip, fun _ _ => rfl⟩, fun _ _ _ _ h => by cases h⟩
  | label l => exact ⟨⟨.skip, .label l, fun _ _ => rfl⟩, fun _ _ _ _ h => by cases h⟩
  | region id ops draw =>
    obtain ⟨a, ha, hc⟩ := regionC_spec (P := P) (ro := ro) nt id ops draw
    exact ⟨⟨a, ha, fun R c => by simp only [codeC, hc]⟩, fun _ _ _ _ h => by cases h⟩
  | seq a b iha ihb =>
    obtain ⟨x, hx, hcx⟩ := iha.1
    obtain ⟨y, hy, hcy⟩ := ihb.1
    exact ⟨⟨.andThen x y, .andThen hx hy, fun R c => by simp only [codeC, hcx, hcy]⟩, fun id ops draw b' h => by cases h; exact ⟨y, hy, hcy⟩⟩
  | cond e a b iha ihb =>
    obtain ⟨x, hx, hcx⟩ := iha.1
    obtain ⟨y, hy, hcy⟩ := ihb.1
    exact ⟨⟨.cond (evC ro e) x y, .cond hx hy, fun R c => by simp only [codeC, forceE_eq, hcx, hcy]⟩, fun _ _ _ _ h => by cases h⟩
  | block id b ihb =>
    obtain ⟨x, hx, hcx⟩ := ihb.1
    exact ⟨⟨.block id x, .block hx, fun R c => by simp only [codeC, hcx]⟩, fun _ _ _ _ h => by cases h⟩
  | loop b ihb =>
    refine ⟨?_, fun _ _ _ _ h => by cases h⟩
    obtain ⟨x, hx, hcx⟩ := ihb.1
    have plain : (∀ (R : Type) (c : EC → R), codeC P ro nt (.loop b) c = codeC P ro nt b fun b => c (.loop b)) → ∃ ec, Comp P ro nt (.loop b) ec ∧ ∀ (R : Type) (c : EC → R), codeC P ro nt (.loop b) c = c ec := fun e =>
      ⟨.loop x, .loop hx, fun R c => by rw [e, hcx]⟩
    cases b with
    | seq a b' =>
      cases a with
      | region id ops draw =>
        obtain ⟨y, hy, hcy⟩ := ihb.2 id ops draw b' rfl
        obtain ⟨ec, h1, h2⟩ := loopC_spec (P := P) (ro := ro) nt id ops draw hy
        exact ⟨ec, h1, fun R c => by simp only [codeC, hcy, h2]⟩
      | _ => exact plain fun R c => by simp only [codeC]
    | _ => exact plain fun R c => by simp only [codeC]
  | scope b ihb =>
    obtain ⟨x, hx, hcx⟩ := ihb.1
    exact ⟨⟨x, .scope hx, fun R c => by simp only [codeC, hcx]⟩, fun _ _ _ _ h => by cases h⟩
  | exit id => exact ⟨⟨.exit id, .exit id, fun _ _ => rfl⟩, fun _ _ _ _ h => by cases h⟩
  | ret => exact ⟨⟨.ret, .ret, fun _ _ => rfl⟩, fun _ _ _ _ h => by cases h⟩
  | rangeFunc g ps a b iha ihb =>
    refine ⟨?_, fun _ _ _ _ h => by cases h⟩
    obtain ⟨x, hx, hcx⟩ := iha.1
    obtain ⟨y, hy, hcy⟩ := ihb.1
    cases hall : ps.toList.all fun p => Nat.blt p nt with
    | true => exact ⟨.range (evC ro g) ps.toList x y, .range (fun p hp => blt_true (List.all_eq_true.1 hall p hp)) hx hy, fun R c => by simp only [codeC, hall, forceE_eq, hcx, hcy, forceL_eq]⟩
    | false => exact ⟨.bad ["range over a function"], .bad, fun R c => by simp only [codeC, hall]⟩
  | goto _ => exact ⟨⟨_, .bad, fun _ _ => rfl⟩, fun _ _ _ _ h => by cases h⟩
  | refuse _ => exact ⟨⟨_, .bad, fun _ _ => rfl⟩, fun _ _ _ _ h => by cases h⟩

theorem codeC_spec (nt : Nat) (code : Code) : ∃ ec, Comp P ro nt code ec ∧ ∀ (R : Type) (c : EC → R), codeC P ro nt code c = c ec := (codeC_spec2 nt code).1

def exOf : Ex → Exit
  | .normal => .normal
  | .exit id => .exit id
  | .ret => .ret

/-- Yields answer as they are said to. -/
def YsOk (P : Program) (ro : Lo) (σ0 : Names) (ys : Ys) : Prop :=
  ∀ i c, ys i = some c → ∀ args h nx v h' nx', c args h nx = .ok v h' nx' → ∀ (σ : Names) (N : Nat) (w : World) (xs : Array Value) (b : BI), More σ0 σ → σ i = some b → ro.ro ≤ nx → relL σ args xs.toList → HRel σ ro N h nx w →
    Does P (Post σ ro N w nx v h' nx') ((Instr.yield b.block xs).run P w)

/-- What the evaluator says of ready code holds of the code. -/
def WpOk (P : Program) (ro : Lo) (ex : Ys → EC → T V → Heap → Nat → Res) : Prop :=
  ∀ ys σ0, YsOk P ro σ0 ys → ∀ ec tm h nx e tm' h' nx', ex ys ec tm h nx = .ok e tm' h' nx' → ∀ nt code, Comp P ro nt code ec → ∀ (rd : Option Nat) σ N D0 a w, RdOk rd w → More σ0 σ → St σ ro N D0 nt tm h nx a w → ∀ Q : Exit → Act → World → Prop,
    (∀ τ a' w', After N σ nx w τ nx' w' → St τ ro N D0 nt tm' h' nx' a' w' → Q (exOf e) a' w') → Code.wpIn (wideAt rd) 0 P code Q a w
/-- .. and of a loop that it takes n rounds at most. -/
def RoundsOk (P : Program) (ro : Lo) (n : Nat) (ex : Ys → EC → T V → Heap → Nat → Res) : Prop :=
  ∀ ys σ0, YsOk P ro σ0 ys → ∀ x tm h nx e tm' h' nx', ex ys (.loop x) tm h nx = .ok e tm' h' nx' → ∀ nt code, Comp P ro nt code x → ∀ (rd : Option Nat) σ N D0 a w, RdOk rd w → More σ0 σ → St σ ro N D0 nt tm h nx a w → ∀ Q : Exit → Act → World → Prop,
    (∀ τ a' w', After N σ nx w τ nx' w' → St τ ro N D0 nt tm' h' nx' a' w' → Q (exOf e) a' w') → Code.roundsIn (wideAt rd) 0 P code Q n a w

theorem onR_ok {r : Res} {c : Ex → T V → Heap → Nat → Res} {e : Ex} {tm : T V} {h : Heap} {nx : Nat} (x : onR r .fail c = .ok e tm h nx) : ∃ e1 tm1 h1 n1, r = .ok e1 tm1 h1 n1 ∧ c e1 tm1 h1 n1 = .ok e tm h nx := by
  cases r with
  | fail why => cases x
  | ok e1 tm1 h1 n1 => exact ⟨e1, tm1, h1, n1, rfl, x⟩

theorem cond_sound {σ : Names} {N D0 nt : Nat} {tm : T V} {h : Heap} {nx : Nat} {a : Act} {w : World} (S : St σ ro N D0 nt tm h nx a w) {x : Operand} {v : V} (hv : (evC ro x).run tm = some v) : v.rel σ (a.eval x) :=
  S.tmps.operand S.mem.globals x v hv

theorem noGoto_of {Q : Exit → Act → World → Prop} {e : Ex} {a : Act} {w : World} (h : Q (exOf e) a w) : Exit.noGoto Q (exOf e) a w := by
  cases e <;> exact h

theorem rounds_sound {callO : Ys → CallF} {n : Nat} {ih : Ys → EC → T V → Heap → Nat → Res} (hih : WpOk P ro ih) (hr : RoundsOk P ro n ih) : RoundsOk P ro (n + 1) (execF P ro callO ih) := by
  intro ys σ0 hys x tm h nx e tm' h' nx' hx nt c1 h1 rd σ N D0 a w hrd hmo S Q hQ
  have hx : onR (R := Res) (ih ys x tm h nx) .fail (fun e tm h nx => onEx e (ih ys (.loop x) tm h nx) (fun j => .ok (.exit j) tm h nx) (.ok .ret tm h nx)) = .ok e tm' h' nx' := hx
  obtain ⟨e1, tm1, h1', n1, hr1, hx2⟩ := onR_ok hx
  rw [roundsIn_succ]
  refine hih _ _ hys _ _ _ _ _ _ _ _ hr1 nt c1 h1 rd σ N D0 a w hrd hmo S _ fun τ a1 w1 A1 S1 => ?_
  cases e1 with
  | normal =>
    have hx2 : ih ys (.loop x) tm1 h1' n1 = .ok e tm' h' nx' := hx2
    exact hr _ _ hys _ _ _ _ _ _ _ _ hx2 nt c1 h1 rd τ N D0 a1 w1 (hrd.keep A1.below) (hmo.trans A1.more) S1 Q fun υ a2 w2 A2 S2 => hQ υ a2 w2 (A1.trans A2) S2
  | exit j =>
    have hx2 : Res.ok (.exit j) tm1 h1' n1 = .ok e tm' h' nx' := hx2
    simp only [Res.ok.injEq] at hx2
    obtain ⟨rfl, rfl, rfl, rfl⟩ := hx2
    exact hQ τ a1 w1 A1 S1
  | ret =>
    have hx2 : Res.ok .ret tm1 h1' n1 = .ok e tm' h' nx' := hx2
    simp only [Res.ok.injEq] at hx2
    obtain ⟨rfl, rfl, rfl, rfl⟩ := hx2
    exact hQ τ a1 w1 A1 S1

theorem onR_okC {r : Res} {c : Ex → T V → Heap → Nat → CRes} {v : V} {h : Heap} {nx : Nat} (x : onR r .fail c = .ok v h nx) : ∃ e1 tm1 h1 n1, r = .ok e1 tm1 h1 n1 ∧ c e1 tm1 h1 n1 = .ok v h nx := by
  cases r with
  | fail why => cases x
  | ok e1 tm1 h1 n1 => exact ⟨e1, tm1, h1, n1, rfl, x⟩

/-- A ROUND of a loop over a function. -/
theorem round_sound {ih : Ys → EC → T V → Heap → Nat → Res} (hih : WpOk P ro ih) {ys : Ys} {σ0 : Names} (hys : YsOk P ro σ0 ys) {nt : Nat} {c1 c2 : Code} {x y : EC} (h1 : Comp P ro nt c1 x) (h2 : Comp P ro nt c2 y)
    {ps : Array Tmp} (hps : ∀ p ∈ ps.toList, p < nt) {tm : T V} {tmps : Array Value} (ht : TRel σ0 nt tm tmps) {i : Nat} (hi : ro.ro ≤ i) {l : Nat} {r : Loop} (hr1 : r.tmps = tmps) (hr2 : r.params = ps) (hr3 : r.assign = c1) (hr4 : r.body = c2)
    {args : List V} {h : Heap} {nx : Nat} {v : V} {h' : Heap} {nx' : Nat} (hx : roundF (ih ys) i ps.toList x y tm args h nx = .ok v h' nx') {σ : Names} {N : Nat} {w : World} {xs : Array Value} {b : BI} (hmo : More σ0 σ) (hb : σ i = some b) (hbl : b.block = l) (hod : b.odd = .loop r)
    (hrn : ro.ro ≤ nx) (hrel : relL σ args xs.toList) (H : HRel σ ro N h nx w) : Does P (Post σ ro N w nx v h' nx') ((Instr.yield b.block xs).run P w) := by
  unfold roundF at hx
  obtain ⟨n0, hn0, hx⟩ := O_ok hx
  obtain ⟨-, hl0⟩ := stateOf_ok H hi hb hod hn0
  obtain ⟨q0, hq0, e1, e2, e3, e4, e5, -⟩ := loopAt_loop r n0
  rw [hq0] at hl0
  obtain ⟨hlen, tm1, hx, ht1⟩ := setPs_ok (by simp) hx hps hrel (ht.more hmo)
  have hsz : xs.size = q0.params.size := by rw [e3, hr2, ← Array.length_toList, ← hlen, Array.length_toList]
  rw [run_yield hl0 hsz]
  have hfold : ((q0.params.zip xs).foldl (fun tmps (t, a) => tmps.setIfInBounds t a) q0.tmps) = (ps.toList.zip xs.toList).foldl (fun tmps (p : Nat × Value) => tmps.setIfInBounds p.1 p.2) tmps := by
    rw [e2, e3, hr1, hr2, ← Array.foldl_toList, Array.toList_zip]
  rw [hfold, e4, e5, hr3, hr4]
  obtain ⟨e1', tm2, hh1, n1, ha, hx⟩ := onR_okC hx
  refine roundIn_of_wpIn trivial ?_
  have S1 : St σ ro N w.heap.size nt tm1 h nx { tmps := (ps.toList.zip xs.toList).foldl (fun tmps (p : Nat × Value) => tmps.setIfInBounds p.1 p.2) tmps, defers := [] } w :=
    ⟨ht1, Marks.nil, H, hrn, Nat.le_refl _⟩
  refine hih ys σ0 hys _ _ _ _ _ _ _ _ ha nt c1 h1 (some b.block) σ N w.heap.size _ w (fun l hl => by obtain rfl := Option.some.inj hl; exact ⟨_, hl0⟩) hmo S1 _ fun τ a1 w1 A1 T1 => ?_
  cases e1' with
  | exit j => cases hx
  | ret => cases hx
  | normal =>
    obtain ⟨m1, hm1, hx⟩ := O_ok hx
    obtain ⟨hz, hx⟩ := B_ok hx
    obtain rfl : m1 = 0 := Nat.eq_of_beq_eq_true hz
    have hbτ := A1.more i b hb
    obtain ⟨hbig1, hl1⟩ := stateOf_ok T1.mem hi hbτ hod hm1
    have hx := putState_ok hx (by simp)
    obtain ⟨e2', tm3, hh2, n2, hbd, hx⟩ := onR_okC hx
    refine ⟨_, run_beginRound hl1 rfl, ?_⟩
    obtain ⟨H1, K1⟩ := T1.mem.turned hi hbτ hod hl1 hbig1 (state_odd τ r 1 rfl)
    have S2 : St τ ro N w.heap.size nt tm2 _ n1 a1 (w1.putObj b.block _) := ⟨T1.tmps, T1.defers.keep K1, H1, T1.ron, by rw [World.putObj_size]; exact T1.d0⟩
    refine hih ys σ0 hys _ _ _ _ _ _ _ _ hbd nt c2 h2 (some b.block) τ N w.heap.size _ _ (fun l hl => by obtain rfl := Option.some.inj hl; exact K1.loops _ _ hl1) (hmo.trans A1.more) S2 _ fun υ a2 w2 A2 T2 => ?_
    obtain ⟨m2, hm2, hx⟩ := O_ok hx
    have hbυ := A2.more i b hbτ
    obtain ⟨hbig2, hl2⟩ := stateOf_ok T2.mem hi hbυ hod hm2
    obtain ⟨q2, hq2, f1, f2, f3, f4, f5, f6⟩ := loopAt_loop r m2
    rw [hq2] at hl2
    have fin : ∀ (k : Nat) (jump : Option Code) (t : Bool), jump.isNone = t → loopAt r k = Obj.loop { q2 with state := if jump.isNone then .ready else .done, pending := jump } →
        CRes.ok (.bool t) (hh2.set (some (T.sets [.int .u64 (Int.ofNat k)] .nil 0)) (i + big)) n2 = .ok v h' nx' →
        ∃ v' w', (Instr.endRound b.block jump).run P w2 = .ok v' w' ∧ ∃ y, Ending.returned v' = .returned y ∧ Post σ ro N w nx v h' nx' y w' := by
      intro k jump t hj hk hx
      simp only [CRes.ok.injEq] at hx
      obtain ⟨rfl, rfl, rfl⟩ := hx
      obtain ⟨H3, K3⟩ := T2.mem.turned hi hbυ hod hl2 hbig2 (state_odd υ r k hk)
      refine ⟨_, _, run_endRound jump hl2, _, rfl, ?_⟩
      have A3 := A1.trans ⟨More.refl τ, fun _ h _ => h, Nat.le_refl _, K1⟩ |>.trans A2
      exact ⟨A3.le, υ, A3.more, A3.new, by rw [hj]; simp only [V.rel], H3, A3.below.trans K3⟩
    have hq : ∀ s p, ({ q2 with state := s, pending := p } : Loop) = { r with state := s, pending := p } := fun s p => by
      cases q2; cases r; simp_all
    cases e2' with
    | normal => exact fin 0 none true rfl (by rw [hq]; rfl) (putState_ok hx (by simp))
    | exit j => exact fin (j + 3) (some (.exit j)) false rfl (by rw [hq]; rfl) (putState_ok hx (by simp))
    | ret => exact fin 2 (some .ret) false rfl (by rw [hq]; rfl) (putState_ok hx (by simp))

/-- A loop over a function is entered. -/
theorem enter_run {rd : Option Nat} {w : World} (hrd : RdOk rd w) {N : Nat} (hN : N ≤ w.heap.size) (fn : FuncId) (tmps : Array Value) (ps : Array Tmp) (c1 c2 : Code) :
    ∃ (l : Nat) (mark : List Deferred) (dd : Nat) (w1 : World), (Instr.enterLoop fn tmps ps c1 c2 rd).run P w = .ok (l, mark) w1 ∧
      w1.heap[l]? = some (.loop { state := .ready, pending := none, fn := fn, tmps := tmps, params := ps, assign := c1, body := c2, defers := dd }) ∧
      w.heap.size ≤ l ∧ l < w1.heap.size ∧ (∀ k, k < w.heap.size → w1.heap[k]? = w.heap[k]?) ∧ Keep N w w1 ∧
      ∃ ds : List Nat, mark = ds.map markOf ∧ ds.Nodup ∧ ∀ D ∈ ds, w.heap.size ≤ D ∧ w1.heap[D]? = some (Obj.deferred (some [])) := by
  have keep : ∀ w1 : World, w1.os = w.os → w1.tape = w.tape → w1.output = w.output → w.heap.size ≤ w1.heap.size → (∀ k, k < w.heap.size → w1.heap[k]? = w.heap[k]?) → Keep N w w1 := fun w1 e1 e2 e3 e4 e5 =>
    ⟨⟨e1, e2, e3, e4, fun k hk => e5 k (by omega)⟩, fun k ds hk => by rw [e5 k (Array.getElem?_eq_some_iff.1 hk).1]; exact hk, fun k r hk => ⟨r, by rw [e5 k (Array.getElem?_eq_some_iff.1 hk).1]; exact hk⟩⟩
  cases rd with
  | none =>
    have hold : ∀ k, k < w.heap.size → ((w.alloc (.deferred (some []))).alloc (.loop { state := .ready, pending := none, fn, tmps, params := ps, assign := c1, body := c2, defers := w.heap.size })).heap[k]? = w.heap[k]? := fun k hk => by
      rw [Go.RowKit.Below.heap_alloc _ _ _ (by rw [World.size_alloc]; omega), Go.RowKit.Below.heap_alloc _ _ _ hk]
    refine ⟨_, _, w.heap.size, _, run_enterLoop_outer fn tmps ps c1 c2, ?_, by omega, by simp only [World.size_alloc]; omega, hold, keep _ rfl rfl rfl (by simp only [World.size_alloc]; omega) hold, [w.heap.size], rfl, by simp, fun D hD => ?_⟩
    · have := World.alloc_heap_new (w.alloc (.deferred (some []))) (.loop { state := .ready, pending := none, fn, tmps, params := ps, assign := c1, body := c2, defers := w.heap.size })
      rwa [World.size_alloc] at this
    · obtain rfl : D = w.heap.size := by simpa using hD
      refine ⟨Nat.le_refl _, ?_⟩
      rw [Go.RowKit.Below.heap_alloc _ _ _ (by rw [World.size_alloc]; omega)]
      exact World.alloc_heap_new w _
  | some l0 =>
    obtain ⟨r0, hr0⟩ := hrd l0 rfl
    have hold : ∀ k, k < w.heap.size → (w.alloc (.loop { state := .ready, pending := none, fn, tmps, params := ps, assign := c1, body := c2, defers := r0.defers })).heap[k]? = w.heap[k]? := fun k hk => Go.RowKit.Below.heap_alloc _ _ _ hk
    refine ⟨w.heap.size, [], r0.defers, w.alloc (.loop { state := .ready, pending := none, fn, tmps, params := ps, assign := c1, body := c2, defers := r0.defers }), ?_, World.alloc_heap_new w _, Nat.le_refl _, by rw [World.size_alloc]; omega, hold, keep _ rfl rfl rfl (by rw [World.size_alloc]; omega) hold, [], rfl, List.nodup_nil, fun _ h => by cases h⟩
    simp [Instr.enterLoop, Sem.run_bind, run_getLoop hr0, run_newObj_alloc, Result.andThen]

theorem onFunc_okR {x : V} {why : List String} {c : Fn → List V → List V → Res} {e : Ex} {tm : T V} {h : Heap} {nx : Nat} (r : x.onFunc (.fail why) c = .ok e tm h nx) : ∃ f a b, x = .func f a b ∧ c f a b = .ok e tm h nx := by
  cases x <;> first | exact ⟨_, _, _, rfl, r⟩ | cases r
theorem B_okX {b : Bool} {why : List String} {x : Res} {e : Ex} {tm : T V} {h : Heap} {nx : Nat} (r : B b x (.fail why) = .ok e tm h nx) : b = true ∧ x = .ok e tm h nx := by
  cases b <;> first | exact ⟨rfl, r⟩ | cases r

theorem memN_false {b : Nat} : ∀ {l : List Nat}, b ∉ l → memN b l = false
  | [], _ => rfl
  | x :: l, h => by
    show B (Nat.beq x b) true (memN b l) = false
    cases hb : Nat.beq x b with
    | true => exact absurd (nbeq hb ▸ List.mem_cons_self) h
    | false => rw [B_false]; exact memN_false fun hm => h (List.mem_cons_of_mem _ hm)
theorem memN_true {b : Nat} : ∀ {l : List Nat}, b ∈ l → memN b l = true
  | x :: l, h => by
    show B (Nat.beq x b) true (memN b l) = true
    cases hb : Nat.beq x b with
    | true => rfl
    | false =>
      rw [B_false]
      rcases List.mem_cons.1 h with rfl | h
      · rw [Nat.beq_refl] at hb; cases hb
      · exact memN_true h

theorem cands_mem {σ : Names} {seen : List Nat} : ∀ {l : List V} {es : List MapEntry}, entsRel σ l es → ∀ e ∈ es, e.born ∉ seen → ∃ k v, (e.born, k, v) ∈ cands seen l (es.map (·.born)) ∧ k.rel σ e.key ∧ v.rel σ e.val
  | [], es, he, e, hm, _ => by
    have he : es = [] := he
    subst he; cases hm
  | [_], _, he, _, _, _ => he.elim
  | k :: v :: l, es, he, e, hm, hs => by
    obtain ⟨e', es', rfl, h1, h2, h3⟩ := he
    show ∃ k' v', (e.born, k', v') ∈ B (memN e'.born seen) (cands seen l (es'.map (·.born))) ((e'.born, k, v) :: cands seen l (es'.map (·.born))) ∧ _
    rcases List.mem_cons.1 hm with rfl | hm
    · rw [memN_false hs, B_false]
      exact ⟨k, v, List.mem_cons_self, h1, h2⟩
    · obtain ⟨k', v', h4, h5⟩ := cands_mem h3 e hm hs
      refine ⟨k', v', ?_, h5⟩
      cases memN e'.born seen with
      | true => exact h4
      | false => exact List.mem_cons_of_mem _ h4

theorem cands_of {σ : Names} {seen : List Nat} : ∀ {l : List V} {es : List MapEntry}, entsRel σ l es → ∀ p ∈ cands seen l (es.map (·.born)), ∃ e ∈ es, e.born ∉ seen
  | [], es, he, p, hm => by
    have he : es = [] := he
    subst he; cases hm
  | [_], _, he, _, _ => he.elim
  | k :: v :: l, es, he, p, hm => by
    obtain ⟨e', es', rfl, h1, h2, h3⟩ := he
    by_cases hs : e'.born ∈ seen
    · have hm : p ∈ B (memN e'.born seen) (cands seen l (es'.map (·.born))) ((e'.born, k, v) :: cands seen l (es'.map (·.born))) := hm
      rw [memN_true hs, B_true] at hm
      obtain ⟨e, h4, h5⟩ := cands_of h3 p hm
      exact ⟨e, List.mem_cons_of_mem _ h4, h5⟩
    · exact ⟨e', List.mem_cons_self, hs⟩

theorem onLR_ok {r : LRes} {c : List Leaf → LRes} {ls : List Leaf} (h : onLR r .fail c = .ok ls) : ∃ l, r = .ok l ∧ c l = .ok ls := by
  cases r with
  | fail why => cases h
  | ok l => exact ⟨l, rfl, h⟩
theorem O_okL {α : Type} {x : Option α} {why : List String} {c : α → LRes} {ls : List Leaf} (r : O x (.fail why) c = .ok ls) : ∃ y, x = some y ∧ c y = .ok ls := by
  cases x <;> first | exact ⟨_, rfl, r⟩ | cases r
theorem onR_okL {r : Res} {c : Ex → T V → Heap → Nat → LRes} {ls : List Leaf} (x : onR r .fail c = .ok ls) : ∃ e1 tm1 h1 n1, r = .ok e1 tm1 h1 n1 ∧ c e1 tm1 h1 n1 = .ok ls := by
  cases r with
  | fail why => cases x
  | ok e1 tm1 h1 n1 => exact ⟨e1, tm1, h1, n1, rfl, x⟩

theorem eachM_ok {one : Nat → V → V → LRes} : ∀ {l : List (Nat × V × V)} {ls : List Leaf}, eachM one l = .ok ls → ∀ b k v, (b, k, v) ∈ l → ∃ ls', one b k v = .ok ls' ∧ ∀ x ∈ ls', x ∈ ls
  | [], _, _, _, _, _, hm => by cases hm
  | (b0, k0, v0) :: l, ls, h, b, k, v, hm => by
    have h : onLR (R := LRes) (one b0 k0 v0) .fail (fun x => onLR (eachM one l) .fail fun y => .ok (x ++ y)) = LRes.ok ls := h
    obtain ⟨x, h1, h2⟩ := onLR_ok h
    obtain ⟨y, h3, h4⟩ := onLR_ok h2
    have h4 : LRes.ok (x ++ y) = .ok ls := h4
    simp only [LRes.ok.injEq] at h4
    subst h4
    rcases List.mem_cons.1 hm with e | hm
    · obtain ⟨rfl, e2⟩ := Prod.mk.inj e
      obtain ⟨rfl, rfl⟩ := Prod.mk.inj e2
      exact ⟨x, h1, fun z hz => List.mem_append.2 (.inl hz)⟩
    · obtain ⟨ls', h5, h6⟩ := eachM_ok h3 b k v hm
      exact ⟨ls', h5, fun z hz => List.mem_append.2 (.inr (h6 z hz))⟩

theorem leafE_ok {ih : T V → Heap → Nat → List (Nat × Nat) → LRes} {lay : List (Nat × Nat)} {r : Res} {ls : List Leaf} (h : leafE ih lay r = .ok ls) : ∃ e tm hh nx, r = .ok e tm hh nx ∧
    ((e = .normal ∧ ih tm hh nx lay = .ok ls) ∨ (e ≠ .normal ∧ ls = [.mk e tm hh nx lay])) := by
  obtain ⟨e, tm, hh, nx, h1, h2⟩ := onR_okL h
  refine ⟨e, tm, hh, nx, h1, ?_⟩
  cases e with
  | normal => exact .inl ⟨rfl, h2⟩
  | exit j =>
    have h2 : LRes.ok [.mk (.exit j) tm hh nx lay] = .ok ls := h2
    simp only [LRes.ok.injEq] at h2
    exact .inr ⟨(by intro e; cases e), h2.symm⟩
  | ret =>
    have h2 : LRes.ok [.mk .ret tm hh nx lay] = .ok ls := h2
    simp only [LRes.ok.injEq] at h2
    exact .inr ⟨(by intro e; cases e), h2.symm⟩

theorem allBelow_ok {s : Nat} : ∀ {l : List Nat}, allBelow s l = true → ∀ b ∈ l, b < s
  | [], _, _, hm => by cases hm
  | x :: l, h, b, hm => by
    have h : B (Nat.blt x s) (allBelow s l) false = true := h
    cases hb : Nat.blt x s with
    | false => rw [hb] at h; cases h
    | true =>
      rw [hb, B_true] at h
      rcases List.mem_cons.1 hm with rfl | hm
      · exact blt_true hb
      · exact allBelow_ok h b hm

theorem onIterL_ok {x : V} {c : Nat → LRes} {why : List String} {ls : List Leaf} (h : x.onIter (.fail why) c = .ok ls) : ∃ i, x = .iter i ∧ c i = .ok ls := by
  cases x <;> first | exact ⟨_, rfl, h⟩ | cases h

/-- The step of an iterator: it ends when nothing is left; else any entry that is left comes out. -/
theorem step_run {σ : Names} {N nx : Nat} {h : Heap} {w : World} (H : HRel σ ro N h nx w) {i : Nat} {b : BI} (hb : σ i = some b) (ho : b.odd = .iter) (hbig : nx ≤ big) (hri : ro.ro ≤ i) {blk : T V} (hg : h.get (i + big) = some blk) {m : V} {s t : Nat} {ns : List Nat}
    (h0 : blk.get 0 = some (iterV m s t ns)) {c : Nat} {cs : List (Nat × V × V)} (hc : candsOf ro h nx m s t ns = some (c, cs)) (ty : TypeId) :
    (cs = [] ∧ (Instr.next (.pointer (some ⟨b.block, 0, none⟩)) false ty).run P w = .ok (.tuple #[.bool false]) w) ∨
    ∃ bn k v K X mm since seen w', (bn, k, v) ∈ cs ∧ k.rel σ K ∧ v.rel σ X ∧ m.rel σ (.map mm) ∧ since = s ∧ seen = (ns ++ [bn]).toArray ∧ (Instr.next (.pointer (some ⟨b.block, 0, none⟩)) false ty).run P w = .ok (.tuple #[.bool true, K, X]) w' ∧
      ∃ w1, (w1 = w ∨ w1 = w.drew) ∧ w' = w1.putObj b.block (.mapIter mm since seen c) := by
  obtain ⟨mm, hm, h5⟩ := iter_obj H hb ho hbig hri hg h0
  unfold candsOf at hc
  cases m with
  | nilmap =>
    obtain ⟨rfl, rfl⟩ := Prod.mk.inj (Option.some.inj hc)
    simp only [V.rel, Value.map.injEq] at hm
    subst hm
    refine .inl ⟨rfl, ?_⟩
    simp only [Instr.next, getObj, Sem.run_bind, Sem.run, h5, Result.andThen]
    rfl
  | map j =>
    have hc : O (entsOf ro h nx j) none (fun l => O (bornsOf h j) none fun p => Prod.rec (motive := fun _ => Option (Nat × List (Nat × V × V))) (fun c bs => B (andB (allBelow s bs) (Nat.ble s t)) (some (c, cands ns l bs)) none) p) = some (c, cs) := hc
    obtain ⟨l, hl, hc2⟩ := O_some' hc
    obtain ⟨⟨c0, bs⟩, hcb, hc3⟩ := O_some' hc2
    obtain ⟨hck, hc4⟩ := B_some hc3
    obtain ⟨rfl, rfl⟩ := Prod.mk.inj (Option.some.inj hc4)
    have hm' := hm
    simp only [V.rel, Value.map.injEq] at hm
    obtain ⟨bm, ⟨hbm, hom⟩, rfl⟩ := hm
    obtain ⟨-, -, es, clock, h12, h13, h14⟩ := entsOf_run H hbm hom hl
    obtain ⟨rfl, rfl⟩ := h14 _ _ hcb
    obtain ⟨hk1, hk2⟩ := andB_true hck
    have hold : ∀ x ∈ es.toList, x.born < s := fun x hx => allBelow_ok hk1 _ (List.mem_map.2 ⟨x, hx, rfl⟩)
    rcases run_next_at (P := P) w ty b.block bm.block s t ns.toArray es clock h5 h12 hold (Nat.le_of_ble_eq_true hk2) with ⟨h1, h2⟩ | ⟨e, he, w1, hw1, h2⟩
    · refine .inl ⟨?_, h2⟩
      cases hcs : cands ns l (es.toList.map (·.born)) with
      | nil => rfl
      | cons p r =>
        obtain ⟨e, h3, h4⟩ := cands_of h13 p (by rw [hcs]; exact List.mem_cons_self)
        have : e ∈ leftOf es ns.toArray := by
          unfold leftOf
          simp only [Array.mem_filter]
          exact ⟨by simpa using h3, by simpa using h4⟩
        have h6 := Array.eq_empty_of_size_eq_zero h1
        rw [h6] at this
        simp at this
    · have he2 : e ∈ es.toList ∧ e.born ∉ ns := by
        unfold leftOf at he
        simp at he
        exact ⟨by simpa using he.1, he.2⟩
      obtain ⟨k, v, h3, h4, h6⟩ := cands_mem h13 e he2.1 he2.2
      refine .inr ⟨e.born, k, v, e.key, e.val, some bm.block, s, (ns ++ [e.born]).toArray, _, h3, h4, h6, hm', rfl, rfl, h2, w1, hw1, ?_⟩
      simp [ChangeMaps.setBlock, World.putObj]
  | _ => cases hc

theorem leaves_sound {callO : Ys → CallF} {ih : Ys → EC → T V → Heap → Nat → Res} (hih : WpOk P ro ih) {ys : Ys} {σ0 : Names} (hys : YsOk P ro σ0 ys) (hcall : CallOk P ro σ0 (callO ys))
    {id : Nat} {ops : Array Oper} {o : Oper} {os : List Oper} {it : Operand} {d nt : Nat} {rs : List OpR} {rest : Code} {x : EC} (htl : ops.toList = o :: os) (hop : o.op = .next it false) (hdst : o.dst = some d) (hgu : o.guard = none) (hd : d < nt) (hos : OpsOk P ro nt ops os rs) (hc : Comp P ro nt rest x)
    (rd : Option Nat) {N D0 : Nat} : ∀ (n : Nat) (tm : T V) (h : Heap) (nx : Nat) (lay : List (Nat × Nat)) (ls : List Leaf),
    leavesF ro (fun tm h nx => onR (opsK (callO ys) rs tm h nx) .fail fun _ tm h nx => ih ys x tm h nx) (evC ro it) d n tm h nx lay = .ok ls → ∀ (σ : Names) (a : Act) (w : World), RdOk rd w → More σ0 σ → St σ ro N D0 nt tm h nx a w → ∀ Q : Exit → Act → World → Prop,
    (∀ leaf ∈ ls, ∀ τ a' w', After N σ nx w τ leaf.nx w' → St τ ro N D0 nt leaf.tm leaf.heap leaf.nx a' w' → Q (exOf leaf.ex) a' w') → Code.roundsIn (wideAt rd) 0 P (.seq (.region id ops false) rest) Q n a w := by
  intro n
  induction n with
  | zero => intro tm h nx lay ls hx; cases hx
  | succ n ihn =>
    intro tm h nx lay ls hx σ a w hrd hmo S Q hQ
    generalize hrun : (fun (tm : T V) (h : Heap) (nx : Nat) => onR (R := Res) (opsK (callO ys) rs tm h nx) .fail fun _ tm h nx => ih ys x tm h nx) = run at hx ihn
    have hx : O ((evC ro it).run tm) (.fail ["iterator"]) (fun v => v.onIter (.fail ["iterator"]) fun i => onIterK ro h nx i (.fail ["iterator"]) fun m s t seen =>
      O (candsOf ro h nx m s t seen) (.fail ["entries"]) fun p => Prod.rec (motive := fun _ => LRes) (fun c cs => L cs
        (tm.setK (some (.tuple [.bool false])) d fun tm => leafE (fun _ _ _ _ => .fail ["on"]) lay (run tm h nx))
        (fun _ _ => eachM (fun b k v => leafE (leavesF ro run (evC ro it) d n) ((b, nx) :: lay) (roundM run d i m s c seen tm h nx b k v)) cs)) p) = .ok ls := hx
    obtain ⟨v, hv, hx1⟩ := O_okL hx
    obtain ⟨i, rfl, hx2⟩ := onIterL_ok hx1
    obtain ⟨m, s, t, ns, blk, hbig, hri, hg, h0, hx3⟩ := onIterK_ok hx2 (by simp)
    obtain ⟨⟨c, cs⟩, hcs, hx4⟩ := O_okL hx3
    have hev := cond_sound S hv
    simp only [V.rel] at hev
    obtain ⟨b, ⟨hb, hob⟩, hev⟩ := hev
    rw [roundsIn_succ]
    refine wpIn_seq (wpIn_region_list ?_)
    -- what lies behind the step
    have onward : ∀ (σ1 : Names) (tm1 : T V) (h1 : Heap) (w1 : World) (a1 : Act) (lay1 : List (Nat × Nat)) (ls1 : List Leaf) (k : T V → Heap → Nat → List (Nat × Nat) → LRes),
        (∀ tm h nx, k tm h nx lay1 = .ok ls1 → leavesF ro run (evC ro it) d n tm h nx lay1 = .ok ls1) → leafE k lay1 (run tm1 h1 nx) = .ok ls1 → (∀ z ∈ ls1, z ∈ ls) → After N σ nx w σ1 nx w1 → St σ1 ro N D0 nt tm1 h1 nx a1 w1 →
        wpListIn (wideAt rd) 0 P ops (Exit.then (rest.wpIn (wideAt rd) 0 P (Exit.then (Code.roundsIn (wideAt rd) 0 P (.seq (.region id ops false) rest) Q n) Q)) (Exit.then (Code.roundsIn (wideAt rd) 0 P (.seq (.region id ops false) rest) Q n) Q)) os a1 w1 := by
      intro σ1 tm1 h1 w1 a1 lay1 ls1 k hk hlf hsub A1 S1
      obtain ⟨e, tm2, h2, nx2, hr, hor⟩ := leafE_ok hlf
      rw [← hrun] at hr
      obtain ⟨e0, tm3, h3, nx3, hr1, hr2⟩ := onR_ok hr
      have he0 := opsK_normal hr1
      subst he0
      refine opsK_sound hcall hos (hmo.trans A1.more) S1 hr1 fun _ τ a2 w2 A2 S2 => ?_
      show rest.wpIn (wideAt rd) 0 P (Exit.then (Code.roundsIn (wideAt rd) 0 P (.seq (.region id ops false) rest) Q n) Q) a2 w2
      refine hih _ _ hys _ _ _ _ _ _ _ _ hr2 nt rest hc rd τ N D0 a2 w2 ((hrd.keep A1.below).keep A2.below) ((hmo.trans A1.more).trans A2.more) S2 _ fun υ a3 w3 A3 S3 => ?_
      have A := (A1.trans A2).trans A3
      rcases hor with ⟨rfl, hk1⟩ | ⟨hne, rfl⟩
      · exact ihn _ _ _ _ _ (hk _ _ _ hk1) υ a3 w3 (hrd.keep A.below) (hmo.trans A.more) S3 Q fun leaf hl ω a4 w4 A4 S4 => hQ leaf (hsub _ hl) ω a4 w4 (A.trans A4) S4
      · have := hQ _ (hsub _ List.mem_cons_self) υ a3 w3 A S3
        cases e with
        | normal => exact absurd rfl hne
        | exit j => exact this
        | ret => exact this
    rw [htl]
    unfold wpListIn
    have hwant : Region.wanted o (yielded ops a.tmps) = true := by unfold Region.wanted; rw [hgu]
    rw [if_pos hwant]
    refine ⟨fun _ _ => trivial, ?_⟩
    have hsem : o.semAt (wideAt rd).round a.eval = (do let v ← Instr.next (a.eval it) false o.type; pure (.value v) : Sem Next) := by
      rw [Oper.semAt_eq _ _ _ fun c hc => by rw [hop] at hc; cases hc]
      unfold execOp
      rw [hop]
    rw [hsem, hev]
    have putd : ∀ y, (a.put o.dst y).tmps = a.tmps.setIfInBounds d y := fun y => by rw [hdst]; rfl
    rcases step_run (P := P) S.mem hb hob hbig hri hg h0 hcs o.type with ⟨rfl, hrun1⟩ | ⟨bn, k, v, K, X, mm, since, seen, w', hmem, hk, hv2, hmr, rfl, rfl, hrun1, w1, hw1, rfl⟩
    · have hx5 : tm.setK (some (.tuple [.bool false])) d (fun tm => leafE (fun _ _ _ _ => .fail ["on"]) lay (run tm h nx)) = .ok ls := hx4
      rw [T.setK_eq] at hx5
      simp only [Sem.run_bind, hrun1, Result.andThen_ok, Sem.run_pure]
      exact onward σ _ h w _ lay ls (fun _ _ _ _ => .fail ["on"]) (fun _ _ _ hk => by cases hk) hx5 (fun _ hz => hz) (After.refl _ _ _ _)
        ⟨by rw [putd]; exact S.tmps.set hd (by simp only [V.rel]; exact ⟨_, rfl, relL_cons (by simp only [V.rel]) relL_nil⟩), by rw [put_defers]; exact S.defers, S.mem, S.ron, S.d0⟩
    · cases cs with
      | nil => cases hmem
      | cons p0 r0 =>
        have hx5 : eachM (fun b k v => leafE (leavesF ro run (evC ro it) d n) ((b, nx) :: lay) (roundM run d i m since c ns tm h nx b k v)) (p0 :: r0) = .ok ls := hx4
        obtain ⟨ls1, h6, h7⟩ := eachM_ok hx5 bn k v hmem
        have h6 : leafE (leavesF ro run (evC ro it) d n) ((bn, nx) :: lay) (roundM run d i m since c ns tm h nx bn k v) = .ok ls1 := h6
        unfold roundM at h6
        rw [forceL_eq, T.setsK_eq, T.setK_eq, T.setK_eq] at h6
        simp only [Sem.run_bind, hrun1, Result.andThen_ok, Sem.run_pure]
        have H1 : HRel σ ro N h nx w1 ∧ Keep N w w1 := by
          rcases hw1 with rfl | rfl
          · exact ⟨S.mem, Keep.refl _ _⟩
          · exact ⟨S.mem.drew _, (Keep.refl _ _).drew⟩
        obtain ⟨mm', hm', h5⟩ := iter_obj H1.1 hb hob hbig hri hg h0
        have hlt := (Array.getElem?_eq_some_iff.1 h5).1
        obtain ⟨H2, K2⟩ := H1.1.turnedO (q' := .mapIter mm since (ns ++ [bn]).toArray c) (blk := some (T.sets [.tuple (m :: natV since :: natV c :: (ns ++ [bn]).map natV)] .nil 0)) hri hb (by rw [hob]; rfl) h5 (fun p => by simp [World.cell?, h5])
          (fun p => by simp [World.cell?, World.putObj_heap_same hlt]) (fun ds e => by cases e) (fun l e => by cases e) hbig (by
            intro q hq
            obtain rfl := Option.some.inj hq
            rw [hob]
            intro m1 s1 t1 ns1 h8
            rw [T.get_sets] at h8
            simp only [Nat.le_refl, List.length_cons, List.length_nil, Nat.zero_add, Nat.zero_lt_one, and_self, if_true, Nat.sub_self, List.getElem?_cons_zero, Option.some.injEq] at h8
            obtain ⟨rfl, rfl, rfl, rfl⟩ := iterV_inj (show iterV m since c (ns ++ [bn]) = iterV m1 s1 t1 ns1 from h8)
            exact ⟨mm, hmr, rfl⟩)
        have K3 := H1.2.trans K2
        exact onward σ _ _ _ _ ((bn, nx) :: lay) ls1 (leavesF ro run (evC ro it) d n) (fun _ _ _ hk => hk) h6 h7 ⟨More.refl σ, fun _ h _ => h, Nat.le_refl _, K3⟩
          ⟨by rw [putd]; exact S.tmps.set hd (by simp only [V.rel]; exact ⟨_, rfl, relL_cons (by simp only [V.rel]) (relL_cons hk (relL_cons hv2 relL_nil))⟩), by rw [put_defers]; exact S.defers.keep K3, H2, S.ron, Nat.le_trans S.d0 K3.below.size⟩

theorem onLR_okR {r : LRes} {c : List Leaf → Res} {e : Ex} {tm : T V} {h : Heap} {nx : Nat} (x : onLR r .fail c = .ok e tm h nx) : ∃ l, r = .ok l ∧ c l = .ok e tm h nx := by
  cases r with
  | fail why => cases x
  | ok l => exact ⟨l, rfl, x⟩

theorem execF_sound (hnm : ∀ (f : FuncId) (fn : Func), P.funcs[f]? = some fn → fn.body.isSome = true → (fn.name == "runtime.NumGoroutine") = false) (hm : P.follows .mixedOrders = true) {callO : Ys → CallF} (hcall : ∀ ys σ0, YsOk P ro σ0 ys → CallOk P ro σ0 (callO ys)) {n : Nat} {ih : Ys → EC → T V → Heap → Nat → Res} (hih : WpOk P ro ih) (hrn : RoundsOk P ro n ih) : WpOk P ro (execF P ro callO ih) := by
  intro ys σ0 hys ec tm h nx e tm' h' nx' hx nt code hc
  induction hc with
  | scope hb ihb =>
    intro rd σ N D0 a w hrd hmo S Q hQ
    exact wpIn_scope_straight (ihb hx rd σ N D0 a w hrd hmo S _ fun τ a' w' A' S' => noGoto_of (hQ τ a' w' A' S'))
  | skip =>
    intro rd σ N D0 a w hrd hmo S Q hQ
    have hx : Res.ok .normal tm h nx = .ok e tm' h' nx' := hx
    simp only [Res.ok.injEq] at hx
    obtain ⟨rfl, rfl, rfl, rfl⟩ := hx
    exact wpIn_skip (hQ σ a w (After.refl _ _ _ _) S)
  | label l =>
    intro rd σ N D0 a w hrd hmo S Q hQ
    have hx : Res.ok .normal tm h nx = .ok e tm' h' nx' := hx
    simp only [Res.ok.injEq] at hx
    obtain ⟨rfl, rfl, rfl, rfl⟩ := hx
    exact wpIn_label (hQ σ a w (After.refl _ _ _ _) S)
  | exit id =>
    intro rd σ N D0 a w hrd hmo S Q hQ
    have hx : Res.ok (.exit id) tm h nx = .ok e tm' h' nx' := hx
    simp only [Res.ok.injEq] at hx
    obtain ⟨rfl, rfl, rfl, rfl⟩ := hx
    exact wpIn_exit (hQ σ a w (After.refl _ _ _ _) S)
  | ret =>
    intro rd σ N D0 a w hrd hmo S Q hQ
    have hx : Res.ok .ret tm h nx = .ok e tm' h' nx' := hx
    simp only [Res.ok.injEq] at hx
    obtain ⟨rfl, rfl, rfl, rfl⟩ := hx
    exact wpIn_ret (hQ σ a w (After.refl _ _ _ _) S)
  | bad => cases hx
  | @seq id ops rs hrs =>
    intro rd σ N D0 a w hrd hmo S Q hQ
    have hx : opsK (callO ys) rs tm h nx = .ok e tm' h' nx' := hx
    have he := opsK_normal hx
    subst he
    exact wpIn_region_list (opsK_sound (hcall ys σ0 hys) hrs hmo S hx fun _ τ a' w' A' S' => hQ τ a' w' A' S')
  | @draw id ops l hl =>
    intro rd σ N D0 a w hrd hmo S Q hQ
    have hx : itemsRun (callO ys) l 0 [] tm h nx = .ok e tm' h' nx' := hx
    have he := itemsRun_normal hx
    subst he
    exact draw_sound hm (hcall ys σ0 hys) hl hx hmo S hQ
  | @andThen c1 c2 x y h1 h2 _ _ =>
    intro rd σ N D0 a w hrd hmo S Q hQ
    have hx : onR (R := Res) (ih ys x tm h nx) .fail (fun e tm h nx => onEx e (ih ys y tm h nx) (fun id => .ok (.exit id) tm h nx) (.ok .ret tm h nx)) = .ok e tm' h' nx' := hx
    obtain ⟨e1, tm1, h1', n1, hr, hx2⟩ := onR_ok hx
    refine wpIn_seq (hih _ _ hys _ _ _ _ _ _ _ _ hr nt c1 h1 rd σ N D0 a w hrd hmo S _ fun τ a1 w1 A1 S1 => ?_)
    cases e1 with
    | normal =>
      have hx2 : ih ys y tm1 h1' n1 = .ok e tm' h' nx' := hx2
      exact hih _ _ hys _ _ _ _ _ _ _ _ hx2 nt c2 h2 rd τ N D0 a1 w1 (hrd.keep A1.below) (hmo.trans A1.more) S1 Q fun υ a2 w2 A2 S2 => hQ υ a2 w2 (A1.trans A2) S2
    | exit id =>
      have hx2 : Res.ok (.exit id) tm1 h1' n1 = .ok e tm' h' nx' := hx2
      simp only [Res.ok.injEq] at hx2
      obtain ⟨rfl, rfl, rfl, rfl⟩ := hx2
      exact hQ τ a1 w1 A1 S1
    | ret =>
      have hx2 : Res.ok .ret tm1 h1' n1 = .ok e tm' h' nx' := hx2
      simp only [Res.ok.injEq] at hx2
      obtain ⟨rfl, rfl, rfl, rfl⟩ := hx2
      exact hQ τ a1 w1 A1 S1
  | @cond x c1 c2 y z h1 h2 _ _ =>
    intro rd σ N D0 a w hrd hmo S Q hQ
    have hx : O ((evC ro x).run tm) (.fail ["cond"]) (fun v => v.onBool (.fail ["cond"]) fun t => B t (ih ys y tm h nx) (ih ys z tm h nx)) = .ok e tm' h' nx' := hx
    obtain ⟨v, hv, hx2⟩ := O_okR hx
    cases v with
    | bool t =>
      have hb := cond_sound S hv
      simp only [V.rel] at hb
      have hx2 : B t (ih ys y tm h nx) (ih ys z tm h nx) = .ok e tm' h' nx' := hx2
      cases t with
      | true => exact wpIn_cond_true hb (hih _ _ hys _ _ _ _ _ _ _ _ hx2 nt c1 h1 rd σ N D0 a w hrd hmo S Q hQ)
      | false => exact wpIn_cond_false hb (hih _ _ hys _ _ _ _ _ _ _ _ hx2 nt c2 h2 rd σ N D0 a w hrd hmo S Q hQ)
    | _ => cases hx2
  | @block id c1 x h1 _ =>
    intro rd σ N D0 a w hrd hmo S Q hQ
    have hx : onR (R := Res) (ih ys x tm h nx) .fail (fun e tm h nx => onEx e (Res.ok .normal tm h nx) (fun j => B (Nat.beq j id) (Res.ok .normal tm h nx) (Res.ok (.exit j) tm h nx)) (Res.ok .ret tm h nx)) = .ok e tm' h' nx' := hx
    obtain ⟨e1, tm1, h1', n1, hr, hx2⟩ := onR_ok hx
    refine wpIn_block (hih _ _ hys _ _ _ _ _ _ _ _ hr nt c1 h1 rd σ N D0 a w hrd hmo S _ fun τ a1 w1 A1 S1 => ?_)
    cases e1 with
    | normal =>
      have hx2 : Res.ok .normal tm1 h1' n1 = .ok e tm' h' nx' := hx2
      simp only [Res.ok.injEq] at hx2
      obtain ⟨rfl, rfl, rfl, rfl⟩ := hx2
      exact hQ τ a1 w1 A1 S1
    | exit j =>
      have hx2 : B (Nat.beq j id) (Res.ok .normal tm1 h1' n1) (Res.ok (.exit j) tm1 h1' n1) = .ok e tm' h' nx' := hx2
      rw [beq_iff] at hx2
      show (if j = id then Q .normal a1 w1 else Q (.exit j) a1 w1)
      by_cases hj : j = id
      · rw [decide_eq_true hj, B_true] at hx2
        simp only [Res.ok.injEq] at hx2
        obtain ⟨rfl, rfl, rfl, rfl⟩ := hx2
        rw [if_pos hj]
        exact hQ τ a1 w1 A1 S1
      · rw [decide_eq_false hj, B_false] at hx2
        simp only [Res.ok.injEq] at hx2
        obtain ⟨rfl, rfl, rfl, rfl⟩ := hx2
        rw [if_neg hj]
        exact hQ τ a1 w1 A1 S1
    | ret =>
      have hx2 : Res.ok .ret tm1 h1' n1 = .ok e tm' h' nx' := hx2
      simp only [Res.ok.injEq] at hx2
      obtain ⟨rfl, rfl, rfl, rfl⟩ := hx2
      exact hQ τ a1 w1 A1 S1
  | @range g ps c1 c2 x y hps h1 h2 _ _ =>
    intro rd σ N D0 a w hrd hmo S Q hQ
    have hx : rangeF P callO ih ys (evC ro g) ps.toList x y tm h nx = .ok e tm' h' nx' := hx
    unfold rangeF at hx
    obtain ⟨vg, hvg, hx⟩ := O_okR hx
    obtain ⟨fnv, first, captured, rfl, hx⟩ := onFunc_okR hx
    cases fnv with
    | func f =>
      obtain ⟨hbody, hx⟩ := B_okX hx
      rw [T.setK_eq, forceN_eq] at hx
      have hbig : nx + 1 ≤ big := putState_big hx (by simp)
      have hx := putState_ok hx (by simp)
      rw [forceL_eq] at hx
      obtain ⟨v1, h3, n2, hcl, hx⟩ := onC_ok hx
      obtain ⟨n3, hn3, hx⟩ := O_okR hx
      rw [T.setK_eq] at hx
      have hfv := cond_sound S hvg
      simp only [V.rel] at hfv
      obtain ⟨a', c', hfo, ha', hc'⟩ := hfv
      have hnone : σ nx = none := by
        cases hc : σ nx with
        | none => rfl
        | some b => exact absurd (S.mem.old nx b hc) (Nat.lt_irrefl _)
      refine wpIn_rangeFunc fun fnid _ => ?_
      obtain ⟨l, mark, dd, w1, hent, hl1, hs, hs1, hold, K1, ds1, hmark, hnd1, hds1⟩ := enter_run (P := P) hrd S.mem.low fnid a.tmps ps c1 c2
      have H1 := S.mem.enter (r := { state := .ready, pending := none, fn := fnid, tmps := a.tmps, params := ps, assign := c1, body := c2, defers := dd }) S.ron hbig hs hs1 hold hl1
      generalize hr : ({ state := .ready, pending := none, fn := fnid, tmps := a.tmps, params := ps, assign := c1, body := c2, defers := dd } : Loop) = r at H1 hl1
      have hys' : YsOk P ro (upd σ nx ⟨l, 0, 0, .loop r⟩) (fun j => B (Nat.beq j nx) (some (roundF (ih ys) nx ps.toList x y tm)) (ys j)) := by
        intro j c hc args hh nn v hh' nn' hcx υ M u xs b hmυ hbj hrn hrel HH
        by_cases ej : j = nx
        · subst ej
          have hc : B (Nat.beq j j) (some (roundF (ih ys) j ps.toList x y tm)) (ys j) = some c := hc
          rw [beq_iff, decide_eq_true rfl, B_true] at hc
          obtain rfl := Option.some.inj hc
          have hbb := hmυ j _ (upd_same σ j ⟨l, 0, 0, .loop r⟩)
          rw [hbj] at hbb
          obtain rfl := Option.some.inj hbb
          exact round_sound hih (σ0 := upd σ j ⟨l, 0, 0, .loop r⟩) (fun i c hi args h nx v h' nx' e υ M u xs b hm => hys i c hi args h nx v h' nx' e υ M u xs b ((hmo.trans (upd_more hnone)).trans hm)) h1 h2 hps (S.tmps.more (upd_more hnone)) S.ron (by rw [← hr]) (by rw [← hr]) (by rw [← hr]) (by rw [← hr]) hcx hmυ hbj rfl rfl hrn hrel HH
        · have hc : B (Nat.beq j nx) (some (roundF (ih ys) nx ps.toList x y tm)) (ys j) = some c := hc
          rw [beq_iff, decide_eq_false ej, B_false] at hc
          exact hys j c hc args hh nn v hh' nn' hcx υ M u xs b ((hmo.trans (upd_more hnone)).trans hmυ) hbj hrn hrel HH
      have hD := (hcall _ _ hys').fn f _ _ _ _ _ _ hcl (upd σ nx ⟨l, 0, 0, .loop r⟩) N w1 (a' ++ #[.func (.yield l) #[] #[]] ++ c') (More.refl _) (Nat.le_succ_of_le S.ron) (by
        rw [Array.toList_append, Array.toList_append, List.append_assoc]
        refine (relL.more (upd_more hnone) _ _ ha').append ?_
        refine relL_cons ?_ (relL.more (upd_more hnone) _ _ hc')
        simp only [V.rel]
        exact ⟨_, upd_same _ _ _, rfl⟩) H1
      have henter : (callFunc f (a' ++ #[.func (.yield l) #[] #[]] ++ c')).run P w1 = .ok (.enter f (a' ++ #[.func (.yield l) #[] #[]] ++ c')) w1 := by
        unfold hasBody at hbody
        cases hfn : P.funcs[f]? with
        | none => rw [hfn] at hbody; cases hbody
        | some fn =>
          rw [hfn] at hbody
          have hname : ¬ fn.name = "runtime.NumGoroutine" := by simpa using hnm f fn hfn hbody
          obtain ⟨cb, hcb⟩ := Option.isSome_iff_exists.1 hbody
          simp [callFunc, hfn, hname, hcb]
      have hD2 := hD
      rw [henter] at hD2
      have hres : ∃ d, (resolve a.eval (rangeCall g l) 0).run P w1 = .ok d w1 ∧ (invoke d.target d.args).run P w1 = .ok (.enter f (a' ++ #[.func (.yield l) #[] #[]] ++ c')) w1 := by
        have hev : a.eval (.const (.func (.yield l) #[] #[])) = .func (.yield l) #[] #[] := rfl
        refine ⟨_, by simp [resolve, rangeCall, hfo, Deferred.ofValue, hev]; rfl, ?_⟩
        rw [← henter]
        simp [invoke]
      obtain ⟨d, hd1, hd2⟩ := hres
      refine ⟨l, mark, w1, d, w1, f, _, w1, hent, hd1, fun _ _ => trivial, hd2, wideAt_depth, ?_⟩
      have hD3 : Calls P f (a' ++ #[.func (.yield l) #[] #[]] ++ c') w1 fun e w'' => ∃ y, e = .returned y ∧ Post (upd σ nx ⟨l, 0, 0, .loop r⟩) ro N w1 (nx + 1) v1 h3 n2 y w'' := hD2
      have hD4 : CallsIn (wideAt rd) 0 P f (a' ++ #[.func (.yield l) #[] #[]] ++ c') w1 fun e w'' => ∃ y, e = .returned y ∧ Post (upd σ nx ⟨l, 0, 0, .loop r⟩) ro N w1 (nx + 1) v1 h3 n2 y w'' := (callsIn_wide (n := 0)).2 hD3
      refine hD4.mono fun e2 w2 ⟨y2, he2, hle, τ, hmore, hnew, _, H2, K2⟩ => ?_
      subst he2
      have hτ := hmore nx _ (upd_same σ nx ⟨l, 0, 0, .loop r⟩)
      obtain ⟨hbig2, hl2⟩ := stateOf_ok H2 S.ron hτ rfl hn3
      have fin : ∀ (q : Loop) (hq : w2.heap[l]? = some (Obj.loop q)) (hqb : q.state ≠ .busy), ∃ jump w4, (Instr.endLoop l).run P w2 = .ok jump w4 ∧ jump = q.pending ∧
          After N σ nx w τ n2 w4 ∧ St τ ro N D0 nt tm (h3.set none (nx + big)) n2 { a with defers := mark ++ a.defers } w4 := by
        intro q hq hqb
        obtain ⟨H4, K4⟩ := H2.turned (b := ⟨l, 0, 0, .loop r⟩) (q' := { q with state := .exhausted }) (blk := none) S.ron hτ rfl hq hbig2 (fun _ h => by cases h)
        have K5 := (K1.trans K2).trans K4
        refine ⟨_, _, run_endLoop hq hqb, rfl, ⟨(upd_more hnone).trans hmore, fun i hi hlt => hnew i (by unfold upd; rw [if_neg (by omega)]; exact hi) (by omega), by omega, K5⟩, ⟨S.tmps.more ((upd_more hnone).trans hmore), ?_, H4, Nat.le_trans S.ron (by omega), Nat.le_trans S.d0 K5.below.size⟩⟩
        obtain ⟨ds, q1, q2, q3⟩ := S.defers.out
        refine ⟨ds1 ++ ds, by simp [hmark, q1], ?_, fun D hD => ?_⟩
        · rw [List.nodup_append]
          refine ⟨hnd1, q2, fun u hu z hz e => ?_⟩
          subst e
          have g1 := (hds1 u hu).1
          have g2 := (Array.getElem?_eq_some_iff.1 (q3 u hz).2).1
          omega
        · rcases List.mem_append.1 hD with h5 | h5
          · obtain ⟨g1, g2⟩ := hds1 D h5
            exact ⟨Nat.le_trans S.d0 g1, K4.marks D _ (K2.marks D _ g2)⟩
          · exact ⟨(q3 D h5).1, K5.marks D _ (q3 D h5).2⟩
      match n3, hl2, hx with
      | 0, hl2, hx =>
        obtain ⟨jump, w4, g1, g2, A4, S4⟩ := fin _ hl2 (by simp)
        have hx : Res.ok .normal tm (h3.set none (nx + big)) n2 = .ok e tm' h' nx' := hx
        simp only [Res.ok.injEq] at hx
        obtain ⟨rfl, rfl, rfl, rfl⟩ := hx
        refine ⟨jump, w4, g1, ?_⟩
        subst g2
        exact hQ τ _ _ A4 S4
      | 1, _, hx => cases hx
      | 2, hl2, hx =>
        obtain ⟨jump, w4, g1, g2, A4, S4⟩ := fin _ hl2 (by simp)
        have hx : Res.ok .ret tm (h3.set none (nx + big)) n2 = .ok e tm' h' nx' := hx
        simp only [Res.ok.injEq] at hx
        obtain ⟨rfl, rfl, rfl, rfl⟩ := hx
        refine ⟨jump, w4, g1, ?_⟩
        subst g2
        exact wpIn_ret (hQ τ _ _ A4 S4)
      | k + 3, hl2, hx =>
        obtain ⟨jump, w4, g1, g2, A4, S4⟩ := fin _ hl2 (by simp)
        have hx : forceN k (fun n => Res.ok (.exit n) tm (h3.set none (nx + big)) n2) = .ok e tm' h' nx' := hx
        rw [forceN_eq] at hx
        simp only [Res.ok.injEq] at hx
        obtain ⟨rfl, rfl, rfl, rfl⟩ := hx
        refine ⟨jump, w4, g1, ?_⟩
        subst g2
        exact wpIn_exit (hQ τ _ _ A4 S4)
    | _ => cases hx
  | @mloop id ops o os it d rs c1 x htl hop hdst hgu hd hos h1 _ =>
    intro rd σ N D0 a w hrd hmo S Q hQ
    have hx : onLR (leavesF ro (fun tm h nx => onR (opsK (callO ys) rs tm h nx) .fail fun _ tm h nx => ih ys x tm h nx) (evC ro it) d 40 tm h nx []) .fail (fun ls =>
      L ls (.fail ["no way"]) fun l0 r => Leaf.rec (motive := fun _ => Res) (fun e tm h n lay => spansK lay n fun sp => mergeAll nx e n sp r tm h) l0) = .ok e tm' h' nx' := hx
    obtain ⟨ls, hls, hx2⟩ := onLR_okR hx
    cases ls with
    | nil => cases hx2
    | cons l0 r =>
      obtain ⟨e0, tm0, h0, n0, lay0⟩ := l0
      have hx2 : spansK lay0 n0 (fun sp => mergeAll nx e0 n0 sp r tm0 h0) = .ok e tm' h' nx' := hx2
      obtain ⟨sp, hsp⟩ := spansK_spec lay0 n0
      rw [hsp] at hx2
      obtain ⟨rfl, rfl, k3, k4, k5⟩ := mergeAll_ok hx2
      have all : ∀ leaf ∈ Leaf.mk e tm0 h0 nx' lay0 :: r, LeafLe nx e tm' h' nx' leaf := fun leaf hl => by
        rcases List.mem_cons.1 hl with rfl | hl
        · exact LeafLe.first k3 k4
        · exact k5 leaf hl
      refine wpIn_loop_rounds 40 (leaves_sound hih hys (hcall ys σ0 hys) htl hop hdst hgu hd hos h1 rd 40 tm h nx [] _ hls σ a w hrd hmo S Q fun leaf hl τ a' w' A S' => ?_)
      obtain ⟨f1, f2, π, hπ, hT, hH⟩ := all leaf hl
      rw [f1]
      rw [f2] at A S'
      have hga : ∀ g, g < ro.gl → g < nx := fun g hg => let ⟨b, h1, _⟩ := S.mem.globals g hg; S.mem.old g b h1
      exact hQ _ a' w' (A.merge hπ S.mem.old) (S'.merge hπ S.ron hga hT hH)
  | @loop c1 x h1 _ =>
    intro rd σ N D0 a w hrd hmo S Q hQ
    exact wpIn_loop_rounds (n + 1) (rounds_sound (callO := callO) hih hrn ys σ0 hys x tm h nx e tm' h' nx' hx nt c1 h1 rd σ N D0 a w hrd hmo S Q hQ)

/-- The conditions on the program: no function with a body has the one name that the model takes apart; the functions without a body are answered rightly. -/
structure ProgOk (P : Program) (ro : Lo) (prims : Base) : Prop where
  mixed : P.follows .mixedOrders = true
  names : ∀ (f : FuncId) (fn : Func), P.funcs[f]? = some fn → fn.body.isSome = true → (fn.name == "runtime.NumGoroutine") = false
  known : ∀ f l h nx v h' nx', prims.known f l h nx = some (.ok v h' nx') → ∀ (σ : Names) (N : Nat) (w : World) (xs : Array Value), ro.ro ≤ nx → relL σ l xs.toList → HRel σ ro N h nx w →
    Does P (Post σ ro N w nx v h' nx') ((callFunc f xs).run P w)
  prims : ∀ f l v, prims.bare f l = some v → ∀ (fn : Func), P.funcs[f]? = some fn → fn.body = none → ∀ (σ : Names) (xs : Array Value) (w : World), relL σ l xs.toList → ∃ y, (callFunc f xs).run P w = .ok (.value y) w ∧ v.rel σ y

theorem resCs_spec : ∀ (l : List ResultVar), ∃ rs : List ResC, (rs.length = l.length ∧ ∀ (i : Nat) (h : i < l.length) (h' : i < rs.length), (∃ t, l[i] = .tmp t ∧ rs[i] = .tmp t) ∨ ∃ a t, l[i] = .cell a t ∧ rs[i] = .cell a (szOf P t)) ∧
    ∀ (R : Type) (c : List ResC → R), resCs P l c = c rs
  | [] => ⟨[], ⟨rfl, fun i h => by simp at h⟩, fun _ _ => rfl⟩
  | r :: l => by
    obtain ⟨rs, ⟨h1, h2⟩, hc⟩ := resCs_spec l
    cases r with
    | tmp t =>
      refine ⟨.tmp t :: rs, ⟨by simp [h1], fun i h h' => ?_⟩, fun R c => by simp only [resCs, hc]⟩
      cases i with
      | zero => exact .inl ⟨t, rfl, rfl⟩
      | succ i => exact h2 i (by simpa using h) (by simpa using h')
    | cell a t =>
      refine ⟨.cell a (szOf P t) :: rs, ⟨by simp [h1], fun i h h' => ?_⟩, fun R c => by simp only [resCs, forceS_eq, hc]⟩
      cases i with
      | zero => exact .inr ⟨a, t, rfl, rfl⟩
      | succ i => exact h2 i (by simpa using h) (by simpa using h')

theorem results_list {σ : Names} {N D0 nt : Nat} {tm : T V} {h : Heap} {nx : Nat} {a : Act} {w : World} (S : St σ ro N D0 nt tm h nx a w) : ∀ {l : List ResultVar} {rs : List ResC} {vs : List V},
    (rs.length = l.length ∧ ∀ (i : Nat) (h : i < l.length) (h' : i < rs.length), (∃ t, l[i] = .tmp t ∧ rs[i] = .tmp t) ∨ ∃ a t, l[i] = .cell a t ∧ rs[i] = .cell a (szOf P t)) → resVs h tm rs = some vs →
    ∃ ys, (l.mapM fun | .tmp t => pure (a.tmps.getD t undef) | .cell b t => do loadVar t (← asAddr (a.tmps.getD b undef)) : Sem (List Value)).run P w = .ok ys w ∧ relL σ vs ys
  | [], [], vs, _, hv => by obtain rfl := Option.some.inj hv; exact ⟨[], rfl, relL_nil⟩
  | [], _ :: _, _, hl, _ => by simp at hl
  | _ :: _, [], _, hl, _ => by simp at hl
  | r :: l, q :: rs, vs, ⟨hlen, hl⟩, hv => by
    have hv : O (resV h tm q) none (fun v => O (resVs h tm rs) none fun vs => some (v :: vs)) = some vs := hv
    obtain ⟨v, hv1, hv2⟩ := O_some' hv
    obtain ⟨us, hv3, hv4⟩ := O_some' hv2
    obtain rfl := Option.some.inj hv4
    obtain ⟨ys, hys, hr⟩ := results_list S (l := l) (rs := rs) ⟨by simpa using hlen, fun i h h' => hl (i + 1) (by simp; omega) (by simp; omega)⟩ hv3
    have getD : ∀ t x, tm.get t = some x → ∃ y, a.tmps.getD t undef = y ∧ x.rel σ y := fun t x ht => by
      obtain ⟨y, hy, hr⟩ := S.tmps.get t x ht
      exact ⟨y, by rw [Array.getD_eq_getD_getElem?, hy]; rfl, hr⟩
    rw [List.mapM_cons]
    rcases hl 0 (by simp) (by simp) with ⟨t, e1, e2⟩ | ⟨b, t, e1, e2⟩
    · simp only [List.getElem_cons_zero] at e1 e2
      subst e1 e2
      obtain ⟨y, hy, hrel⟩ := getD t v hv1
      refine ⟨y :: ys, ?_, relL_cons hrel hr⟩
      simp only [Sem.run_bind, Sem.run_pure, Result.andThen_ok, hys, hy]
    · simp only [List.getElem_cons_zero] at e1 e2
      subst e1 e2
      have hv1 : O (tm.get b) none (fun v => loadV h (szOf P t) v) = some v := hv1
      obtain ⟨p, hp, hl2⟩ := O_some' hv1
      obtain ⟨y, hy, hrel⟩ := getD b p hp
      obtain ⟨Y, hY, hrel2⟩ := load_run (P := P) S.mem hrel hl2
      obtain ⟨i, off, rfl, -⟩ := onPtr_some hl2
      simp only [V.rel] at hrel
      obtain ⟨b', -, rfl⟩ := hrel
      refine ⟨Y :: ys, ?_, relL_cons hrel2 hr⟩
      have hY' : (loadVar t ⟨b'.block, b'.base + off, none⟩).run P w = .ok Y w := by
        simpa [Instr.loadAt, Instr.sureAddr] using hY
      have hA : (asAddr (a.tmps.getD b undef)).run P w = .ok ⟨b'.block, b'.base + off, none⟩ w := by rw [hy]; rfl
      simp only [Sem.run_bind, Sem.run_pure, Result.andThen_ok, hys, hA, hY']

theorem results_run {σ : Names} {N D0 nt : Nat} {tm : T V} {h : Heap} {nx : Nat} {a : Act} {w : World} (S : St σ ro N D0 nt tm h nx a w) {fn : Func} {rs : List ResC}
    (hrs : rs.length = fn.results.toList.length ∧ ∀ (i : Nat) (h : i < fn.results.toList.length) (h' : i < rs.length), (∃ t, fn.results.toList[i] = .tmp t ∧ rs[i] = .tmp t) ∨ ∃ a t, fn.results.toList[i] = .cell a t ∧ rs[i] = .cell a (szOf P t))
    {v : V} {h' : Heap} {nx' : Nat} (hx : resK h nx tm rs = .ok v h' nx') : h' = h ∧ nx' = nx ∧ ∃ y, (results fn a.tmps).run P w = .ok y w ∧ v.rel σ y := by
  obtain ⟨vs, hvs, hx2⟩ := O_ok (x := resVs h tm rs) hx
  obtain ⟨ys, hys, hr⟩ := results_list (P := P) S hrs hvs
  have hrun : (fn.results.mapM fun | .tmp t => pure (a.tmps.getD t undef) | .cell b t => do loadVar t (← asAddr (a.tmps.getD b undef)) : Sem (Array Value)).run P w = .ok ys.toArray w := by
    rw [Array.mapM_eq_mapM_toList]
    simp only [Sem.run_map, hys, Result.andThen_ok]
  have e : results fn a.tmps = (do
      let vs ← (fn.results.mapM fun | .tmp t => pure (a.tmps.getD t undef) | .cell b t => do loadVar t (← asAddr (a.tmps.getD b undef)) : Sem (Array Value))
      pure (if h : vs.size = 1 then vs[0] else .tuple vs)) := rfl
  rw [e]
  simp only [Sem.run_bind, hrun, Result.andThen_ok, Sem.run_pure]
  cases vs with
  | nil =>
    simp only [relL] at hr; subst hr
    have hx2 : CRes.ok (.tuple []) h nx = .ok v h' nx' := hx2
    simp only [CRes.ok.injEq] at hx2
    obtain ⟨rfl, rfl, rfl⟩ := hx2
    exact ⟨rfl, rfl, .tuple #[], by simp, by simp only [V.rel]; exact ⟨#[], rfl, relL_nil⟩⟩
  | cons v0 vs =>
    have hlen := hr.length
    cases vs with
    | nil =>
      have hx2 : CRes.ok v0 h nx = .ok v h' nx' := hx2
      simp only [CRes.ok.injEq] at hx2
      obtain ⟨rfl, rfl, rfl⟩ := hx2
      simp only [relL] at hr
      obtain ⟨y, zs, rfl, hy, rfl⟩ := hr
      exact ⟨rfl, rfl, y, by simp, hy⟩
    | cons v1 vs =>
      have hx2 : CRes.ok (.tuple (v0 :: v1 :: vs)) h nx = .ok v h' nx' := hx2
      simp only [CRes.ok.injEq] at hx2
      obtain ⟨rfl, rfl, rfl⟩ := hx2
      refine ⟨rfl, rfl, .tuple ys.toArray, ?_, by simp only [V.rel]; exact ⟨_, rfl, by simpa using hr⟩⟩
      rw [dif_neg (by simp [hlen])]

/-- The block of a mark is taken over: nothing else turns. -/
theorem take_run {w : World} {D : Nat} (h : w.heap[D]? = some (Obj.deferred (some []))) : ∃ w', (Instr.takeDeferred D).run P w = .ok [] w' ∧
    w'.heap.size = w.heap.size ∧ (∀ k, k ≠ D → w'.heap[k]? = w.heap[k]?) ∧ (∀ k o, w'.cell? ⟨k, o, none⟩ = w.cell? ⟨k, o, none⟩) ∧ (∀ k o x, w'.cell? ⟨k, o, none⟩ = some x → w'.frozen? ⟨k, o, none⟩ = w.frozen? ⟨k, o, none⟩) ∧ w'.os = w.os ∧ w'.tape = w.tape ∧ w'.output = w.output := by
  have hlt := (Array.getElem?_eq_some_iff.1 h).1
  have hc : ∀ k o, (w.putObj D (.deferred none)).cell? ⟨k, o, none⟩ = w.cell? ⟨k, o, none⟩ := fun k o => by
    by_cases e : k = D
    · subst e; simp [World.cell?, World.putObj_heap_same hlt, h]
    · exact cell_of_block (World.putObj_heap_other e)
  refine ⟨_, run_takeDeferred h, World.putObj_size, fun k hk => World.putObj_heap_other hk, hc, fun k o x hx => ?_, rfl, rfl, rfl⟩
  by_cases e : k = D
  · subst e; rw [hc] at hx; simp [World.cell?, h] at hx
  · exact frozen_of_block (World.putObj_heap_other e)

theorem HRel.took {σ : Names} {N nx : Nat} {h : Heap} {w w' : World} (H : HRel σ ro N h nx w) {D : Nat} (hD : w.heap[D]? = some (Obj.deferred (some []))) (h1 : w'.heap.size = w.heap.size) (h2 : ∀ k, k ≠ D → w'.heap[k]? = w.heap[k]?)
    (h3 : ∀ k o, w'.cell? ⟨k, o, none⟩ = w.cell? ⟨k, o, none⟩) (h4 : ∀ k o x, w'.cell? ⟨k, o, none⟩ = some x → w'.frozen? ⟨k, o, none⟩ = w.frozen? ⟨k, o, none⟩) : HRel σ ro N h nx w' where
  old := H.old
  cell := fun i blk b hi hb o v ho => by rw [h3]; exact H.cell i blk b hi hb o v ho
  own := fun i blk b hi hb hr => by
    obtain ⟨k1, k2, k3, k4⟩ := H.own i blk b hi hb hr
    exact ⟨k1, by rw [h1]; exact k2, fun o ho => by rw [h3]; exact k3 o ho, fun o x hx => by rw [h4 _ _ x hx]; rw [h3] at hx; exact k4 o x hx⟩
  apart := H.apart
  globals := H.globals
  low := by rw [h1]; exact H.low
  lows := H.lows
  whole := fun i blk b hi hb hr c e' lo hi' hc' => by
    by_cases e : b.block = D
    · right
      rcases Nat.eq_zero_or_pos c.size with h0 | h0
      · omega
      · have := h3 b.block 0
        rw [e] at hc' this
        have hz : c[0]? = none := by simpa [World.cell?, hc', hD] using this
        rw [Array.getElem?_eq_none_iff] at hz
        omega
    · rw [h2 _ e] at hc'
      exact H.whole i blk b hi hb hr c e' lo hi' hc'
  plain := fun i blk b o v hi hb hr ho hv p => by
    obtain ⟨x, hx, -⟩ := H.cell i blk b hi hb o v ho
    have hne : b.block ≠ D := fun e => by simp [World.cell?, e, hD] at hx
    rw [frozen_of_block (h2 _ hne)]
    exact H.plain i blk b o v hi hb hr ho hv p
  odd := fun i b hb ho => by
    obtain ⟨k1, k2, k3⟩ := H.odd i b hb ho
    refine ⟨k1, by rw [h1]; exact k2, fun hr => ⟨(k3 hr).1, fun hx blk hi => ?_⟩⟩
    have k4 := (k3 hr).2 hx blk hi
    by_cases e : b.block = D
    · rw [e, hD] at k4
      rw [e]
      exact OddRel.taken k4
    · rw [h2 _ e]; exact k4
  oddApart := H.oddApart

theorem leaves_marks {σ τ : Names} {N nt nx n1 nx' : Nat} {h1 h' : Heap} {tm1 : T V} {a1 : Act} {w w1 : World} {fn : Func} {rs : List ResC} {v : V}
    (hrs : rs.length = fn.results.toList.length ∧ ∀ (i : Nat) (h : i < fn.results.toList.length) (h' : i < rs.length), (∃ t, fn.results.toList[i] = .tmp t ∧ rs[i] = .tmp t) ∨ ∃ a t, fn.results.toList[i] = .cell a t ∧ rs[i] = .cell a (szOf P t))
    (hx : resK h1 n1 tm1 rs = .ok v h' nx') (hN : N ≤ w.heap.size) (A1 : After N σ nx w τ n1 w1) (S1 : St τ ro N w.heap.size nt tm1 h1 n1 a1 w1) :
    LeavesInM Fence.wide 0 P fn a1.tmps (fun e w'' => ∃ y, e = .returned y ∧ Post σ ro N w nx v h' nx' y w'') a1.defers .returning w1 := by
  obtain ⟨ds, hds, hnd, hall⟩ := S1.defers.out
  rw [hds]
  have key : ∀ (ds : List Nat) (w2 : World), ds.Nodup → (∀ D ∈ ds, w.heap.size ≤ D ∧ w2.heap[D]? = some (Obj.deferred (some []))) → HRel τ ro N h1 n1 w2 → Keep N w w2 →
      LeavesInM Fence.wide 0 P fn a1.tmps (fun e w'' => ∃ y, e = .returned y ∧ Post σ ro N w nx v h' nx' y w'') (ds.map markOf) .returning w2 := by
    intro ds
    induction ds with
    | nil =>
      intro w2 _ _ H2 K2
      have S2 : St τ ro N w.heap.size nt tm1 h1 n1 { a1 with defers := [] } w2 := ⟨S1.tmps, Marks.nil, H2, S1.ron, K2.below.size⟩
      obtain ⟨rfl, rfl, y, hy, hr⟩ := results_run (P := P) S2 hrs hx
      exact ⟨y, hy, y, rfl, A1.le, τ, A1.more, A1.new, hr, H2, K2⟩
    | cons D ds ih =>
      intro w2 hnd hall H2 K2
      obtain ⟨hD0, hD⟩ := hall D List.mem_cons_self
      obtain ⟨w3, hrun, e1, e2, e3, e4, e5, e6, e7⟩ := take_run (P := P) hD
      rw [List.nodup_cons] at hnd
      refine ⟨by simp, .inl ⟨D, w3, rfl, hrun, ?_⟩⟩
      refine ih w3 hnd.2 (fun D' hD' => ?_) (H2.took hD e1 e2 e3 e4) ⟨⟨e5.trans K2.below.os, e6.trans K2.below.tape, e7.trans K2.below.output, by rw [e1]; exact K2.below.size, fun k hk => ?_⟩, fun k os hk => ?_, fun k r hk => ?_⟩
      · obtain ⟨q1, q2⟩ := hall D' (List.mem_cons_of_mem _ hD')
        refine ⟨q1, ?_⟩
        rw [e2 _ (fun e => hnd.1 (e ▸ hD'))]; exact q2
      · rw [e2 _ (by omega)]; exact K2.below.block k hk
      · have hlt := (Array.getElem?_eq_some_iff.1 hk).1
        rw [e2 _ (by omega)]; exact K2.marks k os hk
      · have hlt := (Array.getElem?_eq_some_iff.1 hk).1
        rw [e2 _ (by omega)]; exact K2.loops k r hk
  exact key ds w1 hnd hall S1.mem A1.below

theorem callOf_sound {prims : Base} (hP : ProgOk P ro prims) {ex : Ys → EC → T V → Heap → Nat → Res} (hex : WpOk P ro ex) (ys : Ys) (σ0 : Names) (hys : YsOk P ro σ0 ys) : CallOk P ro σ0 (callOf P ro prims ys (ex ys)) := by
  refine ⟨?_, fun i args h nx v h' nx' hx σ N w xs b hmo hb hrn hargs H => ?_⟩
  rotate_left
  · have hx : O (ys i) (.fail ["yield"]) (fun c => c args h nx) = .ok v h' nx' := hx
    obtain ⟨c, hc, hx2⟩ := O_ok hx
    exact hys i c hc args h nx v h' nx' hx2 σ N w xs b hmo hb hrn hargs H
  intro g args h nx v h' nx' hx σ N w xs hmo hrn hargs H
  unfold callOf fnC at hx
  rw [B_false] at hx
  cases hkn : prims.known g args h nx with
  | some r =>
    rw [hkn] at hx
    have hx : r = .ok v h' nx' := hx
    subst hx
    exact hP.known g args h nx v h' nx' hkn σ N w xs hrn hargs H
  | none =>
  rw [hkn, O_none] at hx
  cases hfn : P.funcs[g]? with
  | none => rw [hfn] at hx; cases hx
  | some fn =>
    rw [hfn] at hx
    simp only at hx
    cases hb : fn.body with
    | none =>
      rw [hb] at hx
      have hx : O (prims.bare g args) (.fail [fn.name]) (fun v => CRes.ok v h nx) = .ok v h' nx' := hx
      obtain ⟨u, hu, hx2⟩ := O_ok hx
      simp only [CRes.ok.injEq] at hx2
      obtain ⟨rfl, rfl, rfl⟩ := hx2
      obtain ⟨y, hy, hr⟩ := hP.prims g args u hu fn hfn hb σ xs w hargs
      rw [hy]
      exact ⟨Nat.le_refl _, σ, More.refl σ, fun _ hh _ => hh, hr, H, Keep.refl _ _⟩
    | some code =>
      rw [hb] at hx
      obtain ⟨ec, hec, hcc⟩ := codeC_spec (P := P) (ro := ro) fn.ntmps code
      obtain ⟨rs, hrs, hrc⟩ := resCs_spec (P := P) fn.results.toList
      simp only [hcc, hrc] at hx
      have hx : T.setsK args .nil 0 (fun tm => onR (R := CRes) (ex ys ec tm h nx) (fun why => .fail (fn.name :: why)) fun e tm h nx => onEx e (resK h nx tm rs) (fun _ => .fail ["exit"]) (resK h nx tm rs)) = .ok v h' nx' := hx
      rw [T.setsK_eq] at hx
      have hcall : (callFunc g xs).run P w = .ok (.enter g xs) w := by
        have hname : ¬ fn.name = "runtime.NumGoroutine" := by
          have := hP.names g fn hfn (by rw [hb]; rfl)
          simpa using this
        simp [callFunc, hfn, hname, hb]
      rw [hcall]
      show Calls P g xs w _
      have S0 : St σ ro N w.heap.size fn.ntmps (T.sets args .nil 0) h nx { tmps := xs ++ Array.replicate (fn.ntmps - xs.size) undef, defers := [] } w :=
        { tmps :=
            { size := by simp; omega
              get := fun i u hu => by
                obtain ⟨y, hy, hr⟩ := hargs.get (sets_get args hu)
                have hlt : i < xs.size := by
                  have := (List.getElem?_eq_some_iff.1 hy).1; simpa using this
                exact ⟨y, by rw [Array.getElem?_append_left hlt]; simpa using hy, hr⟩ }
          defers := Marks.nil
          mem := H
          ron := hrn
          d0 := Nat.le_refl _ }
      cases hres : ex ys ec (T.sets args .nil 0) h nx with
      | fail why => rw [hres] at hx; cases hx
      | ok e tm1 h1 n1 =>
        rw [hres] at hx
        refine (callsIn_wide (n := 0)).1 (callsIn_of_wp_marks hfn hb trivial (hex _ _ hys _ _ _ _ _ _ _ _ hres fn.ntmps code hec none σ N w.heap.size _ w (fun _ h => by cases h) hmo S0 _ fun τ a1 w1 A1 S1 => ?_))
        cases e with
        | exit j => cases hx
        | normal =>
          have hx : resK h1 n1 tm1 rs = .ok v h' nx' := hx
          exact leaves_marks hrs hx H.low A1 S1
        | ret =>
          have hx : resK h1 n1 tm1 rs = .ok v h' nx' := hx
          exact leaves_marks hrs hx H.low A1 S1

theorem exec_sound {prims : Base} (hP : ProgOk P ro prims) : ∀ n, WpOk P ro (exec P ro prims n) ∧ RoundsOk P ro n (exec P ro prims n)
  | 0 => ⟨fun _ _ _ _ _ _ _ _ _ _ _ (hx : Res.fail _ = _) => (by cases hx), fun _ _ _ _ _ _ _ _ _ _ _ (hx : Res.fail _ = _) => by cases hx⟩
  | n + 1 => by
    obtain ⟨h1, h2⟩ := exec_sound hP n
    exact ⟨execF_sound hP.names (callO := fun ys => callOf P ro prims ys (exec P ro prims n ys)) hP.mixed (fun ys σ0 hys => callOf_sound hP h1 ys σ0 hys) h1 h2, rounds_sound h1 h2⟩

/-- WHAT THE EVALUATOR ANSWERS, THE FUNCTION RETURNS, on every tape. -/
theorem call_sound {prims : Base} (hP : ProgOk P ro prims) {fuel : Nat} {f : FuncId} {args : List V} {h : Heap} {nx : Nat} {v : V} {h' : Heap} {nx' : Nat} (hx : call P ro prims fuel f args h nx = .ok v h' nx') :
    ∀ (σ : Names) (N : Nat) (w : World) (xs : Array Value), ro.ro ≤ nx → relL σ args xs.toList → HRel σ ro N h nx w → Does P (Post σ ro N w nx v h' nx') ((callFunc f xs).run P w) :=
  fun σ N w xs => (callOf_sound hP (exec_sound hP fuel).1 (fun _ => none) σ (fun _ _ h => by cases h)).fn f args h nx v h' nx' hx σ N w xs (More.refl σ)

end
end Go.Proofs.YteicddmekhdjeaaGreatDoor.Eng

namespace Go.Proofs.YteicddmekhdjeaaGreatDoor.Eng
variable [Syms]
open Go.RowKit (Below)

/-- A function whose text the model does not hold answers by its entry. -/
structure Entry (P : Program) (f : FuncId) (e : Array Value → Sem Value) : Prop where
  is : ∀ fn, P.funcs[f]? = some fn → (fn.name == "runtime.NumGoroutine") = false ∧ fn.body.isNone = true ∧ Extern.findNext fn = none ∧ Extern.find fn = some e

theorem Entry.run {P : Program} {f : FuncId} {e : Array Value → Sem Value} (he : Entry P f e) {fn : Func} (hf : P.funcs[f]? = some fn) {args : Array Value} {w : World} {y : Value} (hr : (e args).run P w = .ok y w) :
    (callFunc f args).run P w = .ok (.value y) w := by
  obtain ⟨h1, h2, h3, h4⟩ := he.is fn hf
  rw [run_callFunc_extern hf h1 h2 h3 h4, hr]
  rfl

theorem indexByteFrom_eq (c : Nat) (hc : c < 256) : ∀ (l : List UInt8) (i : Nat), indexByteFrom c i l = some (.int .i64 (if Lib.indexByte l c.toUInt8 = -1 then -1 else Lib.indexByte l c.toUInt8 + i))
  | [], i => by simp [indexByteFrom, Lib.indexByte, mkInt_eq]
  | x :: l, i => by
    have hx : Nat.beq x.toNat c = decide (x = c.toUInt8) := by
      rw [beq_iff]
      apply decide_eq_decide.2
      constructor
      · intro h
        subst h
        simp
      · intro h
        subst h
        simp
        omega
    simp only [indexByteFrom, hx, mkInt_eq]
    have ih := indexByteFrom_eq c hc l (i + 1)
    by_cases e : x = c.toUInt8
    · subst e
      simp [Lib.indexByte, B]
    · rw [decide_eq_false e]
      simp only [B_false]
      rw [show Nat.succ i = i + 1 from rfl, ih]
      have hge := Lib.indexByte_ge l c.toUInt8
      have e' : (x == c.toUInt8) = false := by simpa using e
      simp only [Lib.indexByte, e']
      by_cases e2 : Lib.indexByte l c.toUInt8 = -1
      · simp [e2]
      · have e3 : (Lib.indexByte l c.toUInt8 == -1) = false := by simpa using e2
        simp only [e3, Bool.false_eq_true, if_false, e2]
        rw [if_neg (by omega)]
        congr 2
        push_cast
        omega

theorem relL_three {σ : Names} {a b c : V} {xs : Array Value} (h : relL σ [a, b, c] xs.toList) : ∃ x y z, xs = #[x, y, z] ∧ a.rel σ x ∧ b.rel σ y ∧ c.rel σ z := by
  simp only [relL] at h
  obtain ⟨x, _, e, hx, y, _, rfl, hy, z, _, rfl, hz, rfl⟩ := h
  exact ⟨x, y, z, by apply Array.toList_inj.1; simpa using e, hx, hy, hz⟩

theorem relL_two {σ : Names} {a b : V} {xs : Array Value} (h : relL σ [a, b] xs.toList) : ∃ x y, xs = #[x, y] ∧ a.rel σ x ∧ b.rel σ y := by
  simp only [relL] at h
  obtain ⟨x, _, e, hx, y, _, rfl, hy, rfl⟩ := h
  exact ⟨x, y, by apply Array.toList_inj.1; simpa using e, hx, hy⟩

theorem prim_indexByte {l : List V} {v : V} (h : primIndexByte l = some v) {P : Program} {σ : Names} {xs : Array Value} {w : World} (hr : relL σ l xs.toList) :
    ∃ y, (Extern.BytealgIndexByte.indexByte xs).run P w = .ok y w ∧ v.rel σ y := by
  unfold primIndexByte at h
  split at h
  · rename_i bs c
    obtain ⟨h1, h2⟩ := B_some h
    obtain ⟨x, y, rfl, hx, hy⟩ := relL_two hr
    simp only [V.rel] at hx hy
    obtain ⟨s, rfl, rfl⟩ := hx
    subst hy
    rw [indexByteFrom_eq c (blt_true h1)] at h2
    obtain rfl := Option.some.inj h2
    refine ⟨_, Lib.run_indexByteString s _ w, ?_⟩
    simp only [V.rel]
    congr 1
    simp only [Int.ofNat_eq_natCast, Int.toNat_natCast]
    split
    · rename_i e; exact e
    · simp
  · cases h

theorem prim_add64 {l : List V} {v : V} (h : primAdd64 l = some v) {P : Program} {σ : Names} {xs : Array Value} {w : World} (hr : relL σ l xs.toList) :
    ∃ y, (add64Entry xs).run P w = .ok y w ∧ v.rel σ y := by
  unfold primAdd64 at h
  split at h
  · rename_i a b c
    obtain ⟨h1, h2⟩ := B_some h
    obtain ⟨x, y, z, rfl, hx, hy, hz⟩ := relL_three hr
    simp only [V.rel] at hx hy hz
    subst hx; subst hy; subst hz
    have hc : c ≤ 1 := Nat.le_of_ble_eq_true h1
    simp only [mkInt_eq, O_some] at h2
    obtain rfl := Option.some.inj h2
    refine ⟨_, run_add64 (P := P) a b c (by omega) (by omega) (by omega) (by omega) w, ?_⟩
    simp only [V.rel, relL]
    refine ⟨_, rfl, _, _, rfl, ?_, _, _, rfl, ?_, rfl⟩
    · congr 1
    · congr 1
  · cases h

/-- What the model has for Sub64: its own row. -/
noncomputable def subEntry : Array Value → Sem Value := (Extern.MathBitsCarry.rows.getD 1 ("", fun _ => pure undef)).2

theorem run_sub (x y b : Nat) (hb : b ≤ 1) {P : Program} (w : World) :
    (subEntry #[.int .u64 x, .int .u64 y, .int .u64 b]).run P w =
      .ok (.tuple #[.int .u64 (((x + 18446744073709551616 - y - b) % 18446744073709551616 : Nat) : Int), .int .u64 ((if x < y + b then 1 else 0 : Nat) : Int)]) w := by
  have : b = 0 ∨ b = 1 := by omega
  rcases this with rfl | rfl <;> rfl

theorem prim_sub64 {l : List V} {v : V} (h : primSub64 l = some v) {P : Program} {σ : Names} {xs : Array Value} {w : World} (hr : relL σ l xs.toList) :
    ∃ y, (subEntry xs).run P w = .ok y w ∧ v.rel σ y := by
  unfold primSub64 at h
  split at h
  · rename_i a b c
    obtain ⟨h1, h2⟩ := B_some h
    obtain ⟨x, y, z, rfl, hx, hy, hz⟩ := relL_three hr
    simp only [V.rel] at hx hy hz
    subst hx; subst hy; subst hz
    have hc : c ≤ 1 := Nat.le_of_ble_eq_true h1
    simp only [mkInt_eq, O_some] at h2
    obtain rfl := Option.some.inj h2
    refine ⟨_, run_sub a b c hc w, ?_⟩
    simp only [V.rel, relL]
    refine ⟨_, rfl, _, _, rfl, ?_, _, _, rfl, ?_, rfl⟩
    · congr 1
    · rw [blt_iff]
      by_cases e : a < b + c
      · simp [e]
      · simp [e]
  · cases h

/-- The functions without a text that the evaluator knows: their numbers in the program (one that the program lacks: a number past its end). -/
noncomputable def primsOf (i a s : FuncId) (f : FuncId) (l : List V) : Option V := B (Nat.beq f i) (primIndexByte l) (B (Nat.beq f a) (primAdd64 l) (B (Nat.beq f s) (primSub64 l) none))

def namesB (P : Program) : Bool := P.funcs.toList.all fun fn => fn.body.isNone || !(fn.name == "runtime.NumGoroutine")

/-- No call is known beforehand. -/
noncomputable def bareOf (i a s : FuncId) : Base := ⟨primsOf i a s, fun _ _ _ _ => none⟩

/-- .. or some are. -/
noncomputable def Base.with (b : Base) (k : FuncId → List V → Heap → Nat → Option CRes) : Base := ⟨b.bare, k⟩

theorem progOk {P : Program} {ro : Lo} {i a s : FuncId} (hm : P.follows .mixedOrders = true) (hn : namesB P = true) (hi : Entry P i Extern.BytealgIndexByte.indexByte) (ha : Entry P a add64Entry) (hs : Entry P s subEntry) : ProgOk P ro (bareOf i a s) where
  known := fun f l h nx v h' nx' e => by cases e
  mixed := hm
  names := by
    intro f fn hf hb
    have := List.all_eq_true.1 hn fn (Array.mem_toList_iff.2 (Array.mem_of_getElem? hf))
    cases hbody : fn.body with
    | none => rw [hbody] at hb; cases hb
    | some c => rw [hbody] at this; simpa using this
  prims := by
    intro f l v hv fn hf hb σ xs w hr
    have hv : primsOf i a s f l = some v := hv
    unfold primsOf at hv
    cases e1 : Nat.beq f i with
    | true =>
      obtain rfl := Nat.eq_of_beq_eq_true e1
      rw [e1] at hv
      obtain ⟨y, h1, h2⟩ := prim_indexByte (P := P) (w := w) hv hr
      exact ⟨y, hi.run hf h1, h2⟩
    | false =>
      rw [e1] at hv
      simp only [B_false] at hv
      cases e2 : Nat.beq f a with
      | true =>
        obtain rfl := Nat.eq_of_beq_eq_true e2
        rw [e2] at hv
        obtain ⟨y, h1, h2⟩ := prim_add64 (P := P) (w := w) hv hr
        exact ⟨y, ha.run hf h1, h2⟩
      | false =>
        rw [e2] at hv
        simp only [B_false] at hv
        cases e3 : Nat.beq f s with
        | true =>
          obtain rfl := Nat.eq_of_beq_eq_true e3
          rw [e3] at hv
          obtain ⟨y, h1, h2⟩ := prim_sub64 (P := P) (w := w) hv hr
          exact ⟨y, hs.run hf h1, h2⟩
        | false => rw [e3] at hv; cases hv

/-- The listed variables' tables as the evaluator's memory. -/
noncomputable def heapOf : List (Nat × IntKind × List Nat) → Heap → Heap
  | [], h => h
  | (g, k, l) :: r, h => T.setsK (l.map fun n => V.int k (Int.ofNat n)) .nil 0 fun b => T.setK h (some b) g fun h => heapOf r h

/-- The tables lie in memory. -/
def Tabs (tabs : List (Nat × IntKind × List Nat)) (w : World) : Prop := ∀ p ∈ tabs, ∀ i n, p.2.2[i]? = some n → w.cell? ⟨p.1, i, none⟩ = some (.int p.2.1 (Int.ofNat n))

theorem heapOf_get : ∀ (tabs : List (Nat × IntKind × List Nat)) (h : Heap) (i : Nat) (blk : T V), (heapOf tabs h).get i = some blk →
    (∃ p ∈ tabs, p.1 = i ∧ blk = T.sets (p.2.2.map fun n => V.int p.2.1 (Int.ofNat n)) .nil 0) ∨ h.get i = some blk
  | [], h, i, blk, e => .inr e
  | (g, k, l) :: r, h, i, blk, e => by
    simp only [heapOf, T.setsK_eq, T.setK_eq] at e
    rcases heapOf_get r _ i blk e with ⟨p, hp, e1, e2⟩ | e
    · exact .inl ⟨p, List.mem_cons_of_mem _ hp, e1, e2⟩
    · rw [T.get_set] at e
      split at e
      · rename_i hi
        exact .inl ⟨(g, k, l), List.mem_cons_self, hi.symm, (Option.some.inj e).symm⟩
      · exact .inr e

/-- The variables' blocks have their own numbers. -/
def own (ro : Nat) : Names := fun i => if i < ro then some ⟨i, 0, 0, .no⟩ else none

/-- At the start what is not written is the package level's. -/
def lo (n : Nat) : Lo := ⟨n, n⟩

theorem start {tabs : List (Nat × IntKind × List Nat)} {ro : Nat} {w : World} (hT : Tabs tabs w) (hlt : ∀ p ∈ tabs, p.1 < ro) (hro : ro ≤ w.heap.size) {nx : Nat} (hnx : ro ≤ nx) : HRel (own ro) (lo ro) w.heap.size (heapOf tabs .nil) nx w where
  old := by
    intro i b h
    unfold own at h
    split at h
    · omega
    · cases h
  cell := by
    intro i blk b hi hb o v hv
    rcases heapOf_get tabs .nil i blk hi with ⟨p, hp, rfl, rfl⟩ | e
    · have hl := hlt p hp
      simp only [own, hl, if_true, Option.some.injEq] at hb
      subst hb
      rw [T.get_sets] at hv
      split at hv
      · simp only [Nat.sub_zero, List.getElem?_map, Option.map_eq_some_iff] at hv
        obtain ⟨n, hn, rfl⟩ := hv
        exact ⟨_, by simpa using hT p hp o n hn, by simp [V.rel]⟩
      · rw [T.get_nil] at hv; cases hv
    · rw [T.get_nil] at e; cases e
  own := by
    intro i blk b hi hb h
    unfold own at hb
    rw [if_neg (by show ¬ i < ro; exact Nat.not_lt.2 h)] at hb
    cases hb
  apart := by
    intro i j bi bj ci cj _ _ hb _ h _
    unfold own at hb
    rw [if_neg (by show ¬ i < ro; exact Nat.not_lt.2 h)] at hb
    cases hb
  globals := fun g hg => ⟨⟨g, 0, 0, .no⟩, by
    have : g < ro := hg
    simp [own, this], rfl, rfl⟩
  low := Nat.le_refl _
  lows := by
    intro i blk b _ hb h
    unfold own at hb
    rw [if_pos (show i < ro from h)] at hb
    obtain rfl := Option.some.inj hb
    exact Nat.lt_of_lt_of_le h hro
  whole := by
    intro i blk b _ hb h
    unfold own at hb
    rw [if_neg (by show ¬ i < ro; exact Nat.not_lt.2 h)] at hb
    cases hb
  plain := by
    intro i blk b o v _ hb h
    unfold own at hb
    rw [if_neg (by show ¬ i < ro; exact Nat.not_lt.2 h)] at hb
    cases hb
  odd := by
    intro i b hb h
    unfold own at hb
    split at hb
    · obtain rfl := Option.some.inj hb
      cases h
    · cases hb
  oddApart := by
    intro i j bi bj hb _ _ _ h _
    unfold own at hb
    split at hb
    · obtain rfl := Option.some.inj hb
      cases h
    · cases hb

theorem isTrue_ok {r : CRes} (h : isTrue r = true) : ∃ hp n, r = .ok (.bool true) hp n := by
  cases r with
  | fail why => cases h
  | ok v hp n =>
    cases v <;> first | (rename_i b; cases b <;> first | exact ⟨hp, n, rfl⟩ | cases h) | cases h

/-- WHAT COMES OUT TRUE, IS TRUE AT EVERY START in which the tables lie in memory; of what was there nothing turns. -/
theorem runs_true {P : Program} {prims : Base} {ro nx fuel : Nat} (hP : ProgOk P (lo ro) prims) {f : FuncId} {tabs : List (Nat × IntKind × List Nat)} {args : List V}
    (hx : isTrue (call P (lo ro) prims fuel f args (heapOf tabs .nil) nx) = true) (hlt : ∀ p ∈ tabs, p.1 < ro) {fn : Func} (hfn : P.funcs[f]? = some fn) (hb : fn.body.isSome = true)
    {w : World} (hro : ro ≤ w.heap.size) (hnx : ro ≤ nx) (hT : Tabs tabs w) {xs : Array Value} (ha : relL (own ro) args xs.toList) :
    Calls P f xs w fun e w' => e = .returned (.bool true) ∧ Below w.heap.size w w' := by
  obtain ⟨hp, n, e⟩ := isTrue_ok hx
  have d := call_sound hP e (own ro) w.heap.size w xs hnx ha (start hT hlt hro hnx)
  have hname : ¬ fn.name = "runtime.NumGoroutine" := by
    have := hP.names f fn hfn hb
    simpa using this
  cases hbody : fn.body with
  | none => rw [hbody] at hb; cases hb
  | some code =>
    have hcall : (callFunc f xs).run P w = .ok (.enter f xs) w := by
      simp [callFunc, hfn, hname, hbody]
    rw [hcall] at d
    refine Calls.mono (show Calls P f xs w _ from d) fun e w' ⟨y, hy, _, τ, _, _, hv, _, hbe⟩ => ⟨?_, hbe.below⟩
    simp only [V.rel] at hv
    rw [hy, hv]

end Go.Proofs.YteicddmekhdjeaaGreatDoor.Eng

/- Calls that are known beforehand: what a call answers is computed apart, in a memory that holds no more than it looks at. -/
namespace Go.Proofs.YteicddmekhdjeaaGreatDoor.Eng
variable [Syms]
open Go.RowKit (Below)
noncomputable section

/-- A known call: of function f, when nx blocks have names; the blocks that it looks at, what it answers, the new blocks that hang on its answer. -/
structure Ent where
  nx : Nat
  args : List V
  hs : List (Nat × List V)
  v : V
  new : List (Nat × List V)
  nx' : Nat

/-- Blocks laid into memory. -/
def lay : List (Nat × List V) → Heap → Heap
  | [], h => h
  | (i, l) :: r, h => T.setsK l .nil 0 fun b => T.setK h (some b) i fun h => lay r h

/-- Are the blocks in memory? -/
def hasAll : List (Nat × List V) → Heap → Bool
  | [], _ => true
  | (i, l) :: r, h => O (h.get i) false fun b => T.setsK l .nil 0 fun c => B (sameT b c) (hasAll r h) false

def knownIn (args : List V) (h : Heap) (nx : Nat) : List Ent → Option CRes
  | [] => none
  | e :: r => B (Nat.beq nx e.nx) (B (andB (sameL same args e.args) (hasAll e.hs h)) (some (.ok e.v (lay e.new h) e.nx')) (some (.fail ["known"]))) (knownIn args h nx r)

def knownOf (F : FuncId) (l : List Ent) (f : FuncId) (args : List V) (h : Heap) (nx : Nat) : Option CRes := B (Nat.beq f F) (knownIn args h nx l) none

def sameD (a b : V) : Bool := a.onTuple (same a b) fun x => b.onTuple false fun y => sameL same x y

mutual
/-- Are all names in it good ones? -/
def okV (S : Nat → Bool) : V → Bool
  | .bool _ => true
  | .int _ _ => true
  | .str _ => true
  | .nilptr => true
  | .ptr i _ => S i
  | .nilslice => true
  | .slice i _ _ _ _ => S i
  | .nilfunc => true
  | .func _ a b => okL S a && okL S b
  | .niliface => true
  | .iface _ v => okV S v
  | .agg l => okL S l
  | .tuple l => okL S l
  | .nilmap => true
  | .map i => S i
  | .yield i => S i
  | .sym _ => true
  | .any => true
  | .iter i => S i
def okL (S : Nat → Bool) : List V → Bool
  | [] => true
  | v :: r => okV S v && okL S r
end

def inNew (e : Ent) (i : Nat) : Bool := Nat.blt i e.nx || e.new.any fun p => Nat.beq p.1 i
def newOk (e : Ent) : Bool := e.new.all (fun p => Nat.ble e.nx p.1 && okL (inNew e) p.2) && okV (inNew e) e.v && e.new.all (fun p => Nat.blt p.1 e.nx')

def entOk (P : Program) (gl : Nat) (b : Base) (fuel : Nat) (F : FuncId) (e : Ent) : Bool :=
  CRes.rec (motive := fun _ => Bool) (fun _ => false) (fun v h n => andB (sameD v e.v) (andB (Nat.beq n e.nx') (andB (hasAll e.new h) (newOk e))))
    (call P ⟨gl, e.nx⟩ b fuel F e.args (lay e.hs .nil) e.nx)

theorem lay_get : ∀ (l : List (Nat × List V)) (h : Heap) (i : Nat) (blk : T V), (lay l h).get i = some blk → (∃ p ∈ l, p.1 = i ∧ blk = T.sets p.2 .nil 0) ∨ h.get i = some blk ∧ ∀ p ∈ l, p.1 ≠ i
  | [], h, i, blk, e => .inr ⟨e, by simp⟩
  | (k, l) :: r, h, i, blk, e => by
    simp only [lay, T.setsK_eq, T.setK_eq] at e
    rcases lay_get r _ i blk e with ⟨p, hp, e1, e2⟩ | ⟨e, hn⟩
    · exact .inl ⟨p, List.mem_cons_of_mem _ hp, e1, e2⟩
    · rw [T.get_set] at e
      split at e
      · rename_i hi
        exact .inl ⟨(k, l), List.mem_cons_self, hi.symm, (Option.some.inj e).symm⟩
      · rename_i hi
        refine .inr ⟨e, fun p hp => ?_⟩
        rcases List.mem_cons.1 hp with rfl | hp
        · exact fun e => hi e.symm
        · exact hn p hp

theorem hasAll_get : ∀ {l : List (Nat × List V)} {h : Heap}, hasAll l h = true → ∀ p ∈ l, h.get p.1 = some (T.sets p.2 .nil 0)
  | [], _, _, p, hp => by cases hp
  | (i, l) :: r, h, e, p, hp => by
    simp only [hasAll, T.setsK_eq] at e
    cases hg : h.get i with
    | none => rw [hg] at e; cases e
    | some b =>
      rw [hg, O_some] at e
      cases hs : sameT b (T.sets l .nil 0) with
      | false => rw [hs] at e; cases e
      | true =>
        rw [hs, B_true] at e
        rcases List.mem_cons.1 hp with rfl | hp
        · rw [hg, sameT_eq hs]
        · exact hasAll_get e p hp

theorem sameD_eq {a b : V} (h : sameD a b = true) : a = b := by
  unfold sameD at h
  cases a with
  | tuple l =>
    cases b with
    | tuple m =>
      have h : sameL same l m = true := h
      rw [sameL_eq (fun _ _ => same_eq) h]
    | _ => cases h
  | _ => exact same_eq h

/-- Names, but of those that are good alone. -/
def restr (τ : Names) (S : Nat → Bool) : Names := fun i => if S i = true then τ i else none

mutual
theorem rel_restr {τ : Names} {S : Nat → Bool} : ∀ (v : V) (x : Value), okV S v = true → v.rel τ x → v.rel (restr τ S) x
  | .bool _, _, _, hx | .int _ _, _, _, hx | .nilptr, _, _, hx | .nilslice, _, _, hx | .nilfunc, _, _, hx | .niliface, _, _, hx | .nilmap, _, _, hx | .sym _, _, _, hx | .any, _, _, hx => by simpa only [V.rel] using hx
  | .str _, _, _, hx => by simpa only [V.rel] using hx
  | .ptr i off, x, ho, hx => by
    simp only [V.rel] at hx ⊢
    simp only [okV] at ho
    obtain ⟨b, hb, hx⟩ := hx
    exact ⟨b, by simp [restr, ho, hb], hx⟩
  | .slice i off len cap es, x, ho, hx => by
    simp only [V.rel] at hx ⊢
    simp only [okV] at ho
    obtain ⟨b, hb, hx⟩ := hx
    exact ⟨b, by simp [restr, ho, hb], hx⟩
  | .func fn a c, x, ho, hx => by
    simp only [V.rel] at hx ⊢
    simp only [okV, Bool.and_eq_true] at ho
    obtain ⟨a', c', e, ha, hc⟩ := hx
    exact ⟨a', c', e, relL_restr a _ ho.1 ha, relL_restr c _ ho.2 hc⟩
  | .iface t v, x, ho, hx => by
    simp only [V.rel] at hx ⊢
    simp only [okV] at ho
    obtain ⟨y, e, hy⟩ := hx
    exact ⟨y, e, rel_restr v y ho hy⟩
  | .agg l, x, ho, hx => by
    simp only [V.rel] at hx ⊢
    simp only [okV] at ho
    obtain ⟨a, e, ha⟩ := hx
    exact ⟨a, e, relL_restr l _ ho ha⟩
  | .tuple l, x, ho, hx => by
    simp only [V.rel] at hx ⊢
    simp only [okV] at ho
    obtain ⟨a, e, ha⟩ := hx
    exact ⟨a, e, relL_restr l _ ho ha⟩
  | .map i, x, ho, hx => by
    simp only [V.rel] at hx ⊢
    simp only [okV] at ho
    obtain ⟨b, ⟨hb, hm⟩, hx⟩ := hx
    exact ⟨b, ⟨by simp [restr, ho, hb], hm⟩, hx⟩
  | .yield i, x, ho, hx => by
    simp only [V.rel] at hx ⊢
    simp only [okV] at ho
    obtain ⟨b, hb, hx⟩ := hx
    exact ⟨b, by simp [restr, ho, hb], hx⟩
  | .iter i, x, ho, hx => by
    simp only [V.rel] at hx ⊢
    simp only [okV] at ho
    obtain ⟨b, ⟨hb, hm⟩, hx⟩ := hx
    exact ⟨b, ⟨by simp [restr, ho, hb], hm⟩, hx⟩
theorem relL_restr {τ : Names} {S : Nat → Bool} : ∀ (l : List V) (xs : List Value), okL S l = true → relL τ l xs → relL (restr τ S) l xs
  | [], _, _, hx => by simpa only [relL] using hx
  | v :: vs, xs, ho, hx => by
    simp only [relL] at hx ⊢
    simp only [okL, Bool.and_eq_true] at ho
    obtain ⟨y, ys, e, hy, hys⟩ := hx
    exact ⟨y, ys, e, rel_restr v y ho.1 hy, relL_restr vs ys ho.2 hys⟩
end

theorem okL_get {S : Nat → Bool} : ∀ {l : List V}, okL S l = true → ∀ {i : Nat} {v : V}, l[i]? = some v → okV S v = true
  | [], _, i, v, h => by simp at h
  | w :: ws, ho, i, v, h => by
    simp only [okL, Bool.and_eq_true] at ho
    cases i with
    | zero => simp at h; subst h; exact ho.1
    | succ i => simp at h; exact okL_get ho.2 h

theorem Does.mono {P : Program} {K L : Value → World → Prop} {r : Result Next} (d : Does P K r) (h : ∀ y w, K y w → L y w) : Does P L r := by
  cases r with
  | halt => exact d.elim
  | ok n w =>
    cases n with
    | value y => exact h _ _ d
    | skip => exact h _ _ d
    | enter f args =>
      have d : Calls P f args w fun e w'' => ∃ y, e = .returned y ∧ K y w'' := d
      exact d.mono fun e w'' ⟨y, he, hy⟩ => ⟨y, he, h _ _ hy⟩
    | round l f tmps assign body =>
      have d : RoundIn Fence.wide 0 P l f tmps assign body w fun e w'' => ∃ y, e = .returned y ∧ K y w'' := d
      exact d.mono fun e w'' ⟨y, he, hy⟩ => ⟨y, he, h _ _ hy⟩
    | _ => exact d.elim

/-- WHAT A KNOWN CALL ANSWERS, IT ANSWERS. -/
theorem known_sound {P : Program} {gl r : Nat} {F : FuncId} {l : List Ent} (hall : ∀ e ∈ l, ∃ b fuel, ProgOk P ⟨gl, e.nx⟩ b ∧ entOk P gl b fuel F e = true) {f : FuncId} {args : List V} {h : Heap} {nx : Nat} {v : V} {h' : Heap} {nx' : Nat}
    (hk : knownOf F l f args h nx = some (.ok v h' nx')) (σ : Names) (N : Nat) (w : World) (xs : Array Value) (hr : r ≤ nx) (hrel : relL σ args xs.toList) (H : HRel σ ⟨gl, r⟩ N h nx w) :
    Does P (Post σ ⟨gl, r⟩ N w nx v h' nx') ((callFunc f xs).run P w) := by
  unfold knownOf at hk
  cases hf : Nat.beq f F with
  | false => rw [hf] at hk; cases hk
  | true =>
  rw [hf, B_true] at hk
  obtain rfl := Nat.eq_of_beq_eq_true hf
  clear hf
  induction l with
  | nil => cases hk
  | cons e l ih =>
    unfold knownIn at hk
    cases hn : Nat.beq nx e.nx with
    | false =>
      rw [hn, B_false] at hk
      first | exact ih (fun x hx => hall x (List.mem_cons_of_mem _ hx)) hk | exact ih hk (fun x hx => hall x (List.mem_cons_of_mem _ hx))
    | true =>
    rw [hn, B_true] at hk
    obtain rfl := Nat.eq_of_beq_eq_true hn
    cases hc : andB (sameL same args e.args) (hasAll e.hs h) with
    | false => rw [hc] at hk; cases hk
    | true =>
    rw [hc, B_true] at hk
    obtain ⟨ha, hh⟩ := andB_true hc
    obtain rfl := sameL_eq (fun _ _ => same_eq) ha
    simp only [Option.some.injEq, CRes.ok.injEq] at hk
    obtain ⟨rfl, rfl, rfl⟩ := hk
    obtain ⟨b, fuel, hP, hE⟩ := hall e List.mem_cons_self
    unfold entOk at hE
    cases hcall : call P ⟨gl, e.nx⟩ b fuel f e.args (lay e.hs .nil) e.nx with
    | fail why => rw [hcall] at hE; cases hE
    | ok v2 h2 n2 =>
    rw [hcall] at hE
    obtain ⟨hv, hE⟩ := andB_true hE
    obtain ⟨hn2, hE⟩ := andB_true hE
    obtain ⟨hnew, hok⟩ := andB_true hE
    obtain rfl := sameD_eq hv
    obtain rfl := Nat.eq_of_beq_eq_true hn2
    -- the memory that the call looks at
    have small : ∀ i blk, (lay e.hs .nil).get i = some blk → h.get i = some blk := fun i blk hi => by
      rcases lay_get e.hs .nil i blk hi with ⟨p, hp, rfl, rfl⟩ | ⟨e0, -⟩
      · exact hasAll_get hh p hp
      · rw [T.get_nil] at e0; cases e0
    have H2 : HRel σ ⟨gl, e.nx⟩ w.heap.size (lay e.hs .nil) e.nx w :=
      { old := H.old
        cell := fun i blk b hi hb => H.cell i blk b (small i blk hi) hb
        own := fun i blk b hi hb hr => absurd (H.old i b hb) (Nat.not_lt.2 hr)
        apart := fun i j bi bj ci cj hi hj hbi hbj hr hne => absurd (H.old i bi hbi) (Nat.not_lt.2 hr)
        globals := H.globals
        low := Nat.le_refl _
        lows := fun i blk b hi hb _ => H.ge (small i blk hi) hb
        whole := fun i blk b hi hb hr => absurd (H.old i b hb) (Nat.not_lt.2 hr)
        plain := fun i blk b o v hi hb hr => absurd (H.old i b hb) (Nat.not_lt.2 hr)
        odd := fun i b hb ho => by
          obtain ⟨k1, k2, -⟩ := H.odd i b hb ho
          refine ⟨?_, k2, fun hr => absurd (H.old i b hb) (Nat.not_lt.2 hr)⟩
          cases hc : (lay e.hs .nil).get i with
          | none => rfl
          | some c => rw [small i c hc] at k1; cases k1
        oddApart := fun i j bi bj hbi hbj hr hne ho hc => absurd (H.old i bi hbi) (Nat.not_lt.2 hr) }
    refine (call_sound hP hcall σ w.heap.size w xs (Nat.le_refl _) hrel H2).mono fun y w' ⟨hle, τ, hmore, hnone, hvr, HT, hbe⟩ => ?_
    unfold newOk at hok
    rw [Bool.and_eq_true, Bool.and_eq_true, List.all_eq_true, List.all_eq_true] at hok
    obtain ⟨⟨hok1, hok2⟩, hok3⟩ := hok
    -- old blocks
    have oldσ : ∀ i b, i < e.nx → restr τ (inNew e) i = some b → σ i = some b := fun i b hi hb => by
      have hin : inNew e i = true := by
        unfold inNew
        have : Nat.blt i e.nx = true := by rw [blt_iff]; simpa using hi
        rw [this]; rfl
      unfold restr at hb
      rw [if_pos hin] at hb
      cases hs : σ i with
      | none => rw [hnone i hs hi] at hb; cases hb
      | some c =>
        have := hmore i c hs
        rw [this] at hb
        exact hb
    have more2 : More σ (restr τ (inNew e)) := fun i b hb => by
      have hi := H.old i b hb
      have hin : inNew e i = true := by
        unfold inNew
        have : Nat.blt i e.nx = true := by rw [blt_iff]; simpa using hi
        rw [this]; rfl
      unfold restr
      rw [if_pos hin]
      exact hmore i b hb
    have sub : ∀ i b, restr τ (inNew e) i = some b → τ i = some b := fun i b hb => by
      unfold restr at hb
      split at hb
      · exact hb
      · cases hb
    -- blocks of the new memory: new ones, old ones
    have parts : ∀ i blk b, (lay e.new h).get i = some blk → restr τ (inNew e) i = some b →
        (e.nx ≤ i ∧ h2.get i = some blk ∧ ∃ p ∈ e.new, p.1 = i ∧ blk = T.sets p.2 .nil 0) ∨ (i < e.nx ∧ h.get i = some blk ∧ σ i = some b) := fun i blk b hi hb => by
      rcases lay_get e.new h i blk hi with ⟨p, hp, rfl, rfl⟩ | ⟨e0, hnot⟩
      · left
        have h1 := hok1 p hp
        rw [Bool.and_eq_true] at h1
        exact ⟨Nat.le_of_ble_eq_true h1.1, hasAll_get hnew p hp, p, hp, rfl, rfl⟩
      · right
        have hlt : i < e.nx := by
          apply Nat.lt_of_not_le
          intro hge
          unfold restr at hb
          split at hb
          · rename_i hin
            unfold inNew at hin
            rw [Bool.or_eq_true] at hin
            rcases hin with h1 | h1
            · have := Nat.le_of_ble_eq_true h1; omega
            · rw [List.any_eq_true] at h1
              obtain ⟨p, hp, hpi⟩ := h1
              exact hnot p hp (Nat.eq_of_beq_eq_true hpi)
          · cases hb
        exact ⟨hlt, e0, oldσ i b hlt hb⟩
    -- a block that is no cells is an old one
    have oldOdd : ∀ i b, restr τ (inNew e) i = some b → b.odd.isNo = false → i < e.nx := fun i b hb ho => by
      apply Nat.lt_of_not_le
      intro hge
      have h4 := (HT.odd i b (sub i b hb) ho).1
      unfold restr at hb
      split at hb
      · rename_i hin
        unfold inNew at hin
        rw [Bool.or_eq_true] at hin
        rcases hin with h1 | h1
        · have := Nat.le_of_ble_eq_true h1; omega
        · rw [List.any_eq_true] at h1
          obtain ⟨p, hp, hpi⟩ := h1
          have h5 := hasAll_get hnew p hp
          rw [Nat.eq_of_beq_eq_true hpi, h4] at h5
          cases h5
      · cases hb
    have same_cell : ∀ (b : BI) o, b.block < w.heap.size → w'.cell? ⟨b.block, o, none⟩ = w.cell? ⟨b.block, o, none⟩ := fun b o hb => hbe.below.cell (p := ⟨b.block, o, none⟩) hb
    have same_frozen : ∀ (b : BI) o, b.block < w.heap.size → w'.frozen? ⟨b.block, o, none⟩ = w.frozen? ⟨b.block, o, none⟩ := fun b o hb => hbe.below.frozen (p := ⟨b.block, o, none⟩) hb
    refine ⟨hle, restr τ (inNew e), more2, fun i hi hlt => ?_, rel_restr _ _ hok2 hvr, ?_, hbe.mono H.low⟩
    · have := hnone i hi hlt
      unfold restr
      split
      · exact this
      · rfl
    · exact
      { old := fun i b hb => HT.old i b (sub i b hb)
        cell := fun i blk b hi hb o u ho => by
          rcases parts i blk b hi hb with ⟨hge, h3, p, hp, rfl, rfl⟩ | ⟨hlt, h3, hs⟩
          · obtain ⟨x, hx, hu⟩ := HT.cell _ _ b h3 (sub _ b hb) o u ho
            refine ⟨x, hx, rel_restr u x ?_ hu⟩
            have h1 := hok1 p hp
            rw [Bool.and_eq_true] at h1
            rw [T.get_sets] at ho
            split at ho
            · exact okL_get h1.2 ho
            · rw [T.get_nil] at ho; cases ho
          · obtain ⟨x, hx, hu⟩ := H.cell i blk b h3 hs o u ho
            exact ⟨x, by rw [same_cell b _ (H.ge h3 hs)]; exact hx, hu.more more2⟩
        own := fun i blk b hi hb hri => by
          rcases parts i blk b hi hb with ⟨hge, h3, p, hp, rfl, rfl⟩ | ⟨hlt, h3, hs⟩
          · obtain ⟨h4, h5, h6, h7⟩ := HT.own _ _ b h3 (sub _ b hb) hge
            exact ⟨Nat.le_trans H.low h4, h5, h6, h7⟩
          · obtain ⟨h4, h5, h6, h7⟩ := H.own i blk b h3 hs hri
            refine ⟨h4, Nat.lt_of_lt_of_le h5 hbe.below.size, fun o ho => ?_, fun o x hx => ?_⟩
            · obtain ⟨x, hx⟩ := h6 o ho
              exact ⟨x, by rw [same_cell b _ h5]; exact hx⟩
            · rw [same_cell b _ h5] at hx
              rw [same_frozen b _ h5]
              exact h7 o x hx
        whole := fun i blk b hi hb hri c e' lo hi' hc' => by
          rcases parts i blk b hi hb with ⟨hge, h3, q, hq, rfl, rfl⟩ | ⟨hlt, h3, hs⟩
          · exact HT.whole _ _ b h3 (sub _ b hb) hge c e' lo hi' hc'
          · rw [hbe.below.block _ (H.own i blk b h3 hs hri).2.1] at hc'
            exact H.whole i blk b h3 hs hri c e' lo hi' hc'
        plain := fun i blk b o v hi hb hri ho hv p => by
          rcases parts i blk b hi hb with ⟨hge, h3, q, hq, rfl, rfl⟩ | ⟨hlt, h3, hs⟩
          · exact HT.plain _ _ b o v h3 (sub _ b hb) hge ho hv p
          · rw [same_frozen b _ (H.own i blk b h3 hs hri).2.1]
            exact H.plain i blk b o v h3 hs hri ho hv p
        apart := fun i j bi bj ci cj hi hj hbi hbj hri hne => by
          rcases parts i ci bi hi hbi with ⟨hge, h3, -⟩ | ⟨hlt, h3, hs⟩
          · obtain ⟨h4, -⟩ := HT.own _ _ bi h3 (sub _ bi hbi) hge
            rcases parts j cj bj hj hbj with ⟨hge', h3', -⟩ | ⟨hlt', h3', hs'⟩
            · exact HT.apart i j bi bj _ _ h3 h3' (sub _ bi hbi) (sub _ bj hbj) hge hne
            · have := H.ge h3' hs'
              omega
          · have h4 := H.ge h3 hs
            rcases parts j cj bj hj hbj with ⟨hge', h3', -⟩ | ⟨hlt', h3', hs'⟩
            · obtain ⟨h5, -⟩ := HT.own _ _ bj h3' (sub _ bj hbj) hge'
              omega
            · exact H.apart i j bi bj _ _ h3 h3' hs hs' hri hne
        globals := fun g hg => by
          obtain ⟨b, h1, h2⟩ := H.globals g hg
          exact ⟨b, more2 g b h1, h2⟩
        low := Nat.le_trans H.low hbe.below.size
        lows := fun i blk b hi hb hri => by
          rcases parts i blk b hi hb with ⟨hge, h3, -⟩ | ⟨hlt, h3, hs⟩
          · have hri : i < r := hri
            omega
          · exact H.lows i blk b h3 hs hri
        odd := fun i b hb ho => by
          obtain ⟨h4, h5, -⟩ := HT.odd i b (sub i b hb) ho
          have hlt := oldOdd i b hb ho
          have hs := oldσ i b hlt hb
          obtain ⟨k1, k2, k3⟩ := H.odd i b hs ho
          refine ⟨?_, h5, fun hr => ⟨(k3 hr).1, fun hx blk hi => ?_⟩⟩
          · cases hc : (lay e.new h).get i with
            | none => rfl
            | some c =>
              rcases parts i c b hc hb with ⟨hge, -⟩ | ⟨-, h6, -⟩
              · omega
              · rw [h6] at k1; cases k1
          · rcases lay_get e.new h (i + big) blk hi with ⟨p, hp, e1, -⟩ | ⟨e0, -⟩
            · have h7 := blt_true (hok3 p hp)
              omega
            · rw [hbe.below.block _ k2]
              exact ((k3 hr).2 (Nat.le_trans hle hx) blk e0).more more2
        oddApart := fun i j bi bj hi hj hri hne ho hc => by
          have hlt := oldOdd i bi hi ho
          have hs := oldσ i bi hlt hi
          have k2 := (H.odd i bi hs ho).2.1
          by_cases hlt' : j < e.nx
          · exact H.oddApart i j bi bj hs (oldσ j bj hlt' hj) hri hne ho (hc.imp id fun ⟨cj, hcj⟩ => by
              rcases parts j cj bj hcj hj with ⟨hge, -⟩ | ⟨-, h6, -⟩
              · omega
              · exact ⟨cj, h6⟩)
          · rcases hc with h8 | ⟨cj, hcj⟩
            · have := oldOdd j bj hj h8
              omega
            · rcases parts j cj bj hcj hj with ⟨hge, h6, -⟩ | ⟨h6, -⟩
              · have := (HT.own j cj bj h6 (sub j bj hj) hge).1
                omega
              · omega }

theorem ProgOk.with {P : Program} {gl r : Nat} {b : Base} (hP : ProgOk P ⟨gl, r⟩ b) {F : FuncId} {l : List Ent} (hall : ∀ e ∈ l, ∃ b fuel, ProgOk P ⟨gl, e.nx⟩ b ∧ entOk P gl b fuel F e = true) :
    ProgOk P ⟨gl, r⟩ (b.with (knownOf F l)) where
  mixed := hP.mixed
  names := hP.names
  known := fun _ _ _ _ _ _ _ hk σ N w xs hr hrel H => known_sound hall hk σ N w xs hr hrel H
  prims := hP.prims

end
end Go.Proofs.YteicddmekhdjeaaGreatDoor.Eng

/- A byte's place in a slice of bytes: a function whose text the model does not hold, and that looks at memory. -/
namespace Go.Proofs.YteicddmekhdjeaaGreatDoor.Eng
variable [Syms]
open Go.RowKit (Below)

noncomputable def knownIB (F : FuncId) (g : FuncId) (args : List V) (h : Heap) (nx : Nat) : Option CRes :=
  B (Nat.beq g F) (match args with
    | [s, .int .u8 (.ofNat c)] => some (O (bytesV h s) (.fail ["bytes"]) fun v => v.onStr (.fail ["bytes"]) fun l => B (Nat.blt c 256) (O (indexByteFrom c 0 l) (.fail ["bytes"]) fun v => .ok v h nx) (.fail ["byte"]))
    | _ => some (.fail ["IndexByte"])) none

section
variable {P : Program} {ro : Lo} {σ : Names} {N nx : Nat} {h : Heap} {w : World}

theorem bytesOf_run (H : HRel σ ro N h nx w) {x : V} {X : Value} (hx : x.rel σ X) {l : List UInt8} (hv : bytesV h x = some (.str l)) : ∃ s : ByteArray, (Extern.Bytes.bytesOf X).run P w = .ok s w ∧ s.data.toList = l := by
  rcases onSlice_some hv with ⟨rfl, h2⟩ | ⟨i, off, len, cap, es, rfl, h2⟩
  · simp only [Option.some.injEq, V.str.injEq] at h2
    subst h2
    simp only [V.rel] at hx; subst hx
    exact ⟨.empty, rfl, rfl⟩
  · obtain ⟨blk, hi, h3⟩ := O_some' h2
    rw [T.getsK_eq] at h3
    cases hl : T.gets blk len off with
    | none => rw [hl] at h3; cases h3
    | some m =>
      rw [hl] at h3
      obtain ⟨ns, rfl, h4⟩ := bytesK_some h3
      simp only [Option.some.injEq, V.str.injEq] at h4
      subst h4
      simp only [V.rel] at hx
      obtain ⟨b, hb, hx⟩ := hx
      obtain ⟨zs, hzl, hr, -, hcell⟩ := H.loads (P := P) hi hb hl
      rw [ints_rel hr] at hzl hcell
      have key : ∀ o c, (0 < len → o = b.base + off) → ∃ s : ByteArray, (Extern.Bytes.bytesOf (.slice (some ⟨b.block, o, none⟩) len c)).run P w = .ok s w ∧ s.data.toList = ns.map UInt8.ofNat := by
        intro o c ho
        have hlen : (ns.map fun (n : Nat) => (n : Int)).length = len := by simpa using hzl
        have := Lib.run_loadBytesX (P := P) w (ns.map fun (n : Nat) => (n : Int)) ⟨b.block, o, none⟩ .empty (fun j y hy => by
          have hj := (List.getElem?_eq_some_iff.1 hy).1
          rw [ho (by omega), addr_add]
          exact hcell j (.int .u8 y) (by rw [List.getElem?_map, hy]; rfl))
        rw [hlen] at this
        exact ⟨_, this, by simp [Lib.bytesOf, Function.comp_def]⟩
      rcases hx with ⟨-, -, rfl⟩ | ⟨-, o, c, hlc, ho, -, rfl⟩
      · exact key _ _ (fun _ => rfl)
      · exact key _ _ (fun hp => ho (by omega))

theorem indexBytes_run (H : HRel σ ro N h nx w) {x : V} {X : Value} (hx : x.rel σ X) {l : List UInt8} (hv : bytesV h x = some (.str l)) {c : Nat} (hc : c < 256) {v : V} (hi : indexByteFrom c 0 l = some v) :
    ∃ y, (Extern.BytealgIndexByte.indexByte #[X, .int .u8 (c : Int)]).run P w = .ok y w ∧ v.rel σ y := by
  obtain ⟨s, hs, rfl⟩ := bytesOf_run (P := P) H hx hv
  have e : (Extern.BytealgIndexByte.indexByte #[X, .int .u8 (c : Int)]).run P w = (Extern.BytealgIndexByte.indexByte #[.string s, .int .u8 (c : Int)]).run P w := by
    have hs2 : (Extern.Bytes.bytesOf (.string s)).run P w = .ok s w := rfl
    change Sem.run P (do
      let b ← Extern.Bytes.bytesOf X
      let c' ← Extern.Bytes.asByte (.int .u8 c)
      match (List.range b.size).find? fun i => b[i]! == c' with
      | some i => pure (goInt i)
      | none => pure (goInt (-1))) w = Sem.run P (do
      let b ← Extern.Bytes.bytesOf (.string s)
      let c' ← Extern.Bytes.asByte (.int .u8 c)
      match (List.range b.size).find? fun i => b[i]! == c' with
      | some i => pure (goInt i)
      | none => pure (goInt (-1))) w
    rw [Sem.run_bind, Sem.run_bind, hs, hs2]
  rw [e, Lib.run_indexByteString]
  rw [indexByteFrom_eq c hc] at hi
  obtain rfl := Option.some.inj hi
  refine ⟨_, rfl, ?_⟩
  simp only [V.rel]
  congr 1
  simp only [Int.toNat_natCast]
  split
  · rename_i e; exact e
  · simp

theorem ProgOk.bytes {b : Base} (hP : ProgOk P ro b) {F : FuncId} (hF : Entry P F Extern.BytealgIndexByte.indexByte) (hf : (P.funcs[F]?).isSome = true) : ProgOk P ro (b.with (knownIB F)) where
  mixed := hP.mixed
  names := hP.names
  prims := hP.prims
  known := by
    intro f args h nx v h' nx' hk σ N w xs hr hrel H
    have hk : knownIB F f args h nx = some (.ok v h' nx') := hk
    unfold knownIB at hk
    obtain ⟨hfF, hk2⟩ := B_some hk
    clear hk
    obtain rfl := Nat.eq_of_beq_eq_true hfF
    split at hk2
    · rename_i s c
      simp only [Option.some.injEq] at hk2
      obtain ⟨u, hu, hk3⟩ := O_ok hk2
      cases u with
      | str l =>
        have hk3 : B (Nat.blt c 256) (O (indexByteFrom c 0 l) (.fail ["bytes"]) fun v => CRes.ok v h nx) (.fail ["byte"]) = .ok v h' nx' := hk3
        obtain ⟨hc, hk4⟩ := B_ok hk3
        obtain ⟨v', hi, hk5⟩ := O_ok hk4
        simp only [CRes.ok.injEq] at hk5
        obtain ⟨rfl, rfl, rfl⟩ := hk5
        obtain ⟨x, y, rfl, hx, hy⟩ := relL_two hrel
        simp only [V.rel] at hy
        subst hy
        obtain ⟨z, hz, hzr⟩ := indexBytes_run (P := P) H hx hu (blt_true hc) hi
        obtain ⟨fn, hfn⟩ := Option.isSome_iff_exists.1 hf
        have hrun := hF.run hfn hz
        rw [show (Int.ofNat c) = (c : Int) from rfl, hrun]
        exact ⟨Nat.le_refl _, σ, More.refl σ, fun _ hn _ => hn, hzr, H, Keep.refl _ _⟩
      | _ => cases hk3
    · cases hk2

end
end Go.Proofs.YteicddmekhdjeaaGreatDoor.Eng

/- Calls whose answers are proved apart, for values of which nothing is known but their names; runs at such values. -/
namespace Go.Proofs.YteicddmekhdjeaaGreatDoor.Eng
variable [Syms]
open Go.RowKit (Below)

theorem Keep.ofBelow {N : Nat} {w w' : World} (hb : Below w.heap.size w w') (hN : N ≤ w.heap.size) : Keep N w w' :=
  ⟨hb.mono hN, fun k ds h => by rw [hb.block k (Array.getElem?_eq_some_iff.1 h).1]; exact h, fun k r h => ⟨r, by rw [hb.block k (Array.getElem?_eq_some_iff.1 h).1]; exact h⟩⟩

theorem HRel.below {σ : Names} {ro : Lo} {N nx : Nat} {h : Heap} {w w' : World} (H : HRel σ ro N h nx w) (hb : Below w.heap.size w w') : HRel σ ro N h nx w' where
  old := H.old
  cell := fun i blk b hi hs o v hv => by
    obtain ⟨x, hx, hr⟩ := H.cell i blk b hi hs o v hv
    exact ⟨x, (hb.cell (p := ⟨b.block, _, none⟩) (H.ge hi hs)).trans hx, hr⟩
  own := fun i blk b hi hs hr => by
    obtain ⟨h1, h2, h3, h4⟩ := H.own i blk b hi hs hr
    refine ⟨h1, Nat.lt_of_lt_of_le h2 hb.size, fun o ho => ?_, fun o x hx => ?_⟩
    · obtain ⟨x, hx⟩ := h3 o ho
      exact ⟨x, (hb.cell (p := ⟨b.block, _, none⟩) h2).trans hx⟩
    · rw [hb.cell (p := ⟨b.block, _, none⟩) h2] at hx
      exact (hb.frozen (p := ⟨b.block, _, none⟩) h2).trans (h4 o x hx)
  apart := H.apart
  globals := H.globals
  low := Nat.le_trans H.low hb.size
  lows := H.lows
  whole := fun i blk b hi hs hr c e' lo hi' hc' => by
    rw [hb.block _ (H.own i blk b hi hs hr).2.1] at hc'
    exact H.whole i blk b hi hs hr c e' lo hi' hc'
  plain := fun i blk b o v hi hs hr ho hv p => (hb.frozen (p := ⟨b.block, p, none⟩) (H.own i blk b hi hs hr).2.1).trans (H.plain i blk b o v hi hs hr ho hv p)
  odd := fun i b hs ho => by
    obtain ⟨h1, h2, h3⟩ := H.odd i b hs ho
    refine ⟨h1, Nat.lt_of_lt_of_le h2 hb.size, fun hr => ⟨(h3 hr).1, fun hx blk hi => ?_⟩⟩
    rw [hb.block _ h2]
    exact (h3 hr).2 hx blk hi
  oddApart := H.oddApart

/-- What a value without names of blocks stands for. -/
noncomputable def den : V → Value
  | .bool b => .bool b
  | .int k n => .int k n
  | .str l => .string ⟨⟨l⟩⟩
  | .nilptr => .pointer none
  | .nilslice => .slice none 0 0
  | .nilfunc => .nilFunc
  | .niliface => .nilIface
  | .nilmap => .map none
  | .sym i => Syms.val i
  | _ => undef
/-- Single cells without names of blocks. -/
def bare1 : V → Bool
  | .bool _ | .int _ _ | .str _ | .nilptr | .nilslice | .nilfunc | .niliface | .nilmap | .sym _ => true
  | _ => false
theorem rel_den1 {σ : Names} {v : V} (h : bare1 v = true) (x : Value) : v.rel σ x ↔ x = den v := by
  cases v with
  | str l =>
    simp only [V.rel, den]
    constructor
    · rintro ⟨s, rfl, rfl⟩
      cases s with
      | mk d => cases d with | mk l => rfl
    · rintro rfl
      exact ⟨_, rfl, rfl⟩
  | bool _ => simp only [V.rel, den]
  | int _ _ => simp only [V.rel, den]
  | nilptr => simp only [V.rel, den]
  | nilslice => simp only [V.rel, den]
  | nilfunc => simp only [V.rel, den]
  | niliface => simp only [V.rel, den]
  | nilmap => simp only [V.rel, den]
  | sym _ => simp only [V.rel, den]
  | _ => cases h
theorem relL_den {σ : Names} : ∀ {l : List V}, l.all bare1 = true → ∀ xs : List Value, relL σ l xs ↔ xs = l.map den
  | [], _, xs => by simp only [relL, List.map_nil]
  | v :: l, h, xs => by
    rw [List.all_cons, Bool.and_eq_true] at h
    simp only [relL, List.map_cons]
    constructor
    · rintro ⟨y, ys, rfl, h1, h2⟩
      rw [(rel_den1 h.1 y).1 h1, (relL_den h.2 ys).1 h2]
    · rintro rfl
      exact ⟨_, _, rfl, (rel_den1 h.1 _).2 rfl, (relL_den h.2 _).2 rfl⟩
/-- Values that hold single cells: a cell, a struct, several results. -/
noncomputable def den2 : V → Value
  | .agg l => .agg (l.map den).toArray
  | v => den v
noncomputable def den3 : V → Value
  | .tuple l => .tuple (l.map den2).toArray
  | v => den2 v
def bare2 : V → Bool
  | .agg l => l.all bare1
  | v => bare1 v
def bare3 : V → Bool
  | .tuple l => l.all bare2
  | v => bare2 v
theorem rel_den2 {σ : Names} {v : V} (h : bare2 v = true) (x : Value) : v.rel σ x ↔ x = den2 v := by
  cases v with
  | agg l =>
    simp only [V.rel, den2]
    constructor
    · rintro ⟨a, rfl, h2⟩
      rw [← (relL_den h a.toList).1 h2]
    · rintro rfl
      exact ⟨_, rfl, (relL_den h _).2 rfl⟩
  | _ =>
    refine Iff.trans (rel_den1 ?_ x) ?_
    · exact h
    · exact Iff.rfl
theorem relL_den2 {σ : Names} : ∀ {l : List V}, l.all bare2 = true → ∀ xs : List Value, relL σ l xs ↔ xs = l.map den2
  | [], _, xs => by simp only [relL, List.map_nil]
  | v :: l, h, xs => by
    rw [List.all_cons, Bool.and_eq_true] at h
    simp only [relL, List.map_cons]
    constructor
    · rintro ⟨y, ys, rfl, h1, h2⟩
      rw [(rel_den2 h.1 y).1 h1, (relL_den2 h.2 ys).1 h2]
    · rintro rfl
      exact ⟨_, _, rfl, (rel_den2 h.1 _).2 rfl, (relL_den2 h.2 _).2 rfl⟩
theorem rel_den3 {σ : Names} {v : V} (h : bare3 v = true) (x : Value) : v.rel σ x ↔ x = den3 v := by
  cases v with
  | tuple l =>
    simp only [V.rel, den3]
    constructor
    · rintro ⟨a, rfl, h2⟩
      rw [← (relL_den2 h a.toList).1 h2]
    · rintro rfl
      exact ⟨_, rfl, (relL_den2 h _).2 rfl⟩
  | _ =>
    refine Iff.trans (rel_den2 ?_ x) ?_
    · exact h
    · exact Iff.rfl

def hasText (P : Program) (f : FuncId) : Bool := match P.funcs[f]? with | some fn => fn.body.isSome | none => false
theorem called_run {P : Program} {ro : Lo} {b : Base} (hP : ProgOk P ro b) {f : FuncId} (h : hasText P f = true) (xs : Array Value) (w : World) : (callFunc f xs).run P w = .ok (.enter f xs) w := by
  unfold hasText at h
  cases hfn : P.funcs[f]? with
  | none => rw [hfn] at h; cases h
  | some fn =>
    rw [hfn] at h
    have hname : ¬ fn.name = "runtime.NumGoroutine" := by
      have := hP.names f fn hfn h
      simpa using this
    cases hbody : fn.body with
    | none => simp [hbody] at h
    | some code => simp [callFunc, hfn, hname, hbody]

/-- An answer that is proved apart: the function, its arguments, what it returns. -/
structure Ans where
  f : FuncId
  args : List V
  v : V
def Ans.Ok (P : Program) (a : Ans) : Prop := a.args.all bare2 = true ∧ bare3 a.v = true ∧ hasText P a.f = true ∧
  ∀ w, Calls P a.f (a.args.map den2).toArray w fun e w' => e = .returned (den3 a.v) ∧ Below w.heap.size w w'

noncomputable def answers (l : List Ans) (f : FuncId) (args : List V) : Option V :=
  List.rec (motive := fun _ => Option V) none (fun a _ ih => B (Nat.beq f a.f) (B (sameL same args a.args) (some a.v) ih) ih) l
theorem answers_mem {f : FuncId} {args : List V} {v : V} : ∀ {l : List Ans}, answers l f args = some v → ∃ a ∈ l, a.f = f ∧ a.args = args ∧ a.v = v
  | [], h => by cases h
  | a :: l, h => by
    have h : B (Nat.beq f a.f) (B (sameL same args a.args) (some a.v) (answers l f args)) (answers l f args) = some v := h
    cases h1 : Nat.beq f a.f with
    | false =>
      rw [h1, B_false] at h
      obtain ⟨b, hb, r⟩ := answers_mem h
      exact ⟨b, List.mem_cons_of_mem _ hb, r⟩
    | true =>
      rw [h1, B_true] at h
      cases h2 : sameL same args a.args with
      | false =>
        rw [h2, B_false] at h
        obtain ⟨b, hb, r⟩ := answers_mem h
        exact ⟨b, List.mem_cons_of_mem _ hb, r⟩
      | true =>
        rw [h2, B_true] at h
        exact ⟨a, List.mem_cons_self, (Nat.eq_of_beq_eq_true h1).symm, (sameL_eq (fun _ _ => same_eq) h2).symm, Option.some.inj h⟩

/-- Is it what came out? -/
noncomputable def sameR (r : CRes) (v : V) : Bool := CRes.rec (motive := fun _ => Bool) (fun _ => false) (fun u _ _ => u.onTuple (same u v) fun l => v.onTuple false fun m => sameL same l m) r
theorem sameR_ok {r : CRes} {v : V} (h : sameR r v = true) : ∃ hp n, r = .ok v hp n := by
  cases r with
  | fail why => cases h
  | ok u hp n =>
    refine ⟨hp, n, ?_⟩
    have h : u.onTuple (same u v) (fun l => v.onTuple false fun m => sameL same l m) = true := h
    cases u with
    | tuple l =>
      have h : v.onTuple false (fun m => sameL same l m) = true := h
      cases v with
      | tuple m =>
        have h : sameL same l m = true := h
        rw [sameL_eq (fun _ _ => same_eq) h]
      | _ => cases h
    | _ => rw [same_eq (show same _ v = true from h)]

/-- A base that knows such answers, too. -/
noncomputable def Base.also (b : Base) (l : List Ans) : Base := ⟨b.bare, fun f args h nx => O (answers l f args) (b.known f args h nx) fun v => some (.ok v h nx)⟩

theorem ProgOk.also {P : Program} {ro : Lo} {b : Base} (hP : ProgOk P ro b) {l : List Ans} (hall : ∀ a ∈ l, a.Ok P) : ProgOk P ro (b.also l) where
  mixed := hP.mixed
  names := hP.names
  prims := hP.prims
  known := fun f args h nx v h' nx' hk σ N w xs hr hrel H => by
    have hk : O (answers l f args) (b.known f args h nx) (fun v => some (.ok v h nx)) = some (.ok v h' nx') := hk
    cases e : answers l f args with
    | none => rw [e] at hk; exact hP.known f args h nx v h' nx' hk σ N w xs hr hrel H
    | some u =>
      rw [e] at hk
      have hk : some (CRes.ok u h nx) = some (.ok v h' nx') := hk
      simp only [Option.some.injEq, CRes.ok.injEq] at hk
      obtain ⟨rfl, rfl, rfl⟩ := hk
      obtain ⟨a, ha, rfl, rfl, rfl⟩ := answers_mem e
      obtain ⟨h1, h2, h0, h3⟩ := hall a ha
      have hx := (relL_den2 h1 xs.toList).1 hrel
      obtain rfl : xs = (a.args.map den2).toArray := by rw [← hx]
      have hc := h3 w
      have key : ∀ (e : Ending) (w' : World), (e = .returned (den3 a.v) ∧ Below w.heap.size w w') → ∃ y, e = .returned y ∧ Post σ ro N w nx a.v h nx y w' := fun e w' ⟨he, hb⟩ =>
        ⟨_, he, Nat.le_refl _, σ, More.refl σ, fun _ hh _ => hh, (rel_den3 h2 _).2 rfl, H.below hb, Keep.ofBelow hb H.low⟩
      rw [called_run hP h0]
      exact hc.mono key

/-- A RUN AT NAMES OF VALUES: what comes out holds whatever they stand for. -/
theorem sym_run {P : Program} {prims : Base} (hP : ProgOk P (lo 0) prims) {fuel : Nat} {f : FuncId} {args : List V} {v : V} (hx : sameR (call P (lo 0) prims fuel f args .nil 0) v = true)
    (h1 : args.all bare2 = true) (h2 : bare3 v = true) (h0 : hasText P f = true) (w : World) :
    Calls P f (args.map den2).toArray w fun e w' => e = .returned (den3 v) ∧ Below w.heap.size w w' := by
  obtain ⟨hp, n, e⟩ := sameR_ok hx
  have d := call_sound hP e (own 0) w.heap.size w (args.map den2).toArray (Nat.zero_le _) ((relL_den2 h1 _).2 rfl) (start (tabs := []) (by intro p hp; cases hp) (by intro p hp; cases hp) (Nat.zero_le _) (Nat.le_refl _))
  rw [called_run hP h0] at d
  refine Calls.mono (show Calls P f _ w _ from d) fun e w' ⟨y, hy, _, τ, _, _, hv, _, hbe⟩ => ⟨?_, hbe.below⟩
  rw [hy, (rel_den3 h2 _).1 hv]
/-- Names of values that are int64s. -/
@[reducible] def ints (f : Nat → Int) : Syms := ⟨fun i => if strSyms ≤ i then .string .empty else .int .i64 (f i), fun i => by split <;> exact ⟨fun _ => by simp, fun _ => by simp⟩, fun i h => ⟨_, if_pos h⟩⟩
theorem ints_val (f : Nat → Int) {i : Nat} (h : i < strSyms) : (ints f).val i = .int .i64 (f i) := if_neg (by show ¬ strSyms ≤ i; omega)
/-- Names of values that are strings. -/
@[reducible] def strs (f : Nat → ByteArray) : Syms := ⟨fun i => .string (f i), fun _ => ⟨fun _ => by simp, fun _ => by simp⟩, fun _ _ => ⟨_, rfl⟩⟩
/-- No values have names. -/
instance (priority := low) noSyms : Syms := ⟨fun _ => .string .empty, fun _ => ⟨fun _ => by simp, fun _ => by simp⟩, fun _ _ => ⟨_, rfl⟩⟩
end Go.Proofs.YteicddmekhdjeaaGreatDoor.Eng
