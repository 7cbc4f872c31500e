/-
  'Sim' (SimB) of the operations, one by one: those on addresses, on ints and strings, '==', conversions.
  'Sim' (SimB) of the operations, one by one: binary and unary ones, conversions, slices, structs, arrays, built-in functions.
  'Sim' (SimB) of the operations, one by one: unary ones, conversions, slices, structs, arrays, built-in functions.
  'Sim' (SimB) of the operations, one by one: variables, structs, arrays, slices, built-in functions.
-/
import Derived.Test.YtgkakgibgfehaaaSh9
import GoSem.Dispatch
namespace Go.Proofs.Ytgkakgibgfehaaa.Sim
section
variable {ok : Cx} {T : Tables} {Fz : Fr} {FL FC : Array Func} {R : Ren} {α β : Type}

/-! ### addresses -/
theorem Sim.viewAt {r r' : Nat} (hr : R r r') : Sim ok T Fz FL FC R (fun _ x x' => x = none ∧ x' = none) (Go.viewAt r) (Go.viewAt r') := by
  unfold Go.viewAt
  refine (Sim.shape hr).bind fun R₁ k s s' e => ?_
  rcases e with rfl | ⟨_, _, _, _, rfl, rfl, _⟩
  case inr => exact .pure fun _ _ => ⟨rfl, rfl⟩
  cases s' with
  | some p => exact .pure fun _ _ => ⟨rfl, rfl⟩
  | none =>
    refine (Sim.getObj (k _ _ hr)).bind fun R₂ k2 o o' h => ?_
    obtain ⟨h1, h2⟩ := h
    cases h1 with
    | cells e a b => exact absurd rfl (h2 _ _ _)
    | loop x => exact .pure fun _ _ => ⟨rfl, rfl⟩
    | number l x => exact .pure fun _ _ => ⟨rfl, rfl⟩
    | deferred b => exact .pure fun _ _ => ⟨rfl, rfl⟩
theorem Sim.numberAt {r r' : Nat} (hr : R r r') : Sim ok T Fz FL FC R (fun R x x' => (x = none ∧ x' = none) ∨ ∃ a a' l, x = some (a, l) ∧ x' = some (a', l) ∧ ARel ok R a a') (Go.numberAt r) (Go.numberAt r') := by
  unfold Go.numberAt
  refine (Sim.shape hr).bind fun R₁ k s s' e => ?_
  rcases e with rfl | ⟨_, _, _, _, rfl, rfl, _⟩
  case inr => exact .pure fun _ _ => .inl ⟨rfl, rfl⟩
  cases s' with
  | some p => exact .pure fun _ _ => .inl ⟨rfl, rfl⟩
  | none =>
    refine (Sim.getObj (k _ _ hr)).bind fun R₂ k2 o o' h => ?_
    obtain ⟨h1, h2⟩ := h
    cases h1 with
    | cells e a b => exact absurd rfl (h2 _ _ _)
    | loop x => exact .pure fun _ _ => .inl ⟨rfl, rfl⟩
    | number l x => exact .pure fun _ k3 => .inr ⟨_, _, l, rfl, rfl, x.mono k3⟩
    | deferred b => exact .pure fun _ _ => .inl ⟨rfl, rfl⟩
theorem Sim.behindNumber {a a' : Addr} (ha : ARel ok R a a') : Sim ok T Fz FL FC R (fun R x x' => ARel ok R x.1 x'.1 ∧ x'.2 = x.2) (Go.behindNumber a) (Go.behindNumber a') := by
  unfold Go.behindNumber
  refine (Sim.numberAt ha.1).bind fun R₁ k x x' h => ?_
  rcases h with ⟨h1, h2⟩ | ⟨b, b', l, h1, h2, h3⟩
  · rw [h1, h2]
    exact .pure fun R₂ k2 => ⟨ha.mono (k.trans k2), rfl⟩
  · rw [h1, h2]
    exact .pure fun R₂ k2 => ⟨h3.mono k2, rfl⟩
theorem Sim.asNumber {a a' : Addr} (ha : ARel ok R a a') (l : Bool) : Sim ok T Fz FL FC R (VRel ok) (Go.asNumber a l) (Go.asNumber a' l) := by
  unfold Go.asNumber
  exact (Sim.newFresh (.number l ha)).bind fun R₁ k r r' hr => .pure fun R₂ k2 => .ptr ⟨k2 _ _ hr.1, by show 0 = 0 + ok.sh r; rw [hr.2], rfl⟩
theorem Sim.noView {a a' : Addr} (ha : ARel ok R a a') : Sim ok T Fz FL FC R (fun _ _ _ => True) (Go.noView a) (Go.noView a') := by
  unfold Go.noView
  refine (Sim.viewAt ha.1).bind fun R₁ k x x' h => ?_
  rw [h.1, h.2]
  exact .pure fun _ _ => trivial
/-- A block of no type. -/
theorem cells_none {F : Array Func} {e : TypeId} (h : T.info? e = none) : (prg T F).cellsOf e = 0 := by
  unfold Program.cellsOf
  rw [show (prg T F).info? e = none from h]
  rfl
theorem byteCell_same (F : Array Func) (G : Array Func) : ∀ (d : Nat) (t : TypeId) (o : Nat), byteOfCell (prg T F) d t o = byteOfCell (prg T G) d t o := by
  intro d
  induction d with
  | zero => intro t o; rfl
  | succ d ih => intro t o; simp only [byteOfCell, ih]; rfl
/-- .. and where it lies in the block that it stands for. -/
theorem Sim.shapeAt {r r' : Nat} (hr : R r r') : Sim ok T Fz FL FC R (fun _ s s' => (s' = s ∧ ∀ p, s = some p → ok.sh r = 0 ∧ ¬ Fz r) ∨ ∃ e n e' n', s = some (e, n) ∧ s' = some (e', n') ∧ T.info? e = none) (Go.shape r) (Go.shape r') := by
  intro R₁ hR w w' hw es
  refine fun _ => ⟨R₁, w'.shape? r', w', #[], by rw [Array.append_empty]; rfl, Ext.refl _ _ _ _, hw, ?_, by simp⟩
  obtain ⟨o, o', h1, h2, h3⟩ := hw.obj _ _ (hR _ _ hr)
  unfold World.shape?
  rw [h1, h2]
  rcases h3 with ⟨hz, h0, h3⟩ | ⟨_, h3⟩
  · left
    refine ⟨?_, fun _ _ => ⟨h0, hz⟩⟩
    cases h3 with
    | cells e f k => simp [k.1]
    | loop k => rfl
    | number l k => rfl
    | deferred b => rfl
  · obtain ⟨c, e, fr, c', e', fr', rfl, rfl, k3, _⟩ := h3
    exact .inr ⟨e, c.size, e', c'.size, rfl, rfl, k3⟩
theorem Sim.byteOf {a a' : Addr} (ha : ARel ok R a a') (h0 : ok.sh a.block = 0 ∧ ¬ Fz a.block) : Sim ok T Fz FL FC R Same (Go.byteOf a) (Go.byteOf a') := by
  have hoff : a'.off = a.off := by rw [ha.2.1, h0.1, Nat.add_zero]
  unfold Go.byteOf
  rw [ha.2.2]
  cases a.spot with
  | some s => exact .same
  | none =>
    refine .program ?_
    refine (Sim.noView ha).bind fun R₁ k _ _ _ => ?_
    refine Sim.bind (A := fun _ s s' => s' = s) ?_ fun R₂ k2 s s' e => ?_
    · intro R₂ h2 w w' hw es
      have hr := h2 _ _ (k _ _ ha.1)
      refine fun _ => ⟨R₂, w'.shape? a'.block, w', #[], by rw [Array.append_empty]; rfl, Ext.refl _ _ _ _, hw, ?_, by simp⟩
      obtain ⟨o, o', h1, h2, h3⟩ := hw.obj _ _ hr
      unfold World.shape?
      rw [h1, h2]
      rcases h3 with ⟨_, _, h3⟩ | ⟨hz, _⟩
      · cases h3 with
        | cells e f k => simp [k.1]
        | loop k => rfl
        | number l k => rfl
        | deferred b => rfl
      · exact absurd hz h0.2
    subst e
    cases s' with
    | none => exact .stuck
    | some p =>
      obtain ⟨e, n⟩ := p
      simp only [hoff]
      have e1 : (prg T FL).cellsOf e = (prg T FC).cellsOf e := rfl
      have e2 : byteOfCell (prg T FL) (prg T FL).depth e = byteOfCell (prg T FC) (prg T FC).depth e := by
        funext o
        exact byteCell_same _ _ _ _ _
      have e3 : (prg T FL).bytesOf e = (prg T FC).bytesOf e := rfl
      rw [e1, e2, e3]
      split
      · exact .same
      · split
        · exact .same
        · exact .stuck
theorem cellAtBytes_same (d : Nat) (e : TypeId) (c o : Nat) (b : Int) : cellAtBytes (prg T FL) d e c o b = cellAtBytes (prg T FC) d e c o b := by
  have h1 : ∀ (d : Nat) (t : TypeId) (o : Nat), byteOfCell (prg T FL) d t o = byteOfCell (prg T FC) d t o := by
    intro d
    induction d with
    | zero => intro t o; rfl
    | succ d ih => intro t o; simp only [byteOfCell, ih]; rfl
  have h2 : ∀ (d : Nat) (t : TypeId) (o : Nat), cellOfByte (prg T FL) d t o = cellOfByte (prg T FC) d t o := by
    intro d
    induction d with
    | zero => intro t o; rfl
    | succ d ih => intro t o; simp only [cellOfByte, ih]; rfl
  simp only [cellAtBytes, h1, h2]
  rfl
/-- Two places. -/
def PRel (ok : Cx) (R : Ren) (v v' : Value) : Prop := ∃ a a', v = .pointer (some a) ∧ v' = .pointer (some a') ∧ ARel ok R a a'
theorem PRel.v {ok : Cx} {R : Ren} {v v' : Value} (h : PRel ok R v v') : VRel ok R v v' := by obtain ⟨a, a', rfl, rfl, h⟩ := h; exact .ptr h
theorem Sim.unsafeAdd (t : TypeId) {x x' y y' : Value} (hx : VRel ok R x x') (hy : VRel ok R y y') : Sim ok T Fz FL FC R (PRel ok) (Builtin.unsafeAdd_ #[] t #[x, y]) (Builtin.unsafeAdd_ #[] t #[x', y']) := by
  unfold Builtin.unsafeAdd_
  cases hx with
  | nilPtr =>
    refine (Sim.asInt hy).bind fun R₁ k n n' e => ?_
    subst e
    dsimp only
    refine .ite Iff.rfl (fun h => ?_) (fun h => ?_)
    · exact Sim.unsup (by simp)
    · refine .ite Iff.rfl (fun h => ?_) (fun h => ?_)
      · exact Sim.bindHalt fun R₂ _ w w' _ => ⟨_, _, rfl, trivial, by simp⟩
      · exact Sim.unsup (by simp)
  | ptr ha =>
    refine (Sim.asInt hy).bind fun R₁ k n n' e => ?_
    subst e
    dsimp only
    refine .ite Iff.rfl (fun h => ?_) (fun h => ?_)
    · refine (Sim.viewAt (k _ _ ha.1)).bind fun R₂ k2 v v' h => ?_
      rw [h.1, h.2]
      exact .pure fun R₃ k3 => ⟨_, _, rfl, rfl, ha.mono ((k.trans k2).trans k3)⟩
    · refine .ite Iff.rfl (fun h => ?_) (fun h => ?_)
      · exact Sim.bindHalt fun R₂ _ w w' _ => ⟨_, _, rfl, trivial, by simp⟩
      · refine (Sim.shapeAt (k _ _ ha.1)).bind fun R₂ k2 s s' e => ?_
        rcases e with ⟨rfl, e0⟩ | ⟨e, n, _, _, rfl, rfl, hn⟩
        case inr =>
          refine .program ?_
          have : ∀ o, cellAtBytes (prg T FL) (prg T FL).depth e (n / (prg T FL).cellsOf e) o n' = none := by
            intro o
            unfold cellAtBytes
            rw [cells_none hn]
            rfl
          rw [this]
          exact Sim.unsup (by simp)
        cases s' with
        | none => exact Sim.unsup (by simp)
        | some p =>
          obtain ⟨e, c⟩ := p
          refine .program ?_
          have hoff := ha.2.1
          rw [(e0 _ rfl).1, Nat.add_zero] at hoff
          simp only [hoff]
          rw [show (prg T FL).depth = (prg T FC).depth from rfl, show (prg T FL).cellsOf e = (prg T FC).cellsOf e from rfl, cellAtBytes_same (FL := FL) (FC := FC)]
          split
          · exact .pure fun R₃ k3 => ⟨_, _, rfl, rfl, (k.trans (k2.trans k3)) _ _ ha.1, by show _ = _ + ok.sh _; rw [(e0 _ rfl).1]; rfl, ha.2.2⟩
          · exact Sim.unsup (by simp)
  | _ => exact .stuck
theorem Sim.movedNumber (t : TypeId) {x x' y y' : Value} (hx : VRel ok R x x') (hy : VRel ok R y y') : Sim ok T Fz FL FC R (VRel ok) (Go.movedNumber t x y) (Go.movedNumber t x' y') := by
  unfold Go.movedNumber
  refine (Sim.underlying t).bind fun R₁ k d d' h => ?_
  rw [h.1]
  dsimp only
  refine .ite Iff.rfl (fun h => ?_) (fun h => ?_)
  · exact Sim.bindHalt fun R₂ _ w w' _ => ⟨_, _, rfl, trivial, by simp⟩
  · have hx1 := hx.mono k
    cases hx with
    | ptr ha =>
      refine (Sim.behindNumber (ha.mono k)).bind fun R₂ k2 p p' h => ?_
      obtain ⟨a, l⟩ := p
      obtain ⟨a', l'⟩ := p'
      obtain ⟨h1, rfl⟩ := h
      refine (Sim.unsafeAdd t (.ptr h1) (hy.mono (k.trans k2))).bind fun R₃ k3 v v' hv => ?_
      obtain ⟨b, b', rfl, rfl, hb⟩ := hv
      exact Sim.asNumber hb _
    | nilPtr => exact (Sim.unsafeAdd t hx1 (hy.mono k)).imp fun _ _ _ _ h => h.v
    | _ => exact .stuck
theorem Sim.movedPointer (t : TypeId) {x x' y y' : Value} (hx : VRel ok R x x') (hy : VRel ok R y y') : Sim ok T Fz FL FC R (VRel ok) (Go.movedPointer t x y) (Go.movedPointer t x' y') := by
  unfold Go.movedPointer
  have hx1 := hx
  cases hx with
  | ptr ha =>
    refine (Sim.numberAt ha.1).bind fun R₁ k p p' h => ?_
    rcases h with ⟨h1, h2⟩ | ⟨b, b', l, h1, h2, h3⟩
    · rw [h1, h2]
      exact ((Sim.unsafeAdd t hx1 hy).imp fun _ _ _ _ h => h.v).mono k
    · rw [h1, h2]
      exact Sim.bindHalt fun R₂ _ w w' _ => ⟨_, _, rfl, trivial, by simp⟩
  | nilPtr => exact (Sim.unsafeAdd t hx1 hy).imp fun _ _ _ _ h => h.v
  | _ => exact .stuck

/-! ### two addresses: out of reach of what is compared -/
theorem Sim.twoPlaces {a a' b : Addr} (ha : ARel ok R a a') {A : Ren → α → β → Prop} {f : Nat × Nat → Sem α} {s' : Sem β} : Sim ok T Fz FL FC R A (Op.twoPlaces a b >>= f) s' := by
  refine Sim.bindHalt fun R₁ k w w' hw => ?_
  have h := (hw.glob _ _ (k _ _ ha.1)).1
  refine ⟨.unsupported .addressObserved, w, ?_, trivial, by simp⟩
  show ((Op.twoPlaces a b).bind f).run _ _ = _
  rw [Sem.run_bind']
  have e : (Op.twoPlaces a b).run (prg T FL) w = .halt (.unsupported .addressObserved) w := by
    unfold Op.twoPlaces
    simp only [Sem.run_bind, run_program, Result.andThen]
    have : (a.block != b.block || decide (a.block ≥ (prg T FL).globals.size)) = true := by simp; right; exact h
    simp only [this, if_true]
    rfl
  rw [e]
  rfl
theorem Sim.addrMod (kd : IntKind) {a a' : Addr} (ha : ARel ok R a a') (n : Int) : Sim ok T Fz FL FC R (VRel ok) (Op.addrMod kd a n) (Op.addrMod kd a' n) := by
  unfold Op.addrMod
  refine (Sim.shapeAt ha.1).bind fun R₁ k1 s s' e => ?_
  rcases e with ⟨rfl, e0⟩ | ⟨e, c, _, _, rfl, rfl, hn⟩
  case inr =>
    refine Sim.bindHalt fun R₂ _ w w' _ => ⟨.stuck "no such type", w, ?_, trivial, by simp⟩
    have : (Go.typeInfo e).run (prg T FL) w = .halt (.stuck "no such type") w := by
      unfold Go.typeInfo
      simp only [Sem.run_bind, run_program, Result.andThen]
      rw [show (prg T FL).info? e = none from hn]
      rfl
    simp only [Sem.run_bind, this, Result.andThen]
  cases s' with
  | none => exact Sim.unsup (by simp)
  | some p =>
    obtain ⟨e, c⟩ := p
    refine (Sim.typeInfo e).bind fun R₂ k2 i i' h => ?_
    rw [h.1]
    dsimp only
    refine .ite Iff.rfl (fun h => ?_) (fun h => ?_)
    · exact Sim.bindHalt fun R₂ _ w w' _ => ⟨_, _, rfl, trivial, by simp⟩
    · refine (Sim.byteOf (ha.mono (k1.trans k2)) (e0 _ rfl)).bind fun R₃ k3 x x' e => ?_
      subst e
      exact .val (.int _ _)
/-! ### ints, strings -/
theorem Sim.intArith (op : BinOp) (k : IntKind) (a b : Int) : Sim ok T Fz FL FC R (VRel ok) (Op.intArith op k a b) (Op.intArith op k a b) := by
  cases op <;> first | exact .stuck | exact .val (.int _ _)
theorem Sim.intDiv (op : BinOp) (k : IntKind) (a b : Int) : Sim ok T Fz FL FC R (VRel ok) (Op.intDiv op k a b) (Op.intDiv op k a b) := by
  unfold Op.intDiv
  refine .ite Iff.rfl (fun h => Sim.runtimePanic (e := .error _) rfl) (fun h => ?_)
  cases op <;> first | exact .stuck | exact .val (.int _ _)
theorem Sim.intBits (op : BinOp) (k : IntKind) (a b : Int) : Sim ok T Fz FL FC R (VRel ok) (Op.intBits op k a b) (Op.intBits op k a b) := by
  cases op <;> first | exact .stuck | exact .val (.int _ _)
theorem Sim.intCmp (op : BinOp) (a b : Int) : Sim ok T Fz FL FC R (VRel ok) (Op.intCmp op a b) (Op.intCmp op a b) := by
  cases op <;> first | exact .stuck | exact .val (.bool _)
theorem Sim.shift (op : BinOp) (k yk : IntKind) (a b : Int) : Sim ok T Fz FL FC R (VRel ok) (Op.shift op k a yk b) (Op.shift op k a yk b) := by
  unfold Op.shift
  refine .ite Iff.rfl (fun h => Sim.runtimePanic (e := .error _) rfl) (fun h => ?_)
  cases op <;> first | exact .stuck | exact .val (.int _ _)
theorem Sim.stringOp (op : BinOp) (a b : ByteArray) : Sim ok T Fz FL FC R (VRel ok) (Op.stringOp op a b) (Op.stringOp op a b) := by
  unfold Op.stringOp
  cases op <;> first
    | exact .stuck
    | exact .val (.bool _)
    | (refine .ite Iff.rfl (fun h => ?_) (fun h => ?_)
       · exact Sim.unsup (by simp)
       · exact .val (.string _))

/-! ### '==' -/
theorem Sim.equal {t : TypeId} (ht : okEq T t = true) {x x' y y' : Value} (hx : VRel ok R x x') (hy : VRel ok R y y') : Sim ok T Fz FL FC R Same (Op.equal t x y) (Op.equal t x' y') := by
  show Sim ok T Fz FL FC R Same (Op.equalIn (9999 + 1) t x y) (Op.equalIn (9999 + 1) t x' y')
  unfold Op.equalIn
  refine (Sim.underlying t).bind fun R₁ k d d' h => ?_
  obtain ⟨rfl, h⟩ := h
  unfold okEq at ht
  rw [show ({ toTables := T, funcs := #[] } : Program).underlying t = some d' from h] at ht
  cases d' with
  | bool => cases hx <;> cases hy <;> first | exact .stuck | exact .same
  | string => cases hx <;> cases hy <;> first | exact .stuck | exact .same
  | map a b => cases hx <;> cases hy <;> first | exact .stuck | exact .same
  | slice a => cases hx <;> cases hy <;> first | exact .stuck | exact .same
  | func a b c => cases hx <;> cases hy <;> first | exact .stuck | exact .same
  | int kd =>
    cases hx with
    | int k1 a =>
      cases hy with
      | int k2 b => exact .ite Iff.rfl (fun _ => .same) (fun _ => .stuck)
      | nilPtr => exact Sim.unsup (by simp)
      | ptr hb =>
        cases a with
        | ofNat n => cases n with
          | zero => exact .same
          | succ n => exact Sim.unsup (by simp)
        | negSucc n => exact Sim.unsup (by simp)
      | _ => exact .stuck
    | nilPtr => cases hy <;> first | exact Sim.unsup (by simp) | exact .stuck
    | ptr ha =>
      cases hy with
      | int k2 b =>
        cases b with
        | ofNat n => cases n with
          | zero => exact .same
          | succ n => exact Sim.unsup (by simp)
        | negSucc n => exact Sim.unsup (by simp)
      | ptr hb =>
        refine (Sim.behindNumber (ha.mono k)).bind fun R₂ k2 p p' hp => ?_
        refine (Sim.behindNumber (hb.mono (k.trans k2))).bind fun R₃ k3 q q' hq => ?_
        refine Sim.bindHalt fun R₄ k4 w w' hw => ?_
        have hg := (hw.glob _ _ (k4 _ _ (k3 _ _ hp.1.1))).1
        have e0 : (p.1.block == q.1.block && decide (p.1.block < T.globals.size)) = false := by simp; intro _; omega
        refine ⟨.unsupported .addressObserved, w, ?_, trivial, by simp⟩
        simp only [Sem.run_bind, run_program, Result.andThen, e0]
        simp only [Bool.false_eq_true, if_false]
        cases hi : T.info? t with
        | none =>
          exfalso
          have : ({ toTables := T, funcs := #[] } : Program).underlying t = none := by
            unfold Program.underlying
            rw [show ({ toTables := T, funcs := #[] } : Program).info? t = none from hi]
          rw [this] at h; cases h
        | some i =>
          rw [hi] at ht
          have e1 : (Go.typeInfo t).run (prg T FL) w = .ok i w := by
            unfold Go.typeInfo
            simp only [Sem.run_bind, run_program, Result.andThen]
            rw [show (prg T FL).info? t = some i from hi]
            rfl
          simp only [Sem.run_bind, e1, Result.andThen]
          split
          · rename_i u hu
            obtain ⟨dd, _⟩ := i
            simp only at hu
            subst hu
            cases ht
          · rfl
      | _ => exact Sim.unsup (by simp)
    | _ => cases hy <;> first | exact .stuck | exact Sim.unsup (by simp)
  | _ => cases ht
end
end Go.Proofs.Ytgkakgibgfehaaa.Sim

namespace Go.Proofs.Ytgkakgibgfehaaa.Sim
section
variable {ok : Cx} {T : Tables} {Fz : Fr} {FL FC : Array Func} {R : Ren} {α β : Type}

theorem Sim.behindMod (kd : IntKind) {a a' : Addr} (ha : ARel ok R a a') (n : Int) : Sim ok T Fz FL FC R (VRel ok) (do Op.addrMod kd (← Go.behindNumber a).1 n) (do Op.addrMod kd (← Go.behindNumber a').1 n) := by
  refine (Sim.behindNumber ha).bind fun R₂ k2 p p' hp => ?_
  exact Sim.addrMod kd hp.1 n

theorem Sim.addPI (t : TypeId) {x x' y y' : Value} (hx : VRel ok R x x') (hy : VRel ok R y y') :
    Sim ok T Fz FL FC R (VRel ok) (do if (← Go.underlying t) matches .unsafePointer then Go.movedPointer t x y else Go.movedNumber t x y) (do if (← Go.underlying t) matches .unsafePointer then Go.movedPointer t x' y' else Go.movedNumber t x' y') := by
  refine (Sim.underlying t).bind fun R₁ k d d' h => ?_
  rw [h.1]
  exact .ite Iff.rfl (fun _ => Sim.movedPointer t (hx.mono k) (hy.mono k)) (fun _ => Sim.movedNumber t (hx.mono k) (hy.mono k))

/-! ### binary operations -/
/-- The kinds of the two operands that an operation other than '==' and '!=' may be carried out on. -/
def pairs : Value → Value → Bool
  | .int .., .int .. | .string _, .string _ | .pointer _, .int .. | .int .., .pointer _ | .pointer _, .pointer _ => true
  | .float .., .float .. | .complex .., .complex .. => true
  | _, _ => false
theorem bin_halts {op : BinOp} (h1 : op ≠ .eql) (h2 : op ≠ .neq) (t : TypeId) {x y : Value} (h : pairs x y = false) : ∃ hh, Go.binOp op t x y = .halt hh ∧ HOk hh ∧ ∀ v, hh ≠ .panic v := by
  unfold Go.binOp
  split <;> first
    | exact absurd rfl h1
    | exact absurd rfl h2
    | (simp [pairs] at h; done)
    | exact ⟨_, rfl, trivial, by simp⟩
/-- .. and those on which '==' is no '==' of two cells. -/
def likes : Value → Value → Bool
  | .int .., .int .. | .string _, .string _ | .float .., .float .. | .complex .., .complex .. => true
  | _, _ => false
theorem bin_eql (t : TypeId) {x y : Value} (h : likes x y = false) : Go.binOp .eql t x y = (do pure (.bool (← Op.equal t x y)) : Sem Value) := by
  unfold Go.binOp
  split <;> first
    | (simp [likes] at h; done)
    | rfl
    | simp_all
theorem bin_neq (t : TypeId) {x y : Value} (h : likes x y = false) : Go.binOp .neq t x y = (do pure (.bool (!(← Op.equal t x y))) : Sem Value) := by
  unfold Go.binOp
  split <;> first
    | (simp [likes] at h; done)
    | rfl
    | simp_all

theorem bin_string (op : BinOp) (t : TypeId) (a b : ByteArray) : Go.binOp op t (.string a) (.string b) = Op.stringOp op a b := by cases op <;> rfl
theorem Sim.eqV {t : TypeId} (ht : okEq T t = true) {x x' y y' : Value} (hx : VRel ok R x x') (hy : VRel ok R y y') :
    Sim ok T Fz FL FC R (VRel ok) (do Pure.pure (Value.bool (← Op.equal t x y))) (do Pure.pure (Value.bool (← Op.equal t x' y'))) := by
  refine (Sim.equal ht hx hy).bind fun R₁ k a a' e => ?_
  subst e
  exact .val (.bool _)
theorem Sim.neV {t : TypeId} (ht : okEq T t = true) {x x' y y' : Value} (hx : VRel ok R x x') (hy : VRel ok R y y') :
    Sim ok T Fz FL FC R (VRel ok) (do Pure.pure (Value.bool (!(← Op.equal t x y)))) (do Pure.pure (Value.bool (!(← Op.equal t x' y')))) := by
  refine (Sim.equal ht hx hy).bind fun R₁ k a a' e => ?_
  subst e
  exact .val (.bool _)
theorem equal_halts (t : TypeId) {x y : Value} (h : x = .tuple #[] ∨ y = .tuple #[]) (w : World) : ∃ hh, (Op.equal t x y).run (prg T FL) w = .halt hh w ∧ HOk hh ∧ ∀ v, hh ≠ .panic v := by
  show ∃ hh, (Op.equalIn (9999 + 1) t x y).run (prg T FL) w = .halt hh w ∧ _
  unfold Op.equalIn
  simp only [Sem.run_bind]
  cases hu : (Go.underlying t).run (prg T FL) w with
  | halt hh w1 =>
    unfold Go.underlying at hu
    simp only [Sem.run_bind, run_program, Result.andThen] at hu
    split at hu
    · cases hu
    · cases hu; exact ⟨_, rfl, trivial, by simp⟩
  | ok d w1 =>
    have : w1 = w := by
      unfold Go.underlying at hu
      simp only [Sem.run_bind, run_program, Result.andThen] at hu
      split at hu
      · cases hu; rfl
      · cases hu
    subst this
    simp only [Result.andThen]
    rcases h with rfl | rfl
    · split <;> first | (simp_all; done) | exact ⟨_, rfl, trivial, by simp⟩
    · split <;> first | (simp_all; done) | exact ⟨_, rfl, trivial, by simp⟩
theorem Sim.junkEq {A : Ren → α → β → Prop} (t : TypeId) {x y : Value} (h : x = .tuple #[] ∨ y = .tuple #[]) {f : Bool → Sem α} {s' : Sem β} : Sim ok T Fz FL FC R A (Op.equal t x y >>= f) s' := by
  refine Sim.bindHalt fun R₁ _ w w' _ => ?_
  obtain ⟨hh, e, h1, h2⟩ := equal_halts (T := T) (FL := FL) t h w
  refine ⟨hh, w, ?_, h1, h2⟩
  simp only [Sem.run_bind, e, Result.andThen]

set_option maxHeartbeats 4000000 in
theorem Sim.binOp {op : BinOp} {t : TypeId} (hop : okBin T op t = true) {x x' y y' : Value} (hx : VRel ok R x x') (hy : VRel ok R y y') : Sim ok T Fz FL FC R (VRel ok) (Go.binOp op t x y) (Go.binOp op t x' y') := by
  by_cases he : op = .eql
  · subst he
    by_cases hj : x = .tuple #[] ∨ y = .tuple #[]
    · have : likes x y = false := by
        rcases hj with h | h
        · rw [h]; rfl
        · rw [h]; cases x <;> rfl
      rw [bin_eql t this]
      exact Sim.junkEq t hj
    · have hx1 := hx
      have hy1 := hy
      by_cases hl : likes x y = true
      · cases hx <;> first
          | (simp at hj; done)
          | (cases hl; done)
          | (cases hy <;> first
              | (simp at hj; done)
              | (cases hl; done)
              | exact .ite Iff.rfl (fun _ => .stuck) (fun _ => Sim.intCmp _ _ _)
              | (rw [bin_string]; exact Sim.stringOp _ _ _))
      · have hl : likes x y = false := by simpa using hl
        have hl' : likes x' y' = false := by
          cases hx <;> first
            | (simp at hj; done)
            | rfl
            | (cases hy <;> first | (simp at hj; done) | rfl | (cases hl; done))
        rw [bin_eql t hl, bin_eql t hl']
        exact Sim.eqV hop hx1 hy1
  by_cases hn : op = .neq
  · subst hn
    by_cases hj : x = .tuple #[] ∨ y = .tuple #[]
    · have : likes x y = false := by
        rcases hj with h | h
        · rw [h]; rfl
        · rw [h]; cases x <;> rfl
      rw [bin_neq t this]
      exact Sim.junkEq t hj
    · have hx1 := hx
      have hy1 := hy
      by_cases hl : likes x y = true
      · cases hx <;> first
          | (simp at hj; done)
          | (cases hl; done)
          | (cases hy <;> first
              | (simp at hj; done)
              | (cases hl; done)
              | exact .ite Iff.rfl (fun _ => .stuck) (fun _ => Sim.intCmp _ _ _)
              | (rw [bin_string]; exact Sim.stringOp _ _ _))
      · have hl : likes x y = false := by simpa using hl
        have hl' : likes x' y' = false := by
          cases hx <;> first
            | (simp at hj; done)
            | rfl
            | (cases hy <;> first | (simp at hj; done) | rfl | (cases hl; done))
        rw [bin_neq t hl, bin_neq t hl']
        exact Sim.neV hop hx1 hy1
  by_cases hp : pairs x y = true
  · have hx1 := hx
    have hy1 := hy
    cases hx with
    | int k n =>
      cases hy with
      | int k' m =>
        cases op with
        | eql => exact absurd rfl he
        | neq => exact absurd rfl hn
        | shl => exact Sim.shift .shl k k' n m
        | shr => exact Sim.shift .shr k k' n m
        | add => exact .ite Iff.rfl (fun _ => .stuck) (fun _ => Sim.intArith _ _ _ _)
        | sub => exact .ite Iff.rfl (fun _ => .stuck) (fun _ => Sim.intArith _ _ _ _)
        | mul => exact .ite Iff.rfl (fun _ => .stuck) (fun _ => Sim.intArith _ _ _ _)
        | quo => exact .ite Iff.rfl (fun _ => .stuck) (fun _ => Sim.intDiv _ _ _ _)
        | rem => exact .ite Iff.rfl (fun _ => .stuck) (fun _ => Sim.intDiv _ _ _ _)
        | and => exact .ite Iff.rfl (fun _ => .stuck) (fun _ => Sim.intBits _ _ _ _)
        | or => exact .ite Iff.rfl (fun _ => .stuck) (fun _ => Sim.intBits _ _ _ _)
        | xor => exact .ite Iff.rfl (fun _ => .stuck) (fun _ => Sim.intBits _ _ _ _)
        | andNot => exact .ite Iff.rfl (fun _ => .stuck) (fun _ => Sim.intBits _ _ _ _)
        | _ => exact .ite Iff.rfl (fun _ => .stuck) (fun _ => Sim.intCmp _ _ _)
      | ptr hb =>
        cases op with
        | eql => exact absurd rfl he
        | neq => exact absurd rfl hn
        | add => exact Sim.movedNumber t hy1 hx1
        | and => exact Sim.behindMod _ hb _
        | _ => exact Sim.unsup (by simp)
      | nilPtr =>
        cases op with
        | eql => exact absurd rfl he
        | neq => exact absurd rfl hn
        | add => exact Sim.movedNumber t hy1 hx1
        | _ => exact Sim.unsup (by simp)
      | _ => cases hp
    | string a =>
      cases hy with
      | string b =>
        cases op with
        | eql => exact absurd rfl he
        | neq => exact absurd rfl hn
        | _ => rw [bin_string]; exact Sim.stringOp _ _ _
      | _ => cases hp
    | ptr ha =>
      cases hy with
      | int k m =>
        cases op with
        | eql => exact absurd rfl he
        | neq => exact absurd rfl hn
        | add => exact Sim.addPI t hx1 hy1
        | sub => exact Sim.movedNumber t hx1 (.int _ _)
        | rem => exact Sim.behindMod _ ha _
        | and => exact Sim.behindMod _ ha _
        | _ => exact Sim.unsup (by simp)
      | ptr hb =>
        cases op with
        | eql => exact absurd rfl he
        | neq => exact absurd rfl hn
        | sub =>
          refine (Sim.behindNumber ha).bind fun R₂ k2 p p' hp => ?_
          refine (Sim.behindNumber (hb.mono k2)).bind fun R₃ k3 q q' hq => ?_
          unfold Op.addrSub
          exact Sim.twoPlaces (hp.1.mono k3)
        | lss =>
          refine (Sim.behindNumber ha).bind fun R₂ k2 p p' hp => ?_
          refine (Sim.behindNumber (hb.mono k2)).bind fun R₃ k3 q q' hq => ?_
          unfold Op.addrCmp
          exact Sim.twoPlaces (hp.1.mono k3)
        | leq =>
          refine (Sim.behindNumber ha).bind fun R₂ k2 p p' hp => ?_
          refine (Sim.behindNumber (hb.mono k2)).bind fun R₃ k3 q q' hq => ?_
          unfold Op.addrCmp
          exact Sim.twoPlaces (hp.1.mono k3)
        | gtr =>
          refine (Sim.behindNumber ha).bind fun R₂ k2 p p' hp => ?_
          refine (Sim.behindNumber (hb.mono k2)).bind fun R₃ k3 q q' hq => ?_
          unfold Op.addrCmp
          exact Sim.twoPlaces (hp.1.mono k3)
        | geq =>
          refine (Sim.behindNumber ha).bind fun R₂ k2 p p' hp => ?_
          refine (Sim.behindNumber (hb.mono k2)).bind fun R₃ k3 q q' hq => ?_
          unfold Op.addrCmp
          exact Sim.twoPlaces (hp.1.mono k3)
        | _ => exact Sim.unsup (by simp)
      | nilPtr =>
        cases op with
        | eql => exact absurd rfl he
        | neq => exact absurd rfl hn
        | _ => exact Sim.unsup (by simp)
      | _ => cases hp
    | nilPtr =>
      cases hy with
      | int k m =>
        cases op with
        | eql => exact absurd rfl he
        | neq => exact absurd rfl hn
        | add => exact Sim.addPI t hx1 hy1
        | sub => exact Sim.movedNumber t hx1 (.int _ _)
        | _ => exact Sim.unsup (by simp)
      | ptr hb =>
        cases op with
        | eql => exact absurd rfl he
        | neq => exact absurd rfl hn
        | _ => exact Sim.unsup (by simp)
      | nilPtr =>
        cases op with
        | eql => exact absurd rfl he
        | neq => exact absurd rfl hn
        | _ => exact Sim.unsup (by simp)
      | _ => cases hp
    | _ => cases hp
  · obtain ⟨hh, e, h1, h2⟩ := bin_halts he hn t (x := x) (y := y) (by simpa using hp)
    rw [e]
    exact .halt h1 h2
end
end Go.Proofs.Ytgkakgibgfehaaa.Sim

namespace Go.Proofs.Ytgkakgibgfehaaa.Sim
section
variable {ok : Cx} {T : Tables} {Fz : Fr} {FL FC : Array Func} {R : Ren} {α β : Type}

/-! ### the guard ahead of '==' -/
theorem guardIn_no {t : TypeId} (ht : okEq T t = true) (F : Array Func) (a b : Value) (w : World) (es : Array Event) : (Op.eqGuardIn Op.maxDepth t a b).runT (prg T F) w es = (.ok false w, es) := by
  show (Op.eqGuardIn (9999 + 1) t a b).runT (prg T F) w es = _
  unfold Op.eqGuardIn
  show ((Go.underlying t).bind _).runT (prg T F) w es = _
  rw [Sem.runT_bind']
  unfold okEq at ht
  cases hu : ({ toTables := T, funcs := #[] } : Program).underlying t with
  | none => rw [hu] at ht; cases ht
  | some d =>
    rw [hu] at ht
    have e : (Go.underlying t).runT (prg T F) w es = (.ok d w, es) := by
      unfold Go.underlying
      show ((Go.program).bind _).runT (prg T F) w es = _
      rw [Sem.runT_bind']
      show Sem.runT _ (match (prg T F).underlying t with | some d => Pure.pure d | none => Go.stuck "no such type") w es = _
      rw [show (prg T F).underlying t = some d from hu]
      rfl
    rw [e]
    cases d <;> first | (cases ht; done) | rfl
theorem guardType_no {t : TypeId} (ht : okEq T t = true) (F : Array Func) : (prg T F).eqGuardType (prg T F).depth t = false := by
  have hd : ∃ d, (prg T F).depth = d + 1 := ⟨_, rfl⟩
  obtain ⟨d, hd⟩ := hd
  rw [hd]
  unfold Program.eqGuardType
  unfold okEq at ht
  have : (prg T F).underlying t = ({ toTables := T, funcs := #[] } : Program).underlying t := rfl
  rw [this]
  split at ht <;> simp_all
theorem guard_no {op : BinOp} {t : TypeId} (ht : okBin T op t = true) (F : Array Func) (x y : Operand) (a b : Value) (w : World) (es : Array Event) : (Go.eqGuard op t x y a b).runT (prg T F) w es = (.ok () w, es) := by
  unfold Go.eqGuard
  have main : okEq T t = true → Sem.runT (prg T F) (match a, b with
      | .nilIface, .nilIface => do
        if (x matches .const _) || (y matches .const _) then return
        if ← Op.eqGuardIn Op.maxDepth t a b then Go.unsupported (.noEntry "binop/eql: two nil values of an interface type with methods, neither of them the literal nil")
      | .agg _, .agg _ => do
        if !(← Go.program).eqGuardType (← Go.program).depth t then return
        if ← Op.eqGuardIn Op.maxDepth t a b then Go.unsupported (.noEntry "binop/eql: two nil values of an interface type with methods, in a part of a struct or an array")
      | _, _ => pure () : Sem Unit) w es = (.ok () w, es) := by
    intro ht'
    split
    · have : ∀ c : Bool, Sem.runT (prg T F) (if c = true then pure () else do
          if ← Op.eqGuardIn Op.maxDepth t .nilIface .nilIface then Go.unsupported (.noEntry "binop/eql: two nil values of an interface type with methods, neither of them the literal nil") : Sem Unit) w es = (.ok () w, es) := by
        intro c
        cases c
        · show ((Op.eqGuardIn Op.maxDepth t _ _).bind _).runT (prg T F) w es = _
          rw [Sem.runT_bind', guardIn_no ht']
          rfl
        · rfl
      exact this _
    · show Sem.runT _ (if (!(prg T F).eqGuardType (prg T F).depth t) = true then _ else _) w es = _
      rw [guardType_no ht']
      rfl
    · rfl
  cases op <;> first | rfl | exact main ht
theorem Sim.eqGuard {op : BinOp} {t : TypeId} (ht : okBin T op t = true) (x y : Operand) (a a' b b' : Value) :
    Sim ok T Fz FL FC R (fun _ _ _ => True) (Go.eqGuard op t x y a b) (Go.eqGuard op t x y a' b') := by
  intro R₁ hR w w' hw es
  have e : (Go.eqGuard op t x y a b).run (prg T FL) w = .ok () w := by rw [← Sem.runT_fst _ _ _ #[], guard_no ht]
  rw [e, guard_no ht]
  exact fun _ => ⟨R₁, (), w', #[], by rw [Array.append_empty], Ext.refl _ _ _ _, hw, trivial, by simp⟩

/-! ### unary operations, conversions -/
theorem Sim.unary (op : UnOp) {x x' : Value} (hx : VRel ok R x x') : Sim ok T Fz FL FC R (VRel ok) (Op.unary op x) (Op.unary op x') := by
  cases hx with
  | int k n =>
    cases op with
    | neg => exact Sim.intArith .sub k 0 n
    | xor => exact Sim.intBits .xor k (if k.signed then -1 else k.max) n
    | _ => exact .stuck
  | bool b =>
    cases op with
    | not => exact .val (.bool _)
    | _ => exact .stuck
  | ptr h =>
    cases op with
    | neg => exact Sim.unsup (by simp)
    | xor => exact Sim.unsup (by simp)
    | _ => exact .stuck
  | _ => cases op <;> exact .stuck
/-- A loop over related lists. -/
inductive StepRel {σ σ' : Type} (B : σ → σ' → Prop) : ForInStep σ → ForInStep σ' → Prop
  | done {b : σ} {b' : σ'} : B b b' → StepRel B (.done b) (.done b')
  | yield {b : σ} {b' : σ'} : B b b' → StepRel B (.yield b) (.yield b')
theorem Sim.forInList {σ σ' : Type} {A : Ren → α → β → Prop} {B : Ren → σ → σ' → Prop} (hA : ∀ R R₁ a a', Le R R₁ → A R a a' → A R₁ a a') (hB : ∀ R R₁ b b', Le R R₁ → B R b b' → B R₁ b b')
    {f : α → σ → Sem (ForInStep σ)} {f' : β → σ' → Sem (ForInStep σ')} : ∀ {l : List α} {l' : List β} {R : Ren}, LRel (A R) l l' → (∀ R₁, Le R R₁ → ∀ a a', A R₁ a a' → ∀ b b', B R₁ b b' → Sim ok T Fz FL FC R₁ (fun R => StepRel (B R)) (f a b) (f' a' b')) →
      ∀ {b : σ} {b' : σ'}, B R b b' → Sim ok T Fz FL FC R B (forIn l b f) (forIn l' b' f') := by
  intro l
  induction l with
  | nil => intro l' R h _ b b' hb; cases h; exact .pure fun _ k => hB _ _ _ _ k hb
  | cons a l ih =>
    intro l' R h hf b b' hb
    cases h with
    | cons ha h =>
      rw [List.forIn_cons, List.forIn_cons]
      refine (hf R (Le.refl _) _ _ ha _ _ hb).bind fun R₁ k s s' hs => ?_
      cases hs with
      | done hb => exact .pure fun _ k => hB _ _ _ _ k hb
      | yield hb => exact ih (h.imp fun _ _ x => hA _ _ _ _ k x) (fun R₂ k2 => hf R₂ (k.trans k2)) hb
theorem Sim.bytesToString {x x' : Value} (hx : VRel ok R x x') : Sim ok T Fz FL FC R (VRel ok) (Conv.bytesToString x) (Conv.bytesToString x') := by
  cases hx with
  | nilSlice n c => exact .val (.string _)
  | slice n c ha =>
    show Sim ok T Fz FL FC R (VRel ok) (Go.loadCells _ n >>= fun cs => forIn cs ByteArray.empty _ >>= fun s => Pure.pure (Value.string s)) (Go.loadCells _ n >>= fun cs => forIn cs ByteArray.empty _ >>= fun s => Pure.pure (Value.string s))
    refine (Sim.loadCells ha n).bind fun R₁ k c c' hc => ?_
    rw [← Array.forIn_toList, ← Array.forIn_toList]
    refine Sim.bind (A := Same) (Sim.forInList (A := VRel ok) (fun _ _ _ _ k h => h.mono k) (fun _ _ _ _ _ h => h) hc.toList ?_ rfl) fun R₂ k2 s s' e => by subst e; exact .val (.string _)
    intro R₂ k2 v v' hv b b' e
    subst e
    cases hv with
    | int kd n =>
      cases kd with
      | u8 => exact .pure fun _ _ => .yield rfl
      | _ => exact .stuck
    | _ => exact .stuck
  | _ => exact .stuck
theorem Sim.convert {src dst : TypeId} (h : okConv T src dst = true) {x x' : Value} (hx : VRel ok R x x') : Sim ok T Fz FL FC R (VRel ok) (Go.convert src dst x) (Go.convert src dst x') := by
  unfold Go.convert
  refine (Sim.underlying src).bind fun R₁ k d d' h1 => ?_
  refine (Sim.underlying dst).bind fun R₂ k2 e e' h2 => ?_
  obtain ⟨rfl, h1⟩ := h1
  obtain ⟨rfl, h2⟩ := h2
  have hx1 := (hx.mono k).mono k2
  unfold okConv at h
  dsimp only at h
  rw [show ({ toTables := T, funcs := #[] } : Program).underlying src = some d' from h1, show ({ toTables := T, funcs := #[] } : Program).underlying dst = some e' from h2] at h
  cases d' with
  | int kd =>
    cases e' with
    | int ke =>
      cases hx with
      | int => exact .val (.int _ _)
      | ptr => exact Sim.unsup (by simp)
      | _ => exact Sim.unsup (by simp)
    | _ => cases h
  | string =>
    cases e' with
    | string =>
      cases hx with
      | string => exact .val (.string _)
      | int => exact .val (.string _)
      | _ => exact Sim.unsup (by simp)
    | _ => cases h
  | slice el =>
    cases e' with
    | string =>
      dsimp only at h
      cases hu : ({ toTables := T, funcs := #[] } : Program).underlying el with
      | none => rw [hu] at h; cases h
      | some u =>
        rw [hu] at h
        cases u with
        | int ku =>
          cases ku <;> first
            | (cases h; done)
            | (cases hx with
               | int => exact .val (.string _)
               | string => exact .val (.string _)
               | _ =>
                 refine (Sim.underlying el).bind fun R₃ k3 g g' h3 => ?_
                 obtain ⟨rfl, h3⟩ := h3
                 obtain rfl : g' = .int .u8 := Option.some.inj (h3.symm.trans hu)
                 exact Sim.bytesToString (hx1.mono k3))
        | _ => cases h
    | _ => cases h
  | _ => cases h
end
end Go.Proofs.Ytgkakgibgfehaaa.Sim

namespace Go.Proofs.Ytgkakgibgfehaaa.Sim
section
variable {ok : Cx} {T : Tables} {Fz : Fr} {FL FC : Array Func} {R : Ren} {α β : Type}

theorem Sim.alloc {e : TypeId} (h : okZero ok T e = true) : Sim ok T Fz FL FC R (VRel ok) (Instr.alloc e true (.tuple #[])) (Instr.alloc e true (.tuple #[])) := by
  unfold Instr.alloc
  refine (Sim.zeroValue h).bind fun R₁ k v v' hv => ?_
  exact (Sim.newVar e hv).bind fun R₂ k2 a a' ha => .val (.ptr ha)
theorem Sim.box (e : TypeId) {v v' : Value} (hv : VRel ok R v v') : Sim ok T Fz FL FC R (VRel ok) (Instr.box e v) (Instr.box e v') := by
  unfold Instr.box
  exact (Sim.newVar e hv).bind fun R₂ k2 a a' ha => .val (.ptr ha)
theorem Sim.loadAt (t : TypeId) {v v' : Value} (hv : VRel ok R v v') : Sim ok T Fz FL FC R (VRel ok) (Instr.loadAt t v) (Instr.loadAt t v') := by
  unfold Instr.loadAt
  exact (Sim.sureAddr hv).bind fun R₁ k a a' ha => Sim.loadVar t ha
theorem Sim.storeAt (t : TypeId) {v v' x x' : Value} (hv : VRel ok R v v') (hx : VRel ok R x x') : Sim ok T Fz FL FC R (fun _ _ _ => True) (Instr.storeAt t v x) (Instr.storeAt t v' x') := by
  unfold Instr.storeAt
  exact (Sim.sureAddr hv).bind fun R₁ k a a' ha => Sim.storeVar t ha (hx.mono k)
theorem Sim.fieldAt {s : TypeId} {f : Nat} (hs : okField T s f = true) {v v' : Value} (hv : VRel ok R v v') : Sim ok T Fz FL FC R (VRel ok) (Instr.fieldAt s v f) (Instr.fieldAt s v' f) := by
  unfold Instr.fieldAt
  refine (Sim.underlying s).bind fun R₁ k d d' h => ?_
  obtain ⟨rfl, h⟩ := h
  cases d' with
  | struct fs =>
    dsimp only
    cases hf : fs[f]? with
    | none => exact .stuck
    | some fd =>
      refine (Sim.sureAddr (hv.mono k)).bind fun R₂ k2 a a' ha => ?_
      refine Sim.bind (A := ARel ok) ?_ fun R₃ k3 b b' hb => .val (.ptr hb)
      unfold Go.fieldPlace Go.sizeOf
      refine Sim.bind (A := fun _ n n' => n' = n ∧ n ≠ 0) ?_ fun R₃ k3 n n' e => ?_
      · refine (Sim.typeInfo fd.type).bind fun R₃ k3 i i' hi => ?_
        obtain ⟨rfl, hi⟩ := hi
        unfold okField at hs
        rw [show ({ toTables := T, funcs := #[] } : Program).underlying s = some (.struct fs) from h] at hs
        dsimp only at hs
        rw [hf] at hs
        dsimp only at hs
        rw [hi] at hs
        exact .pure fun _ _ => ⟨rfl, by simpa using hs⟩
      obtain ⟨rfl, hn⟩ := e
      rw [if_neg hn, if_neg hn]
      exact .pure fun R₄ k4 => (ha.mono (k3.trans k4)).add _
  | _ => exact .stuck
theorem Sim.field (t : TypeId) {v v' : Value} (hv : VRel ok R v v') (f : Nat) : Sim ok T Fz FL FC R (VRel ok) (Instr.field t v f) (Instr.field t v' f) := by
  unfold Instr.field
  refine (Sim.underlying t).bind fun R₁ k d d' h => ?_
  obtain ⟨rfl, _⟩ := h
  cases d' with
  | struct fs =>
    dsimp only
    cases hf : fs[f]? with
    | none => exact .stuck
    | some fd => exact (Sim.asAgg (hv.mono k)).bind fun R₂ k2 c c' hc => Sim.part _ hc _
  | _ => exact .stuck
theorem Sim.indexAt (t : TypeId) {x x' y y' : Value} (hx : VRel ok R x x') (hy : VRel ok R y y') : Sim ok T Fz FL FC R (VRel ok) (Instr.indexAt t x y) (Instr.indexAt t x' y') := by
  unfold Instr.indexAt
  refine (Sim.asIntOf hy).bind fun R₁ k p p' e => ?_
  subst e
  obtain ⟨kd, i⟩ := p'
  dsimp only
  refine (Sim.underlying t).bind fun R₂ k2 d d' h => ?_
  obtain ⟨rfl, _⟩ := h
  have hx2 := (hx.mono k).mono k2
  have fin : ∀ {R₃ : Ren} (b b' : Option Addr) (len : Nat) (el : TypeId), ((b = none ∧ b' = none) ∨ ∃ a a', b = some a ∧ b' = some a' ∧ ARel ok R₃ a a') →
      Sim ok T Fz FL FC R₃ (VRel ok)
        (do
          let tiny := len ≤ 1 && (match ← Go.underlying t with | .array .. => true | _ => false)
          match b with
          | some a =>
            if 0 ≤ i ∧ i < len then Pure.pure (Value.pointer (some (a.add (i.toNat * (← Go.sizeOf el)))))
            else if tiny then Go.unsupported (.noEntry "op/indexAddr.an index out of range at an array of length 0 or 1 (ledger 616)")
            else Go.boundsPanic kd i len .index
          | none => Go.boundsPanic kd i 0 .index)
        (do
          let tiny := len ≤ 1 && (match ← Go.underlying t with | .array .. => true | _ => false)
          match b' with
          | some a =>
            if 0 ≤ i ∧ i < len then Pure.pure (Value.pointer (some (a.add (i.toNat * (← Go.sizeOf el)))))
            else if tiny then Go.unsupported (.noEntry "op/indexAddr.an index out of range at an array of length 0 or 1 (ledger 616)")
            else Go.boundsPanic kd i len .index
          | none => Go.boundsPanic kd i 0 .index) := by
    intro R₃ b b' len el hb
    refine (Sim.underlying t).bind fun R₄ k4 d d' h => ?_
    obtain ⟨rfl, _⟩ := h
    dsimp only
    rcases hb with ⟨rfl, rfl⟩ | ⟨a, a', rfl, rfl, ha⟩
    · exact Sim.boundsPanic _ _ _ _
    · refine .ite Iff.rfl (fun _ => ?_) (fun _ => ?_)
      · refine (Sim.sizeOf el).bind fun R₅ k5 n n' e => ?_
        subst e
        exact .val (.ptr ((ha.mono (k4.trans k5)).add _))
      · exact .ite Iff.rfl (fun _ => Sim.unsup (by simp)) (fun _ => Sim.boundsPanic _ _ _ _)
  cases d' with
  | array len el =>
    refine Sim.bind (A := ARel ok) (Sim.sureAddr hx2) fun R₃ k3 a a' ha => ?_
    exact fin (some a) (some a') len el (.inr ⟨_, _, rfl, rfl, ha⟩)
  | slice el =>
    cases hx with
    | nilSlice n c => exact fin none none n el (.inl ⟨rfl, rfl⟩)
    | slice n c ha => exact fin (some _) (some _) n el (.inr ⟨_, _, rfl, rfl, ha.mono (k.trans k2)⟩)
    | _ => exact .stuck
  | _ => exact .stuck
theorem Sim.index (t : TypeId) {x x' y y' : Value} (hx : VRel ok R x x') (hy : VRel ok R y y') : Sim ok T Fz FL FC R (VRel ok) (Instr.index t x y) (Instr.index t x' y') := by
  unfold Instr.index
  refine (Sim.asIntOf hy).bind fun R₁ k p p' e => ?_
  subst e
  obtain ⟨kd, i⟩ := p'
  dsimp only
  refine (Sim.underlying t).bind fun R₂ k2 d d' h => ?_
  obtain ⟨rfl, _⟩ := h
  cases d' with
  | array len el =>
    cases hx with
    | agg s h =>
      refine .ite Iff.rfl (fun _ => ?_) (fun _ => Sim.boundsPanic _ _ _ _)
      refine (Sim.sizeOf el).bind fun R₃ k3 n n' e => ?_
      subst e
      exact Sim.part _ (Rows.mono (k.trans (k2.trans k3)) ⟨s, h⟩) _
    | _ => exact .stuck
  | string =>
    cases hx with
    | string s =>
      dsimp only
      split
      · exact .val (.int _ _)
      · exact Sim.boundsPanic _ _ _ _
    | _ => exact .stuck
  | _ => exact .stuck
theorem Sim.extract {x x' : Value} (hx : VRel ok R x x') (i : Nat) : Sim ok T Fz FL FC R (VRel ok) (Instr.extract x i) (Instr.extract x' i) := by
  cases hx with
  | tuple s h =>
    rename_i c c'
    unfold Instr.extract
    dsimp only
    cases hc : c[i]? with
    | none => exact .stuck
    | some v =>
      obtain ⟨v', hv', hv⟩ := Rows.get ⟨s, h⟩ hc
      rw [hv']
      exact .val hv
  | _ => exact .stuck
theorem Sim.makeInterface (t : TypeId) {x x' : Value} (hx : VRel ok R x x') : Sim ok T Fz FL FC R (VRel ok) (Instr.makeInterface t x) (Instr.makeInterface t x') := by
  unfold Instr.makeInterface
  refine (Sim.underlying t).bind fun R₁ k d d' h => ?_
  obtain ⟨rfl, _⟩ := h
  cases d' <;> first | exact .stuck | exact .val (.iface t (hx.mono k))
theorem Sim.sliceBound {x x' : Value} (hx : VRel ok R x x') (y : Nat) (c : BoundsCode) : Sim ok T Fz FL FC R Same (Instr.sliceBound x y c) (Instr.sliceBound x' y c) := by
  unfold Instr.sliceBound
  refine (Sim.asIntOf hx).bind fun R₁ k p p' e => ?_
  subst e
  obtain ⟨kd, i⟩ := p'
  exact .ite Iff.rfl (fun _ => .same) (fun _ => Sim.boundsPanic _ _ _ _)
/-- Optional operands. -/
inductive ORel {α β : Type} (A : α → β → Prop) : Option α → Option β → Prop
  | none : ORel A none none
  | some {a : α} {b : β} : A a b → ORel A (some a) (some b)
theorem ORel.imp {α β : Type} {A B : α → β → Prop} (h : ∀ a b, A a b → B a b) {x : Option α} {y : Option β} (k : ORel A x y) : ORel B x y := by
  cases k with
  | none => exact .none
  | some k => exact .some (h _ _ k)
theorem bounds_eq (isSlice : Bool) (len cap : Nat) (l h m : Option Value) : Instr.sliceBounds isSlice len cap l h m =
    ((match m with
      | some v => Instr.sliceBound v cap (if isSlice then .slice3Acap else .slice3Alen)
      | none => Pure.pure cap) >>= fun m1 =>
     (match h, m with
      | some v, some _ => Instr.sliceBound v m1 .slice3B
      | some v, none => Instr.sliceBound v m1 (if isSlice then .sliceAcap else .sliceAlen)
      | none, none => Pure.pure len
      | none, some _ => Go.stuck "Slice: max without high") >>= fun h1 =>
     (match l with
      | some v => Instr.sliceBound v h1 (if m.isSome then .slice3C else .sliceB)
      | none => Pure.pure 0) >>= fun l1 => Pure.pure (l1, h1, m1)) := by
  cases l <;> cases h <;> cases m <;> rfl
theorem Sim.sliceBounds (isSlice : Bool) (len cap : Nat) {l l' h h' m m' : Option Value} (hl : ORel (VRel ok R) l l') (hh : ORel (VRel ok R) h h') (hm : ORel (VRel ok R) m m') :
    Sim ok T Fz FL FC R Same (Instr.sliceBounds isSlice len cap l h m) (Instr.sliceBounds isSlice len cap l' h' m') := by
  rw [bounds_eq, bounds_eq]
  have e1 : m'.isSome = m.isSome := by cases hm <;> rfl
  refine Sim.bind (A := Same) ?_ fun R₁ k1 x x' e => ?_
  · cases hm with
    | none => exact .same
    | some hv => exact Sim.sliceBound hv _ _
  subst e
  refine Sim.bind (A := Same) ?_ fun R₂ k2 y y' e => ?_
  · cases hh with
    | none =>
      cases hm with
      | none => exact .same
      | some hv => exact .stuck
    | some hw =>
      cases hm with
      | none => exact Sim.sliceBound (hw.mono k1) _ _
      | some hv => exact Sim.sliceBound (hw.mono k1) _ _
  subst e
  refine Sim.bind (A := Same) ?_ fun R₃ k3 z z' e => by subst e; exact .same
  rw [e1]
  cases hl with
  | none => exact .same
  | some hv => exact Sim.sliceBound (hv.mono (k1.trans k2)) _ _
theorem Sim.slice (t : TypeId) {x x' : Value} (hx : VRel ok R x x') {l l' h h' m m' : Option Value} (hl : ORel (VRel ok R) l l') (hh : ORel (VRel ok R) h h') (hm : ORel (VRel ok R) m m') :
    Sim ok T Fz FL FC R (VRel ok) (Instr.slice t x l h m) (Instr.slice t x' l' h' m') := by
  unfold Instr.slice
  refine (Sim.underlying t).bind fun R₁ k d d' hd => ?_
  obtain ⟨rfl, _⟩ := hd
  have e1 : m'.isSome = m.isSome := by cases hm <;> rfl
  have hl1 := hl.imp fun _ _ x => VRel.mono k x
  have hh1 := hh.imp fun _ _ x => VRel.mono k x
  have hm1 := hm.imp fun _ _ x => VRel.mono k x
  cases d' with
  | string =>
    cases hx with
    | string s =>
      dsimp only
      rw [e1]
      refine .ite Iff.rfl (fun _ => ?_) (fun _ => ?_)
      · exact Sim.bindHalt fun R₂ _ w w' _ => ⟨_, _, rfl, trivial, by simp⟩
      · refine (Sim.sliceBounds false s.size s.size hl1 hh1 .none).bind fun R₂ k2 p p' e => ?_
        subst e
        exact .val (.string _)
    | _ => exact .stuck
  | slice el =>
    cases hx with
    | nilSlice n c =>
      refine (Sim.sliceBounds true n c hl1 hh1 hm1).bind fun R₂ k2 p p' e => ?_
      subst e
      refine (Sim.sizeOf el).bind fun R₃ k3 s s' e => ?_
      subst e
      obtain ⟨p1, p2, p3⟩ := p'
      dsimp only
      split <;> exact .val (.nilSlice _ _)
    | slice n c ha =>
      refine (Sim.sliceBounds true n c hl1 hh1 hm1).bind fun R₂ k2 p p' e => ?_
      subst e
      refine (Sim.sizeOf el).bind fun R₃ k3 s s' e => ?_
      subst e
      obtain ⟨p1, p2, p3⟩ := p'
      have ha3 := ha.mono (k.trans (k2.trans k3))
      dsimp only
      split
      · exact .val (.slice _ _ ha3)
      · exact .val (.slice _ _ (ha3.add _))
    | _ => exact .stuck
  | pointer arr =>
    refine Sim.bind (A := ARel ok) (Sim.asAddr (hx.mono k)) fun R₂ k2 a a' ha => ?_
    refine (Sim.underlying arr).bind fun R₃ k3 d d' hd => ?_
    obtain ⟨rfl, _⟩ := hd
    cases d' with
    | array n el =>
      refine (Sim.sliceBounds false n n (hl1.imp fun _ _ x => VRel.mono (k2.trans k3) x) (hh1.imp fun _ _ x => VRel.mono (k2.trans k3) x) (hm1.imp fun _ _ x => VRel.mono (k2.trans k3) x)).bind fun R₄ k4 p p' e => ?_
      subst e
      refine (Sim.sizeOf el).bind fun R₅ k5 s s' e => ?_
      subst e
      obtain ⟨p1, p2, p3⟩ := p'
      have ha3 := ha.mono (k3.trans (k4.trans k5))
      dsimp only
      split
      · exact .val (.slice _ _ ha3)
      · exact .val (.slice _ _ (ha3.add _))
    | _ => exact .stuck
  | _ => exact .stuck
theorem Sim.sliceAt (t : TypeId) {x x' : Value} (hx : VRel ok R x x') {l l' h h' m m' : Option Value} (hl : ORel (VRel ok R) l l') (hh : ORel (VRel ok R) h h') (hm : ORel (VRel ok R) m m') :
    Sim ok T Fz FL FC R (VRel ok) (Instr.sliceAt t x l h m) (Instr.sliceAt t x' l' h' m') := by
  unfold Instr.sliceAt
  refine (Sim.underlying t).bind fun R₁ k d d' hd => ?_
  obtain ⟨rfl, _⟩ := hd
  have hl1 := hl.imp fun _ _ x => VRel.mono k x
  have hh1 := hh.imp fun _ _ x => VRel.mono k x
  have hm1 := hm.imp fun _ _ x => VRel.mono k x
  cases d' with
  | array n el =>
    refine (Sim.sureAddr (hx.mono k)).bind fun R₂ k2 a a' ha => ?_
    refine (Sim.sliceBounds false n n (hl1.imp fun _ _ x => VRel.mono k2 x) (hh1.imp fun _ _ x => VRel.mono k2 x) (hm1.imp fun _ _ x => VRel.mono k2 x)).bind fun R₄ k4 p p' e => ?_
    subst e
    refine (Sim.sizeOf el).bind fun R₅ k5 s s' e => ?_
    subst e
    obtain ⟨p1, p2, p3⟩ := p'
    have ha3 := ha.mono (k4.trans k5)
    dsimp only
    split
    · exact .val (.slice _ _ ha3)
    · exact .val (.slice _ _ (ha3.add _))
  | _ => exact (Sim.slice t hx hl hh hm).mono k
end
end Go.Proofs.Ytgkakgibgfehaaa.Sim
