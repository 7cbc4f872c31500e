/-
  'Sim' (SimB) of the operations, one by one: composite literals, new slices, panics, built-in functions.
  'Sim' (SimB) of 'append'.
  'Sim' (SimB) of calls, of what a range over a function does, and of every operation that the code may hold ('sim_oper').
-/
import Derived.Test.YtgkakgibgfehaaaSh10
namespace Go.Proofs.Ytgkakgibgfehaaa.Sim
section
variable {ok : Cx} {T : Tables} {Fz : Fr} {FL FC : Array Func} {R : Ren} {α β : Type}

theorem zip_rel : ∀ {l l' : List Value} (_ : LRel (VRel ok R) l l') (off k : Nat) {c c' : Array Value} (_ : Rows ok R c c'),
    Rows ok R ((l.zipIdx k).foldl (fun cs x => cs.setIfInBounds (off + x.2) x.1) c) ((l'.zipIdx k).foldl (fun cs x => cs.setIfInBounds (off + x.2) x.1) c') := by
  intro l
  induction l with
  | nil => intro l' h off k c c' hc; cases h; exact hc
  | cons v l ih =>
    intro l' h off k c c' hc
    cases h with
    | cons hv h =>
      simp only [List.zipIdx_cons, List.foldl_cons]
      exact ih h off (k + 1) (hc.set _ hv)
theorem fill_rel (place : Nat → Option (Nat × Nat)) : ∀ {l l' : List (Nat × Value)} (_ : LRel (fun p p' => p'.1 = p.1 ∧ VRel ok R p.2 p'.2) l l') {c c' : Array Value} (_ : Rows ok R c c'),
    ORel (Rows ok R) (Instr.fill place c l) (Instr.fill place c' l') := by
  intro l
  induction l with
  | nil => intro l' h c c' hc; cases h; exact .some hc
  | cons p l ih =>
    intro l' h c c' hc
    cases h with
    | @cons _ p' _ _ hp h =>
      obtain ⟨i, v⟩ := p
      obtain ⟨i', v'⟩ := p'
      obtain ⟨rfl, hv⟩ := hp
      have hr := Rows.cells hv
      simp only [Instr.fill]
      cases place i' with
      | none => exact .none
      | some q =>
        obtain ⟨off, size⟩ := q
        simp only [hr.1, hc.1]
        split
        · exact .none
        · refine ih h ?_
          have e : ∀ (a b : Array Value), (a.zipIdx.foldl (fun cs x => cs.setIfInBounds (off + x.2) x.1) b) = ((a.toList.zipIdx 0).foldl (fun cs x => cs.setIfInBounds (off + x.2) x.1) b) := by
            intro a b
            rw [← Array.foldl_toList, Array.toList_zipIdx]
          have := zip_rel (ok := ok) hr.toList off 0 hc
          rw [← e, ← e] at this
          exact this
theorem Sim.mapM {γ δ : Type} {f : γ → Sem δ} (hf : ∀ (R : Ren) x, Sim ok T Fz FL FC R Same (f x) (f x)) (l : List γ) {R : Ren} : Sim ok T Fz FL FC R Same (l.mapM f) (l.mapM f) := by
  induction l generalizing R with
  | nil => exact .same
  | cons x l ih =>
    rw [List.mapM_cons]
    exact (hf _ x).bind fun R₁ _ a a' e => by subst e; exact ih.bind fun R₂ _ b b' e => by subst e; exact .same
theorem Sim.mapA {γ δ : Type} {f : γ → Sem δ} (hf : ∀ (R : Ren) x, Sim ok T Fz FL FC R Same (f x) (f x)) (l : Array γ) : Sim ok T Fz FL FC R Same (l.mapM f) (l.mapM f) := by
  rw [Array.mapM_eq_mapM_toList]
  show Sim ok T Fz FL FC R Same (l.toList.mapM f >>= fun x => Pure.pure x.toArray) (l.toList.mapM f >>= fun x => Pure.pure x.toArray)
  exact (Sim.mapM hf l.toList).bind fun R₁ _ a a' e => by subst e; exact .same
/-- Parts of a literal. -/
def Parts (ok : Cx) (R : Ren) (p p' : Array (Nat × Value)) : Prop := LRel (fun x y => y.1 = x.1 ∧ VRel ok R x.2 y.2) p.toList p'.toList
theorem Parts.mono {R₁ : Ren} (h : Le R R₁) {p p' : Array (Nat × Value)} (k : Parts ok R p p') : Parts ok R₁ p p' := LRel.imp (fun _ _ x => ⟨x.1, x.2.mono h⟩) k
theorem Sim.build {t : TypeId} (ht : okZero ok T t = true) {p p' : Array (Nat × Value)} (hp : Parts ok R p p') : Sim ok T Fz FL FC R (VRel ok) (Instr.build t p) (Instr.build t p') := by
  unfold Instr.build
  refine (Sim.zeroValue ht).bind fun R₁ k z z' hz => ?_
  refine (Sim.underlying t).bind fun R₂ k2 d d' hd => ?_
  obtain ⟨rfl, _⟩ := hd
  have hz2 := Rows.cells (hz.mono k2)
  cases d' with
  | struct fs =>
    refine Sim.bind (A := Same) (Sim.mapA (fun R x => (Sim.sizeOf _).bind fun R₁ _ a a' e => by subst e; exact .same) _) fun R₃ k3 ps ps' e => ?_
    subst e
    have := fill_rel (fun i => ps'[i]?) (hp.mono (k.trans (k2.trans k3))) (hz2.mono k3)
    cases h1 : Instr.fill (fun i => ps'[i]?) z.cells p.toList with
    | none => exact .stuck
    | some c =>
      rw [h1] at this
      cases h2 : Instr.fill (fun i => ps'[i]?) z'.cells p'.toList with
      | none => rw [h2] at this; cases this
      | some c' => rw [h2] at this; cases this with | some h => exact .val (.aggR h)
  | array n el =>
    refine (Sim.sizeOf el).bind fun R₃ k3 n n' e => ?_
    subst e
    have := fill_rel (fun i => some (i * n', n')) (hp.mono (k.trans (k2.trans k3))) (hz2.mono k3)
    cases h1 : Instr.fill (fun i => some (i * n', n')) z.cells p.toList with
    | none => exact .stuck
    | some c =>
      rw [h1] at this
      cases h2 : Instr.fill (fun i => some (i * n', n')) z'.cells p'.toList with
      | none => rw [h2] at this; cases this
      | some c' => rw [h2] at this; cases this with | some h => exact .val (.aggR h)
  | _ => exact .stuck
theorem spread_rel {c c' : Array Value} (h : Rows ok R c c') (n : Nat) : Rows ok R ((Array.range n).map (c[· % c.size]!)) ((Array.range n).map (c'[· % c'.size]!)) := by
  refine ⟨by simp, fun i v v' hv hv' => ?_⟩
  have key : VRel ok R (c[i % c.size]!) (c'[i % c'.size]!) := by
    rw [h.1]
    rcases Nat.eq_zero_or_pos c.size with h0 | hc
    · have e1 : c = #[] := Array.eq_empty_of_size_eq_zero h0
      have e2 : c' = #[] := Array.eq_empty_of_size_eq_zero (by rw [h.1]; exact h0)
      subst e1 e2
      exact .bool _
    · have hlt : i % c.size < c.size := Nat.mod_lt _ hc
      have hlt' : i % c.size < c'.size := by rw [h.1]; exact hlt
      refine h.2 (i % c.size) _ _ ?_ ?_
      · simp [hlt]
      · simp [hlt']
  simp only [Array.getElem?_map, Array.getElem?_range] at hv hv'
  by_cases hi : i < n
  · simp only [hi, if_true, Option.map_some, Option.some.injEq] at hv hv'
    subst hv hv'
    exact key
  · simp [hi] at hv
theorem elem_ok {t e : TypeId} (h : okElem ok T t = true) (hd : ({ toTables := T, funcs := #[] } : Program).underlying t = some (.slice e)) : okZero ok T e = true := by
  unfold okElem at h
  rw [hd] at h
  exact h
theorem Sim.buildSlice {t : TypeId} (ht : okElem ok T t = true) (len : Nat) {p p' : Array (Nat × Value)} (hp : Parts ok R p p') : Sim ok T Fz FL FC R (VRel ok) (Instr.buildSlice t len p) (Instr.buildSlice t len p') := by
  unfold Instr.buildSlice
  refine (Sim.underlying t).bind fun R₂ k2 d d' hd => ?_
  obtain ⟨rfl, hd⟩ := hd
  cases d' with
  | slice e =>
    refine (Sim.sizeOf e).bind fun R₃ k3 n n' e => ?_
    subst e
    dsimp only
    refine .ite Iff.rfl (fun _ => ?_) (fun _ => ?_)
    · exact Sim.bindHalt fun R₂ _ w w' _ => ⟨_, _, rfl, trivial, by simp⟩
    · have hz := elem_ok ht hd
      have fin : ∀ {R₄ : Ren} (_ : Le R₃ R₄) {z z' : Array Value} (_ : Rows ok R₄ z z'), Sim ok T Fz FL FC R₄ (VRel ok)
          (match Instr.fill (fun i => some (i * n', n')) ((Array.range (len * n')).map (z[· % z.size]!)) p.toList with
            | some cells => do Pure.pure (Value.slice (some (← Go.newRow e cells)) len len)
            | _ => Go.stuck "buildSlice: a part of the wrong size")
          (match Instr.fill (fun i => some (i * n', n')) ((Array.range (len * n')).map (z'[· % z'.size]!)) p'.toList with
            | some cells => do Pure.pure (Value.slice (some (← Go.newRow e cells)) len len)
            | _ => Go.stuck "buildSlice: a part of the wrong size") := by
        intro R₄ k4 z z' hz
        have := fill_rel (fun i => some (i * n', n')) (hp.mono (k2.trans (k3.trans k4))) (spread_rel hz (len * n'))
        cases h1 : Instr.fill (fun i => some (i * n', n')) ((Array.range (len * n')).map (z[· % z.size]!)) p.toList with
        | none => exact .stuck
        | some c =>
          rw [h1] at this
          cases h2 : Instr.fill (fun i => some (i * n', n')) ((Array.range (len * n')).map (z'[· % z'.size]!)) p'.toList with
          | none => rw [h2] at this; cases this
          | some c' =>
            rw [h2] at this
            cases this with
            | some h => exact (Sim.newRow e h).bind fun R₅ k5 a a' ha => .val (.slice _ _ ha)
      refine .ite Iff.rfl (fun _ => ?_) (fun _ => ?_)
      · exact fin (Le.refl _) .empty
      · exact (Sim.zeroValue hz).bind fun R₄ k4 v v' hv => fin k4 (Rows.cells hv)
  | _ => exact .stuck
theorem Sim.makeSlice {t : TypeId} (ht : okElem ok T t = true) {l l' c c' : Value} (hl : VRel ok R l l') (hc : VRel ok R c c') : Sim ok T Fz FL FC R (VRel ok) (Instr.makeSlice t l c) (Instr.makeSlice t l' c') := by
  unfold Instr.makeSlice
  refine (Sim.underlying t).bind fun R₁ k1 d d' hd => ?_
  obtain ⟨rfl, hd⟩ := hd
  cases d' with
  | slice e =>
    refine (Sim.asInt (hl.mono k1)).bind fun R₂ k2 n n' e => ?_
    subst e
    refine (Sim.asInt (hc.mono (k1.trans k2))).bind fun R₃ k3 m m' e => ?_
    subst e
    refine (Sim.typeInfo e).bind fun R₄ k4 i i' h => ?_
    obtain ⟨rfl, _⟩ := h
    have hz := elem_ok ht hd
    dsimp only
    refine .ite Iff.rfl (fun _ => ?_) (fun _ => ?_)
    · refine .ite Iff.rfl (fun _ => ?_) (fun _ => ?_)
      · exact Sim.bind (A := fun _ _ _ => False) (Sim.runtimePanic (e := .error _) rfl) fun _ _ _ _ h => h.elim
      · refine .ite Iff.rfl (fun _ => ?_) (fun _ => ?_)
        · exact Sim.bind (A := fun _ _ _ => False) (Sim.runtimePanic (e := .error _) rfl) fun _ _ _ _ h => h.elim
        · refine (Sim.choose _).bind fun R₅ k5 q q' e => ?_
          subst e
          exact Sim.bind (A := fun _ _ _ => False) (Sim.runtimePanic (e := .error _) rfl) fun _ _ _ _ h => h.elim
    · refine (Sim.askRoom _).bind fun R₅ k5 _ _ _ => ?_
      refine (Sim.sizeOf e).bind fun R₆ k6 s s' e => ?_
      subst e
      have fin : ∀ {R₇ : Ren} (x : Nat) {z z' : Array Value} (_ : Rows ok R₇ z z'), Sim ok T Fz FL FC R₇ (VRel ok)
          (do Pure.pure (Value.slice (some (← Go.newRow e ((Array.range x).map (z[· % z.size]!)))) (IntKind.i64.wrap n').toNat (IntKind.i64.wrap m').toNat))
          (do Pure.pure (Value.slice (some (← Go.newRow e ((Array.range x).map (z'[· % z'.size]!)))) (IntKind.i64.wrap n').toNat (IntKind.i64.wrap m').toNat)) := by
        intro R₇ x z z' h
        exact (Sim.newRow e (spread_rel h x)).bind fun R₅ k5 a a' ha => .val (.slice _ _ ha)
      refine .ite Iff.rfl (fun _ => ?_) (fun _ => ?_)
      · exact fin _ .empty
      · exact (Sim.zeroValue hz).bind fun R₄ k4 v v' hv => fin _ (Rows.cells hv)
  | _ => exact .stuck

/-! ### built-in functions -/
theorem Sim.len (ts : Array TypeId) (t : TypeId) {c c' : Array Value} (hc : Rows ok R c c') : Sim ok T Fz FL FC R (VRel ok) (Builtin.len_ ts t c) (Builtin.len_ ts t c') := by
  unfold Builtin.len_
  cases ts[0]? with
  | none => exact .stuck
  | some u =>
    cases h : c[0]? with
    | none => exact .stuck
    | some x =>
      obtain ⟨x', hx', hx⟩ := hc.get h
      rw [hx']
      refine (Sim.underlying u).bind fun R₁ k1 d d' hd => ?_
      obtain ⟨rfl, _⟩ := hd
      have arr : ∀ arr : TypeId, Sim ok T Fz FL FC R₁ (VRel ok) (do
          let .array n _ ← Go.underlying arr | Go.stuck "len: pointer to array expected"
          Pure.pure (goInt n)) (do
          let .array n _ ← Go.underlying arr | Go.stuck "len: pointer to array expected"
          Pure.pure (goInt n)) := by
        intro arr
        refine (Sim.underlying arr).bind fun R₂ k2 d d' hd => ?_
        obtain ⟨rfl, _⟩ := hd
        cases d' <;> first | exact .val (.int _ _) | exact .stuck
      cases d' with
      | array n e => exact .val (.int _ _)
      | pointer e => exact arr e
      | string => cases hx <;> first | exact .val (.int _ _) | exact .stuck
      | slice e => cases hx <;> first | exact .val (.int _ _) | exact .stuck
      | map a b =>
        cases hx with
        | nilMap => exact .val (.int _ _)
        | map hr =>
          refine (Sim.getObj (k1 _ _ hr)).bind fun R₂ k2 o o' h => ?_
          cases h.1 <;> exact .stuck
        | _ => exact .stuck
      | chan a b => cases hx <;> exact .stuck
      | _ => cases hx <;> exact .stuck
theorem Sim.cap (ts : Array TypeId) (t : TypeId) {c c' : Array Value} (hc : Rows ok R c c') : Sim ok T Fz FL FC R (VRel ok) (Builtin.cap_ ts t c) (Builtin.cap_ ts t c') := by
  unfold Builtin.cap_
  cases ts[0]? with
  | none => exact .stuck
  | some u =>
    cases h : c[0]? with
    | none => exact .stuck
    | some x =>
      obtain ⟨x', hx', hx⟩ := hc.get h
      rw [hx']
      refine (Sim.underlying u).bind fun R₁ k1 d d' hd => ?_
      obtain ⟨rfl, _⟩ := hd
      have arr : ∀ arr : TypeId, Sim ok T Fz FL FC R₁ (VRel ok) (do
          let .array n _ ← Go.underlying arr | Go.stuck "cap: pointer to array expected"
          Pure.pure (goInt n)) (do
          let .array n _ ← Go.underlying arr | Go.stuck "cap: pointer to array expected"
          Pure.pure (goInt n)) := by
        intro arr
        refine (Sim.underlying arr).bind fun R₂ k2 d d' hd => ?_
        obtain ⟨rfl, _⟩ := hd
        cases d' <;> first | exact .val (.int _ _) | exact .stuck
      cases d' with
      | array n e => exact .val (.int _ _)
      | pointer e => exact arr e
      | slice e => cases hx <;> first | exact .val (.int _ _) | exact .stuck
      | chan a b => cases hx <;> exact .stuck
      | _ => cases hx <;> exact .stuck
theorem Sim.max2 {x x' y y' : Value} (hx : VRel ok R x x') (hy : VRel ok R y y') : Sim ok T Fz FL FC R (VRel ok) (Builtin.max2 x y) (Builtin.max2 x' y') := by
  cases hx with
  | int k n => cases hy <;> first | exact .val (.int _ _) | exact Sim.unsup (by simp) | exact .stuck
  | string a =>
    cases hy with
    | string b => exact .val (.string _)
    | ptr => exact Sim.unsup (by simp)
    | _ => exact .stuck
  | ptr h => exact Sim.unsup (by simp)
  | _ => cases hy <;> first | exact Sim.unsup (by simp) | exact .stuck
theorem Sim.min2 {x x' y y' : Value} (hx : VRel ok R x x') (hy : VRel ok R y y') : Sim ok T Fz FL FC R (VRel ok) (Builtin.min2 x y) (Builtin.min2 x' y') := by
  cases hx with
  | int k n => cases hy <;> first | exact .val (.int _ _) | exact Sim.unsup (by simp) | exact .stuck
  | string a =>
    cases hy with
    | string b => exact .val (.string _)
    | ptr => exact Sim.unsup (by simp)
    | _ => exact .stuck
  | ptr h => exact Sim.unsup (by simp)
  | _ => cases hy <;> first | exact Sim.unsup (by simp) | exact .stuck
theorem Sim.foldlM {f : Value → Value → Sem Value} (hf : ∀ (R : Ren) x x' y y', VRel ok R x x' → VRel ok R y y' → Sim ok T Fz FL FC R (VRel ok) (f x y) (f x' y')) :
    ∀ {l l' : List Value} {R : Ren} (_ : LRel (VRel ok R) l l') {x x' : Value} (_ : VRel ok R x x'), Sim ok T Fz FL FC R (VRel ok) (l.foldlM f x) (l'.foldlM f x') := by
  intro l
  induction l with
  | nil => intro l' R h x x' hx; cases h; exact .val hx
  | cons y l ih =>
    intro l' R h x x' hx
    cases h with
    | cons hy h =>
      rw [List.foldlM_cons, List.foldlM_cons]
      exact (hf R _ _ _ _ hx hy).bind fun R₁ k z z' hz => ih (h.imp fun _ _ u => u.mono k) hz
theorem Sim.max (ts : Array TypeId) (t : TypeId) {c c' : Array Value} (hc : Rows ok R c c') : Sim ok T Fz FL FC R (VRel ok) (Builtin.max_ ts t c) (Builtin.max_ ts t c') := by
  unfold Builtin.max_
  have := hc.toList
  revert this
  generalize c.toList = l
  generalize c'.toList = l'
  intro h
  cases h with
  | nil => exact .stuck
  | cons hx h => exact Sim.foldlM (fun _ _ _ _ _ a b => Sim.max2 a b) h hx
theorem Sim.min (ts : Array TypeId) (t : TypeId) {c c' : Array Value} (hc : Rows ok R c c') : Sim ok T Fz FL FC R (VRel ok) (Builtin.min_ ts t c) (Builtin.min_ ts t c') := by
  unfold Builtin.min_
  have := hc.toList
  revert this
  generalize c.toList = l
  generalize c'.toList = l'
  intro h
  cases h with
  | nil => exact .stuck
  | cons hx h => exact Sim.foldlM (fun _ _ _ _ _ a b => Sim.min2 a b) h hx
end
end Go.Proofs.Ytgkakgibgfehaaa.Sim

namespace Go.Proofs.Ytgkakgibgfehaaa.Sim
section
variable {ok : Cx} {T : Tables} {Fz : Fr} {FL FC : Array Func} {R : Ren} {α β : Type}

theorem Sim.lenOf {x x' : Value} (hx : VRel ok R x x') : Sim ok T Fz FL FC R Same (Builtin.lenOf x) (Builtin.lenOf x') := by
  cases hx <;> first | exact .same | exact .stuck
theorem Sim.firstCells (size n : Nat) {x x' : Value} (hx : VRel ok R x x') : Sim ok T Fz FL FC R (Rows ok) (Builtin.firstCells size n x) (Builtin.firstCells size n x') := by
  cases hx with
  | nilSlice a b => exact .pure fun _ _ => .empty
  | slice a b ha => exact Sim.loadCells ha _
  | string s =>
    refine .pure fun R₁ _ => ⟨rfl, fun i v v' hv hv' => ?_⟩
    rw [hv] at hv'
    cases hv'
    obtain ⟨y, rfl⟩ : ∃ y : UInt8, v = .int .u8 y.toNat := by
      rw [Array.getElem?_map] at hv
      obtain ⟨y, _, e⟩ := Option.map_eq_some_iff.1 hv
      exact ⟨y, e.symm⟩
    exact .int _ _
  | _ => exact .stuck
theorem holds_run (P : Program) (a : Addr) (n : Nat) (w : World) : ∃ b, (Builtin.holdsCells a n).run P w = .ok b w := by
  unfold Builtin.holdsCells
  simp only [Sem.run_bind]
  show ∃ b, ((Result.ok (w.shape? a.block) w).andThen fun s w => Sem.run P (match s with | some (_, n') => Pure.pure (a.spot.isNone && decide (a.off + n ≤ n')) | none => Pure.pure false) w) = _
  simp only [Result.andThen]
  split <;> exact ⟨_, rfl⟩
theorem share_run (P : Program) (size sLen n : Nat) (base : Option Addr) (x : Value) (w : World) : ∃ b, (Builtin.mayShare size sLen n base x).run P w = .ok b w := by
  have tail : ∀ there : Bool, ∃ b, Sem.run P (do
      if !there then return true
      match x with
      | .slice (some b) _ _ => do Pure.pure (!(← Builtin.holdsCells b (n * size)) || base.any (·.block == b.block))
      | _ => Pure.pure false : Sem Bool) w = .ok b w := by
    intro there
    cases there with
    | false => exact ⟨true, rfl⟩
    | true =>
      cases x with
      | slice a l c =>
        cases a with
        | none => exact ⟨false, rfl⟩
        | some a =>
          obtain ⟨b, hb⟩ := holds_run P a (n * size) w
          refine ⟨!b || base.any (·.block == a.block), ?_⟩
          show Sem.run P (Builtin.holdsCells a (n * size) >>= fun y => Pure.pure (!y || base.any (·.block == a.block))) w = _
          simp only [Sem.run_bind, hb, Result.andThen]
          rfl
      | _ => exact ⟨false, rfl⟩
  cases base with
  | none =>
    obtain ⟨b, hb⟩ := tail true
    exact ⟨b, hb⟩
  | some a =>
    obtain ⟨b, hb⟩ := holds_run P a (sLen * size) w
    unfold Builtin.mayShare
    dsimp only
    simp only [Sem.run_bind, hb, Result.andThen]
    obtain ⟨c, hc⟩ := tail (b && !w.frozen? (a.add (sLen / 2 * size)))
    refine ⟨c, ?_⟩
    rw [← hc]
    rfl
theorem zeroCells_rel {c c' : Array Value} (h : Rows ok R c c') (n : Nat) : Rows ok R (Builtin.zeroCells c n) (Builtin.zeroCells c' n) := by
  unfold Builtin.zeroCells
  rw [h.1]
  have := spread_rel h (n * c.size)
  rw [h.1] at this
  exact this
theorem Sim.append {ts : Array TypeId} (hts : ts.all (okElem ok T) = true) (happ : okApp T ts = true) (t : TypeId) {c c' : Array Value} (hc : Rows ok R c c') :
    Sim ok T Fz FL FC R (VRel ok) (Builtin.append_ ts t c) (Builtin.append_ ts t c') := by
  unfold Builtin.append_
  cases h0 : ts[0]? with
  | none => exact .stuck
  | some sT =>
    cases h1 : c[0]? with
    | none => exact .stuck
    | some s =>
      obtain ⟨s', hs', hs⟩ := hc.get h1
      cases h2 : c[1]? with
      | none => exact .stuck
      | some x =>
        obtain ⟨x', hx', hx⟩ := hc.get h2
        rw [hs', hx']
        have hel : okElem ok T sT = true := by
          obtain ⟨hl, rfl⟩ := Array.getElem?_eq_some_iff.1 h0
          exact Array.all_eq_true.1 hts 0 hl
        dsimp only
        refine (Sim.underlying sT).bind fun R₁ k1 d d' hd => ?_
        obtain ⟨rfl, hd⟩ := hd
        cases d' with
        | slice e =>
          have hz := elem_ok hel hd
          dsimp only
          have shape : ∀ (Q : Value → Value → Prop), (∀ n m, Q (.slice none n m) (.slice none n m)) → (∀ a a' n m, ARel ok R a a' → Q (.slice (some a) n m) (.slice (some a') n m)) → (∃ base base' n m, s = .slice base n m ∧ s' = .slice base' n m ∧ ORel (ARel ok R) base base') ∨ ∀ b n m, s ≠ .slice b n m := by
            intro _ _ _
            cases hs with
            | nilSlice n m => exact .inl ⟨none, none, n, m, rfl, rfl, .none⟩
            | slice n m ha => exact .inl ⟨_, _, n, m, rfl, rfl, .some ha⟩
            | _ => exact .inr (by simp)
          rcases shape (fun _ _ => True) (fun _ _ => trivial) (fun _ _ _ _ _ => trivial) with ⟨base, base', sLen, sCap, rfl, rfl, hbase⟩ | hno
          · dsimp only
            refine (Sim.sizeOf e).bind fun R₂ k2 size size' e2 => ?_
            subst e2
            have k12 := k1.trans k2
            unfold okApp at happ
            cases h3 : ts[1]? with
            | none =>
              dsimp only
              refine Sim.bind (A := fun _ z z' => z = false ∧ z' = false) (.pure fun _ _ => ⟨rfl, rfl⟩) fun R₃ k3 z z' hzz => ?_
              obtain ⟨rfl, rfl⟩ := hzz
              simp only [Bool.false_eq_true, if_false, Bool.not_false, if_true, false_or]
              have k13 := k12.trans k3
              refine (Sim.lenOf (hx.mono k13)).bind fun R₄ k4 n n' e4 => ?_
              subst e4
              have k14 := k13.trans k4
              refine .ite Iff.rfl (fun _ => ?_) (fun _ => ?_)
              · refine (Sim.firstCells size' n' (hx.mono k14)).bind fun R₅ k5 d d' hd => ?_
                cases hbase with
                | none => exact .val (.nilSlice _ _)
                | some ha =>
                  refine (Sim.storeCells hd.toList 0 ((ha.mono (k14.trans k5)).add _)).bind fun R₆ k6 _ _ _ => ?_
                  exact .val (.slice _ _ (ha.mono ((k14.trans k5).trans k6)))
              · refine (Sim.typeInfo e).bind fun R₅ k5 i i' hi => ?_
                obtain ⟨rfl, _⟩ := hi
                refine .ite Iff.rfl (fun _ => ?_) (fun _ => ?_)
                · exact Sim.bind (A := fun _ _ _ => False) (Sim.runtimePanic (e := .error _) rfl) fun _ _ _ _ h => h.elim
                · refine (Sim.typeInfo e).bind fun R₆ k6 i i' hi => ?_
                  obtain ⟨rfl, _⟩ := hi
                  refine .ite Iff.rfl (fun _ => ?_) (fun _ => ?_)
                  · refine Sim.bindHalt fun R₇ _ w w' _ => ?_
                    obtain ⟨b, hb⟩ := share_run (prg T FL) size' sLen n' base x w
                    refine ⟨.unsupported (.resourceLimit "append: a slice or a string whose bytes no memory bears"), w, ?_, trivial, by simp⟩
                    simp only [Sem.run_bind, hb, Result.andThen]
                    cases b <;> rfl
                  · refine (Sim.choose _).bind fun R₇ k7 q q' e => ?_
                    subst e
                    refine (Sim.typeInfo e).bind fun R₈ k8 i i' hi => ?_
                    obtain ⟨rfl, _⟩ := hi
                    refine (Sim.askRoom _).bind fun R₉ k9 _ _ _ => ?_
                    have k19 := k14.trans (k5.trans (k6.trans (k7.trans (k8.trans k9))))
                    refine (Sim.firstCells size' sLen (hs.mono k19)).bind fun S₁ l1 d d' hd => ?_
                    refine (Sim.firstCells size' n' (hx.mono (k19.trans l1))).bind fun S₂ l2 f f' hf => ?_
                    refine (Sim.zeroValue hz).bind fun S₃ l3 v v' hv => ?_
                    refine (Sim.newRow e (((hd.mono (l2.trans l3)).append (hf.mono l3)).append (zeroCells_rel (Rows.cells hv) _))).bind fun S₄ l4 a a' ha => ?_
                    exact .val (.slice _ _ ha)
            | some u =>
              rw [h3] at happ
              dsimp only at happ ⊢
              refine (Sim.underlying u).bind fun R' k' d d' hd => ?_
              obtain ⟨rfl, hd⟩ := hd
              rw [show ({ toTables := T, funcs := #[] } : Program).underlying u = some d' from hd] at happ
              refine Sim.bind (A := fun _ z z' => z = false ∧ z' = false) (.pure fun _ _ => ?_) fun R₃ k3 z z' hzz => ?_
              · cases d' <;> first | exact ⟨rfl, rfl⟩ | cases happ
              replace k3 := k'.trans k3
              obtain ⟨rfl, rfl⟩ := hzz
              simp only [Bool.false_eq_true, if_false, Bool.not_false, if_true, false_or]
              have k13 := k12.trans k3
              refine (Sim.lenOf (hx.mono k13)).bind fun R₄ k4 n n' e4 => ?_
              subst e4
              have k14 := k13.trans k4
              refine .ite Iff.rfl (fun _ => ?_) (fun _ => ?_)
              · refine (Sim.firstCells size' n' (hx.mono k14)).bind fun R₅ k5 d d' hd => ?_
                cases hbase with
                | none => exact .val (.nilSlice _ _)
                | some ha =>
                  refine (Sim.storeCells hd.toList 0 ((ha.mono (k14.trans k5)).add _)).bind fun R₆ k6 _ _ _ => ?_
                  exact .val (.slice _ _ (ha.mono ((k14.trans k5).trans k6)))
              · refine (Sim.typeInfo e).bind fun R₅ k5 i i' hi => ?_
                obtain ⟨rfl, _⟩ := hi
                refine .ite Iff.rfl (fun _ => ?_) (fun _ => ?_)
                · exact Sim.bind (A := fun _ _ _ => False) (Sim.runtimePanic (e := .error _) rfl) fun _ _ _ _ h => h.elim
                · refine (Sim.typeInfo e).bind fun R₆ k6 i i' hi => ?_
                  obtain ⟨rfl, _⟩ := hi
                  refine .ite Iff.rfl (fun _ => ?_) (fun _ => ?_)
                  · refine Sim.bindHalt fun R₇ _ w w' _ => ?_
                    obtain ⟨b, hb⟩ := share_run (prg T FL) size' sLen n' base x w
                    refine ⟨.unsupported (.resourceLimit "append: a slice or a string whose bytes no memory bears"), w, ?_, trivial, by simp⟩
                    simp only [Sem.run_bind, hb, Result.andThen]
                    cases b <;> rfl
                  · refine (Sim.choose _).bind fun R₇ k7 q q' e => ?_
                    subst e
                    refine (Sim.typeInfo e).bind fun R₈ k8 i i' hi => ?_
                    obtain ⟨rfl, _⟩ := hi
                    refine (Sim.askRoom _).bind fun R₉ k9 _ _ _ => ?_
                    have k19 := k14.trans (k5.trans (k6.trans (k7.trans (k8.trans k9))))
                    refine (Sim.firstCells size' sLen (hs.mono k19)).bind fun S₁ l1 d d' hd => ?_
                    refine (Sim.firstCells size' n' (hx.mono (k19.trans l1))).bind fun S₂ l2 f f' hf => ?_
                    refine (Sim.zeroValue hz).bind fun S₃ l3 v v' hv => ?_
                    refine (Sim.newRow e (((hd.mono (l2.trans l3)).append (hf.mono l3)).append (zeroCells_rel (Rows.cells hv) _))).bind fun S₄ l4 a a' ha => ?_
                    exact .val (.slice _ _ ha)
          · cases s <;> first | exact absurd rfl (hno _ _ _) | exact .stuck
        | _ => exact .stuck
end
end Go.Proofs.Ytgkakgibgfehaaa.Sim

namespace Go.Proofs.Ytgkakgibgfehaaa.Sim

inductive TRel (ok : Cx) (T : Tables) (R : Ren) : Target → Target → Prop
  | fn {fn fn' : Fn} {c c' : Array Value} : FnRel ok R fn fn' → Rows ok R c c' → TRel ok T R (.fn fn c) (.fn fn' c')
  | nil : TRel ok T R .nil .nil
  | builtin (b : Builtin) (ts : Array TypeId) (t : TypeId) (cs : Array Bool) : ((b matches .append | .cap | .len | .max | .min) && ts.all (okElem ok T) && (!(b matches .append) || okApp T ts)) = true → TRel ok T R (.builtin b ts t cs) (.builtin b ts t cs)
  | collected {r r' : Nat} : R r r' → TRel ok T R (.collected r) (.collected r')
def DRel (ok : Cx) (T : Tables) (R : Ren) (d d' : Deferred) : Prop := TRel ok T R d.target d'.target ∧ Rows ok R d.args d'.args
theorem DRel.mono {ok : Cx} {T : Tables} {R R₁ : Ren} (h : Le R R₁) {d d' : Deferred} (k : DRel ok T R d d') : DRel ok T R₁ d d' := by
  obtain ⟨t, c⟩ := d
  obtain ⟨t', c'⟩ := d'
  obtain ⟨k1, k2⟩ := k
  refine ⟨?_, k2.mono h⟩
  dsimp only at k1 ⊢
  cases k1 with
  | fn a b =>
    refine .fn ?_ (b.mono h)
    cases a with
    | func f x => exact .func f x
    | yield x => exact .yield (h _ _ x)
  | nil => exact .nil
  | builtin b ts t cs x => exact .builtin b ts t cs x
  | collected x => exact .collected (h _ _ x)

/-- What an operation comes to. -/
inductive NRel (ok : Cx) (T : Tables) (R : Ren) : Next → Next → Prop
  | value {v v' : Value} : VRel ok R v v' → NRel ok T R (.value v) (.value v')
  | skip : NRel ok T R .skip .skip
  | enter (f : Nat) {c c' : Array Value} : ok.ok f = true → ok.ext f = false → Rows ok R c c' → NRel ok T R (.enter f c) (.enter f c')
  | round {l l' : Nat} (f : Nat) {c c' : Array Value} (a b : Code) : R l l' → ok.ok f = true → ok.rd f = true → Rows ok R c c' → okCode ok T a = true → okCode ok T b = true → NRel ok T R (.round l f c a b) (.round l' f c' a b)

/-- The two programs: what 'ok' names are functions of both, the same where 'rd' says so; all that they hold is code that may stand. -/
def Progs (ok : Cx) (T : Tables) (Fz : Fr) (FL FC : Array Func) : Prop :=
  (ok.pan = true → Fz.out = true) ∧ ∀ f, ok.ok f = true → ∃ fn fn', FL[f]? = some fn ∧ FC[f]? = some fn' ∧
    ((ok.ext f = false ∧ fn.body.isSome = true ∧ fn'.body.isSome = true ∧ (fn.name == "runtime.NumGoroutine") = false ∧ (fn'.name == "runtime.NumGoroutine") = false ∧ (ok.rd f = true → fn' = fn ∧ ∀ b, fn.body = some b → okCode ok T b = true)) ∨
     (ok.ext f = true ∧ fn' = fn ∧ ∀ R args args', Rows ok R args args' → Sim ok T Fz FL FC R (NRel ok T) (callFunc f args) (callFunc f args')))

section
variable {ok : Cx} {T : Tables} {Fz : Fr} {FL FC : Array Func} {R : Ren} {α β : Type}

theorem Sim.toNext {s s' : Sem Value} (h : Sim ok T Fz FL FC R (VRel ok) s s') : Sim ok T Fz FL FC R (NRel ok T) (do Pure.pure (Next.value (← s))) (do Pure.pure (Next.value (← s'))) :=
  h.bind fun _ _ _ _ hv => .pure fun _ k2 => .value (hv.mono k2)
theorem Sim.toSkip {s s' : Sem Unit} (h : Sim ok T Fz FL FC R (fun _ _ _ => True) s s') : Sim ok T Fz FL FC R (NRel ok T) (do s; Pure.pure Next.skip) (do s'; Pure.pure Next.skip) :=
  h.bind fun _ _ _ _ _ => .pure fun _ _ => .skip
theorem Sim.ofValue {v v' : Value} (hv : VRel ok R v v') {c c' : Array Value} (hc : Rows ok R c c') : Sim ok T Fz FL FC R (DRel ok T) (Deferred.ofValue v c) (Deferred.ofValue v' c') := by
  cases hv with
  | func f s1 h1 s2 h2 => exact .pure fun R₁ k => DRel.mono k ⟨.fn f ⟨s2, h2⟩, Rows.append ⟨s1, h1⟩ hc⟩
  | nilFunc => exact .pure fun R₁ k => DRel.mono k ⟨.nil, hc⟩
  | _ => exact .stuck
/-- The operands of both runs. -/
def ERel (ok : Cx) (R : Ren) (ρ ρ' : Operand → Value) : Prop := ∀ x, okOperand ok x = true → VRel ok R (ρ x) (ρ' x)
theorem ERel.rows {ρ ρ' : Operand → Value} (h : ERel ok R ρ ρ') {xs : Array Operand} (hx : xs.all (okOperand ok) = true) : Rows ok R (xs.map ρ) (xs.map ρ') := by
  refine ⟨by simp, fun i v v' hv hv' => ?_⟩
  rw [Array.getElem?_map] at hv hv'
  obtain ⟨x, h1, rfl⟩ := Option.map_eq_some_iff.1 hv
  obtain ⟨y, h2, rfl⟩ := Option.map_eq_some_iff.1 hv'
  rw [h1] at h2; cases h2
  obtain ⟨hl, rfl⟩ := Array.getElem?_eq_some_iff.1 h1
  exact h _ (Array.all_eq_true.1 hx i hl)
def okCall (ok : Cx) (T : Tables) (c : Call) : Bool :=
  (match c.callee with | .value f => okOperand ok f | .builtin b => (b matches .append | .cap | .len | .max | .min) && c.argTypes.all (okElem ok T) && (!(b matches .append) || okApp T c.argTypes) | .invoke .. => false) && c.args.all (okOperand ok)
theorem Sim.resolve {ρ ρ' : Operand → Value} (h : ERel ok R ρ ρ') {c : Call} (hc : okCall ok T c = true) (t : TypeId) : Sim ok T Fz FL FC R (DRel ok T) (Go.resolve ρ c t) (Go.resolve ρ' c t) := by
  obtain ⟨callee, args, ts⟩ := c
  simp only [okCall, Bool.and_eq_true] at hc
  obtain ⟨h1, h2⟩ := hc
  have ha := h.rows h2
  unfold Go.resolve
  cases callee with
  | builtin b => exact .pure fun R₁ k => DRel.mono k ⟨.builtin b ts t _ (by simpa using h1), ha⟩
  | value f => exact Sim.ofValue (h f h1) ha
  | invoke r m => cases h1
theorem Sim.callFunc (P : Progs ok T Fz FL FC) {f : Nat} (hf : ok.ok f = true) {c c' : Array Value} (hc : Rows ok R c c') : Sim ok T Fz FL FC R (NRel ok T) (Go.callFunc f c) (Go.callFunc f c') := by
  obtain ⟨fn, fn', e1, e2, h⟩ := P.2 f hf
  rcases h with ⟨b0, b1, b2, n1, n2, _⟩ | ⟨_, _, h⟩
  · unfold Go.callFunc
    refine .program ?_
    rw [show (prg T FL).funcs[f]? = some fn from e1, show (prg T FC).funcs[f]? = some fn' from e2]
    have c1 : fn.body.isNone = false := by cases hb : fn.body with | none => rw [hb] at b1; cases b1 | some b => rfl
    have c2 : fn'.body.isNone = false := by cases hb : fn'.body with | none => rw [hb] at b2; cases b2 | some b => rfl
    simp only [n1, n2, c1, c2, Bool.false_eq_true, if_false]
    exact .pure fun R₁ k => .enter f hf b0 (hc.mono k)
  · exact h R c c' hc
theorem Sim.getLoop {l l' : Nat} (hl : R l l') : Sim ok T Fz FL FC R (LoopRel ok T) (Instr.getLoop l) (Instr.getLoop l') := by
  unfold Instr.getLoop
  refine (Sim.getObj hl).bind fun R₁ k o o' h => ?_
  cases h.1 with
  | loop x => exact .pure fun R₂ k2 => x.mono k2
  | _ => exact .stuck
theorem foldSet_rel {ps : List Nat} : ∀ {c c' : List Value} (_ : LRel (VRel ok R) c c') {t t' : Array Value} (_ : Rows ok R t t'),
    Rows ok R ((ps.zip c).foldl (fun tmps (x : Nat × Value) => tmps.setIfInBounds x.1 x.2) t) ((ps.zip c').foldl (fun tmps (x : Nat × Value) => tmps.setIfInBounds x.1 x.2) t') := by
  induction ps with
  | nil => intro c c' _ t t' h; exact h
  | cons p ps ih =>
    intro c c' hc t t' h
    cases hc with
    | nil => exact h
    | cons a b => exact ih b (h.set _ a)
theorem Sim.yield {l l' : Nat} (hl : R l l') {c c' : Array Value} (hc : Rows ok R c c') : Sim ok T Fz FL FC R (NRel ok T) (Instr.yield l c) (Instr.yield l' c') := by
  unfold Instr.yield
  refine (Sim.getLoop hl).bind fun R₁ k r r' h => ?_
  rw [hc.1, h.params]
  refine .ite Iff.rfl (fun _ => ?_) (fun _ => ?_)
  · exact Sim.bindHalt fun R₂ _ w w' _ => ⟨_, _, rfl, trivial, by simp⟩
  · have e : ∀ (a : Array Nat) (b t : Array Value), ((a.zip b).foldl (fun tmps (x : Nat × Value) => tmps.setIfInBounds x.1 x.2) t) = ((a.toList.zip b.toList).foldl (fun tmps (x : Nat × Value) => tmps.setIfInBounds x.1 x.2) t) := by
      intro a b t
      rw [← Array.foldl_toList, Array.toList_zip]
    have hr := foldSet_rel (ok := ok) (ps := r.params.toList) (hc.mono k).toList h.tmps
    rw [← e, ← e] at hr
    rw [h.fn, h.assign, h.body]
    exact .pure fun R₂ k2 => .round _ _ _ (k2 _ _ (k _ _ hl)) h.okf h.ord (hr.mono k2) h.oka h.okb
/-- The marks among the deferred calls. -/
def CRel (R : Ren) (d d' : Deferred) : Prop := ∃ r r', d = { target := .collected r, args := #[] } ∧ d' = { target := .collected r', args := #[] } ∧ R r r'
theorem Sim.enterLoop {fn : Nat} (hfn : ok.ok fn = true) (hrd : ok.rd fn = true) {t t' : Array Value} (ht : Rows ok R t t') (ps : Array Nat) {a b : Code} (ha : okCode ok T a = true) (hb : okCode ok T b = true) {r r' : Option Nat} (hr : ORel R r r') :
    Sim ok T Fz FL FC R (fun R x x' => R x.1 x'.1 ∧ LRel (CRel R) x.2 x'.2) (Instr.enterLoop fn t ps a b r) (Instr.enterLoop fn t' ps a b r') := by
  unfold Instr.enterLoop
  have fin : ∀ {R₁ : Ren} (_ : Le R R₁) {d d' : Nat} (_ : R₁ d d') {m m' : List Deferred} (_ : LRel (CRel R₁) m m'),
      Sim ok T Fz FL FC R₁ (fun R x x' => R x.1 x'.1 ∧ LRel (CRel R) x.2 x'.2)
        (do Pure.pure ((← newObj (.loop { state := .ready, pending := none, fn, tmps := t, params := ps, assign := a, body := b, defers := d })), m))
        (do Pure.pure ((← newObj (.loop { state := .ready, pending := none, fn, tmps := t', params := ps, assign := a, body := b, defers := d' })), m')) := by
    intro R₁ k d d' hd m m' hm
    have hl : LoopRel ok T R₁ { state := .ready, pending := none, fn, tmps := t, params := ps, assign := a, body := b, defers := d } { state := .ready, pending := none, fn, tmps := t', params := ps, assign := a, body := b, defers := d' } :=
      ⟨rfl, rfl, fun _ h => (by cases h), rfl, hfn, hrd, ht.mono k, rfl, rfl, ha, rfl, hb, hd⟩
    refine (Sim.new (.loop hl)).bind fun R₂ k2 x x' hx => ?_
    exact .pure fun R₃ k3 => ⟨k3 _ _ hx, hm.imp fun _ _ u => let ⟨r, r', a, b, c⟩ := u; ⟨r, r', a, b, (k2.trans k3) _ _ c⟩⟩
  cases hr with
  | none =>
    refine (Sim.new (.deferred true)).bind fun R₁ k d d' hd => ?_
    exact fin k hd (.cons ⟨_, _, rfl, rfl, hd⟩ .nil)
  | some hl =>
    refine (Sim.getLoop hl).bind fun R₁ k x x' h => ?_
    exact fin k h.defers .nil
theorem Sim.setLoop {l l' : Nat} (hl : R l l') {r r' : Loop} (h : LoopRel ok T R r r') : Sim ok T Fz FL FC R (fun _ _ _ => True) (Go.setObj l (.loop r)) (Go.setObj l' (.loop r')) := Sim.setObj hl (.loop h) rfl
theorem Sim.beginRound {l l' : Nat} (hl : R l l') : Sim ok T Fz FL FC R (fun _ _ _ => True) (Instr.beginRound l) (Instr.beginRound l') := by
  unfold Instr.beginRound
  refine (Sim.getLoop hl).bind fun R₁ k r r' h => ?_
  refine (Sim.setLoop (k _ _ hl) (r := { r with state := .busy }) (r' := { r' with state := .busy }) ⟨rfl, h.pending, h.okp, h.fn, h.okf, h.ord, h.tmps, h.params, h.assign, h.oka, h.body, h.okb, h.defers⟩).bind fun R₂ k2 _ _ _ => ?_
  rw [h.state]
  cases r.state with
  | ready => exact .pure fun _ _ => trivial
  | done => exact Sim.runtimePanic (e := .error _) rfl
  | busy => exact Sim.runtimePanic (e := .error _) rfl
  | exhausted => exact Sim.runtimePanic (e := .error _) rfl
theorem Sim.endRound {l l' : Nat} (hl : R l l') {j : Option Code} (hj : ∀ c, j = some c → okCode ok T c = true) : Sim ok T Fz FL FC R (VRel ok) (Instr.endRound l j) (Instr.endRound l' j) := by
  unfold Instr.endRound
  refine (Sim.getLoop hl).bind fun R₁ k r r' h => ?_
  refine (Sim.setLoop (k _ _ hl) (r := { r with state := if j.isNone then .ready else .done, pending := j }) (r' := { r' with state := if j.isNone then .ready else .done, pending := j }) ⟨rfl, rfl, hj, h.fn, h.okf, h.ord, h.tmps, h.params, h.assign, h.oka, h.body, h.okb, h.defers⟩).bind fun R₂ k2 _ _ _ => ?_
  exact .val (.bool _)
theorem Sim.endLoop {l l' : Nat} (hl : R l l') : Sim ok T Fz FL FC R (fun _ j j' => j' = j ∧ ∀ c, j = some c → okCode ok T c = true) (Instr.endLoop l) (Instr.endLoop l') := by
  unfold Instr.endLoop
  refine (Sim.getLoop hl).bind fun R₁ k r r' h => ?_
  rw [h.state]
  refine .ite Iff.rfl (fun _ => ?_) (fun _ => ?_)
  · exact Sim.bind (A := fun _ _ _ => False) (Sim.runtimePanic (e := .error _) rfl) fun _ _ _ _ h => h.elim
  · refine (Sim.setLoop (k _ _ hl) (r := { r with state := .exhausted }) (r' := { r' with state := .exhausted }) ⟨rfl, h.pending, h.okp, h.fn, h.okf, h.ord, h.tmps, h.params, h.assign, h.oka, h.body, h.okb, h.defers⟩).bind fun R₂ k2 _ _ _ => ?_
    exact .pure fun _ _ => ⟨h.pending, h.okp⟩
theorem Sim.takeDeferred {r r' : Nat} (hr : R r r') : Sim ok T Fz FL FC R (fun _ d d' => d = [] ∧ d' = []) (Instr.takeDeferred r) (Instr.takeDeferred r') := by
  unfold Instr.takeDeferred
  refine (Sim.getObj hr).bind fun R₁ k o o' h => ?_
  cases h.1 with
  | deferred b =>
    cases b with
    | false => exact .stuck
    | true =>
      refine (Sim.setObj (k _ _ hr) (.deferred false) rfl).bind fun R₂ k2 _ _ _ => ?_
      exact .pure fun _ _ => ⟨rfl, rfl⟩
  | _ => exact .stuck
theorem Sim.builtin {b : Builtin} {ts : Array TypeId} (h : ((b matches .append | .cap | .len | .max | .min) && ts.all (okElem ok T) && (!(b matches .append) || okApp T ts)) = true) (t : TypeId) (cs : Array Bool) {c c' : Array Value} (hc : Rows ok R c c') :
    Sim ok T Fz FL FC R (NRel ok T) (Go.builtin b ts t cs c) (Go.builtin b ts t cs c') := by
  simp only [Bool.and_eq_true] at h
  obtain ⟨⟨h1, h2⟩, h3⟩ := h
  cases b <;> first
    | (cases h1; done)
    | exact (Sim.append h2 (by simpa using h3) t hc).toNext
    | exact (Sim.cap ts t hc).toNext
    | exact (Sim.len ts t hc).toNext
    | exact (Sim.max ts t hc).toNext
    | exact (Sim.min ts t hc).toNext
theorem Sim.invoke (P : Progs ok T Fz FL FC) {d d' : Deferred} (h : DRel ok T R d d') : Sim ok T Fz FL FC R (NRel ok T) (Go.invoke d.target d.args) (Go.invoke d'.target d'.args) := by
  obtain ⟨t, c⟩ := d
  obtain ⟨t', c'⟩ := d'
  obtain ⟨h1, h2⟩ := h
  dsimp only at h1 h2 ⊢
  cases h1 with
  | fn a b =>
    cases a with
    | func f hf => exact Sim.callFunc P hf (h2.append b)
    | yield hl => exact Sim.yield hl h2
  | nil => exact Sim.runtimePanic (e := .nilDeref) rfl
  | builtin b ts t cs h => exact Sim.builtin h t cs h2
  | collected h => exact .stuck
/-- What a panic with nil comes to. -/
def nilNo (T : Tables) (os : Os) : Int := match Instr.panicnil.run (prg T #[]) { (default : World) with os := os } with | .ok n _ => n | _ => 0
theorem panicnil_run (F : Array Func) (w : World) (es : Array Event) : Instr.panicnil.runT (prg T F) w es = (.ok (nilNo T w.os) w, es.push ⟨.output, true, false⟩) := rfl
theorem Sim.panicnil (ho : Fz.out = true) : Sim ok T Fz FL FC R Same Instr.panicnil Instr.panicnil := by
  intro R₁ hR w w' hw es
  have e : Instr.panicnil.run (prg T FL) w = .ok (nilNo T w.os) w := by rw [← Sem.runT_fst _ _ _ #[], panicnil_run]
  rw [e, panicnil_run]
  refine fun _ => ⟨R₁, _, w', #[⟨.output, true, false⟩], by rw [Array.append_singleton], Ext.refl _ _ _ _, hw, by rw [hw.os], ?_⟩
  intro x hx; simp at hx; subst hx; exact ho
theorem Sim.newPanic {A : Ren → α → β → Prop} : Sim ok T Fz FL FC R A (Go.runtimePanic .panicNil : Sem α) (Go.runtimePanic .panicNil : Sem β) := by
  unfold Go.runtimePanic
  refine .program ?_
  dsimp only
  refine Sim.bind (A := Same) ?_ fun R₁ k e e' h => ?_
  · unfold Go.elemOf
    refine (Sim.underlying _).bind fun R₁ k d d' h => ?_
    obtain ⟨rfl, _⟩ := h
    cases d' <;> first | exact .same | exact .stuck
  subst h
  exact (Sim.newVar e' (.aggR .empty)).bind fun R₂ k2 a a' ha => .panic (.iface _ (.ptr ha))
theorem Sim.panicOp (ho : Fz.out = true) {x x' : Value} (hx : VRel ok R x x') : Sim ok T Fz FL FC R (VRel ok) (Instr.panic x) (Instr.panic x') := by
  unfold Instr.panic
  cases hx with
  | iface t h => exact .panic (.iface t h)
  | nilIface =>
    refine (Sim.panicnil ho).bind fun R₁ k n n' e => ?_
    subst e
    exact .ite Iff.rfl (fun _ => .panic .nilIface) (fun _ => Sim.newPanic)
  | _ => exact .stuck

/-- EVERY OPERATION THAT MAY STAND IN THE CODE. -/
theorem sim_oper (P : Progs ok T Fz FL FC) {ρ ρ' : Operand → Value} (h : ERel ok R ρ ρ') {o : Oper} (ho : okOp ok T o.op = true) : Sim ok T Fz FL FC R (NRel ok T) (execOp ρ o) (execOp ρ' o) := by
  obtain ⟨dst, op, ty, pos, after, guard⟩ := o
  dsimp only at ho
  have opt : ∀ {x : Option Operand}, x.all (okOperand ok) = true → ORel (VRel ok R) (x.map ρ) (x.map ρ') := by
    intro x hx
    cases x with
    | none => exact .none
    | some x => exact .some (h x hx)
  have parts : ∀ {ps : Array (Nat × Operand)}, ps.all (fun p => okOperand ok p.2) = true → Parts ok R (ps.map fun (i, x) => (i, ρ x)) (ps.map fun (i, x) => (i, ρ' x)) := by
    intro ps hp
    unfold Parts
    rw [Array.toList_map, Array.toList_map]
    have hp' : ∀ p ∈ ps.toList, okOperand ok p.2 = true := by
      intro p hm
      rw [Array.all_eq_true_iff_forall_mem] at hp
      exact hp p (by simpa using hm)
    revert hp'
    generalize ps.toList = l
    intro hl
    induction l with
    | nil => exact .nil
    | cons p l ih => exact .cons ⟨rfl, h _ (hl p (by simp))⟩ (ih fun q hq => hl q (by simp [hq]))
  unfold execOp
  cases op <;> first
    | (cases ho; done)
    | skip
  case move x => exact .pure fun R₁ k => .value ((h x ho).mono k)
  case assign x => exact .pure fun R₁ k => .value ((h x ho).mono k)
  case pick c a b =>
    simp only [okOp, Bool.and_eq_true] at ho
    refine (Sim.asBool (h c ho.1.1)).bind fun R₁ k z z' e => ?_
    subst e
    cases z' with
    | true => exact .pure fun R₂ k2 => .value ((h a ho.1.2).mono (k.trans k2))
    | false => exact .pure fun R₂ k2 => .value ((h b ho.2).mono (k.trans k2))
  case alloc e => exact (Sim.alloc ho).toNext
  case box e x => exact (Sim.box e (h x ho)).toNext
  case build t ps =>
    simp only [okOp, Bool.and_eq_true] at ho
    exact (Sim.build ho.1 (parts ho.2)).toNext
  case buildSlice t n ps =>
    simp only [okOp, Bool.and_eq_true] at ho
    exact (Sim.buildSlice ho.1 n (parts ho.2)).toNext
  case load t a => exact (Sim.loadAt t (h a ho)).toNext
  case store t a x =>
    simp only [okOp, Bool.and_eq_true] at ho
    exact (Sim.storeAt t (h a ho.1) (h x ho.2)).toSkip
  case nilCheck x =>
    have hx := h x ho
    have hx1 := hx
    dsimp only
    generalize ρ x = v at hx hx1
    generalize ρ' x = v' at hx hx1
    cases hx with
    | nilPtr => exact Sim.runtimePanic (e := .nilDeref) rfl
    | nilIface => exact Sim.runtimePanic (e := .nilDeref) rfl
    | nilFunc => exact Sim.runtimePanic (e := .nilDeref) rfl
    | func f s1 a1 s2 a2 =>
      cases f with
      | func f hf => exact .pure fun R₁ k => .value (hx1.mono k)
      | yield hl => exact .pure fun R₁ k => .value (hx1.mono k)
    | _ => exact .pure fun R₁ k => .value (hx1.mono k)
  case binOp op t x y yt =>
    simp only [okOp, Bool.and_eq_true] at ho
    exact Sim.toNext ((Sim.eqGuard ho.2 x y _ _ _ _).bind fun R₁ k _ _ _ => Sim.binOp ho.2 ((h x ho.1.1).mono k) ((h y ho.1.2).mono k))
  case unOp op t x => exact (Sim.unary op (h x ho)).toNext
  case convert s d x =>
    simp only [okOp, Bool.and_eq_true] at ho
    exact (Sim.convert ho.2 (h x ho.1)).toNext
  case makeInterface t x => exact (Sim.makeInterface t (h x ho)).toNext
  case makeFunc f x c =>
    simp only [okOp, Bool.and_eq_true] at ho
    cases f with
    | func f => exact .pure fun R₁ k => .value (VRel.mono k (.funcR (.func f ho.1.1) (h.rows ho.1.2) (h.rows ho.2)))
    | _ => cases ho.1.1
  case makeSlice t l c =>
    simp only [okOp, Bool.and_eq_true] at ho
    exact (Sim.makeSlice ho.1.1 (h l ho.1.2) (h c ho.2)).toNext
  case slice t x l hh m =>
    simp only [okOp, Bool.and_eq_true] at ho
    exact (Sim.sliceAt t (h x ho.1.1.1) (opt ho.1.1.2) (opt ho.1.2) (opt ho.2)).toNext
  case fieldAddr s x f =>
    simp only [okOp, Bool.and_eq_true] at ho
    exact (Sim.fieldAt ho.2 (h x ho.1)).toNext
  case field t x f => exact (Sim.field t (h x ho) f).toNext
  case indexAddr t x ix =>
    simp only [okOp, Bool.and_eq_true] at ho
    exact (Sim.indexAt t (h x ho.1) (h ix ho.2)).toNext
  case index t x ix =>
    simp only [okOp, Bool.and_eq_true] at ho
    exact (Sim.index t (h x ho.1) (h ix ho.2)).toNext
  case extract x i => exact (Sim.extract (h x ho) i).toNext
  case call c => exact (Sim.resolve h ho ty).bind fun R₁ k d d' hd => Sim.invoke P hd
  case panic x =>
    simp only [okOp, Bool.and_eq_true] at ho
    exact (Sim.panicOp (P.1 ho.1) (h x ho.2)).toNext
end
end Go.Proofs.Ytgkakgibgfehaaa.Sim
