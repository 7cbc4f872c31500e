/-
  A LONE CONTRACT HOLDS FOR GOROUTINE 0 BESIDE OTHERS THAT ONLY LEAVE ('beside_must'): the machine carries its call out, to the return; where a function is entered of which the two programs have different bodies, a law of its own is asked ('Jump').
  A LONE CONTRACT HOLDS FOR GOROUTINE 0 BESIDE OTHERS THAT ONLY LEAVE ('beside_must').
  The end of the run in company: goroutine 0 returns.
  From the first frame of a run to its end: a lone contract (of a program that may differ in some functions) gives one good run.
  WORKERS THAT MAKE THINGS: small laws. Related worlds, when others have acted; the trace's law when a worker's places grow, and where a phase begins; the order of the whole crew.
  Along a tree of steps (Must), by steps that are known: what is known to end the run can't be come to.
  The library's comparison of two texts, a function without a body: the simulation's row for it.
-/
import Derived.Test.YtgkakgibgfehaaaSh13
import Derived.Conc.CrowdTrace
namespace Go.Proofs.Ytgkakgibgfehaaa.Sim
open Go.Conc
section
variable {P : Program} {Q : Value → World → Prop}

/-- Further down the tree; the tape may be another one at each step. -/
inductive Down (P : Program) : Frame → List Frame → World → Frame → List Frame → World → Prop
  | one {fr : Frame} {cs : List Frame} {w : World} {fr₁ : Frame} {cs₁ : List Frame} {w₁ : World} {es : Array Event} (t : Tape) (d : Nat) : stepG P true (G fr (cs ++ [junk])) (on w t d) = .go (G fr₁ (cs₁ ++ [junk])) w₁ es → Down P fr cs w fr₁ cs₁ w₁
  | trans {fr : Frame} {cs : List Frame} {w : World} {fr₁ : Frame} {cs₁ : List Frame} {w₁ : World} {fr₂ : Frame} {cs₂ : List Frame} {w₂ : World} : Down P fr cs w fr₁ cs₁ w₁ → Down P fr₁ cs₁ w₁ fr₂ cs₂ w₂ → Down P fr cs w fr₂ cs₂ w₂
theorem Down.first {fr fr₁ : Frame} {cs cs₁ : List Frame} {w w₁ : World} (h : Down P fr cs w fr₁ cs₁ w₁) :
    ∃ t d f c w2 es, stepG P true (G fr (cs ++ [junk])) (Sim.on w t d) = .go (G f (c ++ [junk])) w2 es ∧ ((f = fr₁ ∧ c = cs₁ ∧ w2 = w₁) ∨ Down P f c w2 fr₁ cs₁ w₁) := by
  induction h with
  | one t d h => exact ⟨t, d, _, _, _, _, h, .inl ⟨rfl, rfl, rfl⟩⟩
  | trans _ k ih _ =>
    obtain ⟨t, d, f, c, w2, es, h1, h2⟩ := ih
    refine ⟨t, d, f, c, w2, es, h1, .inr ?_⟩
    rcases h2 with ⟨rfl, rfl, rfl⟩ | h2
    · exact k
    · exact h2.trans k
theorem must_ind {X : Frame → List Frame → World → Prop} (h : ∀ fr cs w, Must P [junk] Q fr cs w → (∀ fr₁ cs₁ w₁, Down P fr cs w fr₁ cs₁ w₁ → X fr₁ cs₁ w₁) → X fr cs w)
    {fr : Frame} {cs : List Frame} {w : World} (hM : Must P [junk] Q fr cs w) : X fr cs w := by
  have key : X fr cs w ∧ ∀ fr₁ cs₁ w₁, Down P fr cs w fr₁ cs₁ w₁ → X fr₁ cs₁ w₁ := by
    induction hM with
    | @stop fr w hs =>
      have no : ∀ fr₁ cs₁ w₁, Down P fr [] w fr₁ cs₁ w₁ → X fr₁ cs₁ w₁ := by
        intro fr₁ cs₁ w₁ hd
        obtain ⟨t, d, f, c, w2, es, h1, -⟩ := hd.first
        obtain ⟨v, ⟨k1, k2, k3, fn, k4, -⟩, -⟩ := hs t d
        have := leaving_step k1 k2 k3 ⟨fn, k4⟩ h1
        simp at this
      exact ⟨h _ _ _ (.stop hs) no, no⟩
    | @step fr cs w f₁ c₁ w₁ es hs hk ih =>
      have down : ∀ fr₂ cs₂ w₂, Down P fr cs w fr₂ cs₂ w₂ → X fr₂ cs₂ w₂ := by
        intro fr₂ cs₂ w₂ hd
        obtain ⟨t, d, f, c, w2, es2, h1, h2⟩ := hd.first
        rw [hs t d] at h1
        injection h1 with e1 e2 e3
        obtain ⟨rfl, rfl⟩ := cancel e1
        subst e2
        rcases h2 with ⟨rfl, rfl, rfl⟩ | h2
        · exact (ih t d).1
        · exact (ih t d).2 _ _ _ h2
      exact ⟨h _ _ _ (.step f₁ c₁ w₁ es hs hk) down, down⟩
  exact key.1
/-- A run down the tree. -/
theorem run_down : ∀ (n : Nat) {fr : Frame} {cs : List Frame} {w : World} {fr₂ : Frame} {cs₂ : List Frame} {w₂ : World} {t : Tape} {d : Nat}, Must P [junk] Q fr cs w → 0 < n → runN P n (lone fr (cs ++ [junk]) (Sim.on w t d)) = .next (lone fr₂ (cs₂ ++ [junk]) w₂) → Down P fr cs w fr₂ cs₂ w₂ := by
  intro n
  induction n with
  | zero => intro _ _ _ _ _ _ _ _ _ h; omega
  | succ n ih =>
    intro fr cs w fr₂ cs₂ w₂ t d hM _ hr
    simp only [runN] at hr
    cases hM with
    | step f₁ c₁ w₁ es hs hk =>
      rw [step_lone_go (fr' := f₁ t d) (cs' := c₁ t d ++ [junk]) (w' := w₁ t d) (by show GStep.bare (stepG _ _ (G fr (cs ++ [junk])) _) = _; rw [hs t d]; rfl)] at hr
      have h1 : Down P fr cs w (f₁ t d) (c₁ t d) (w₁ t d) := .one t d (hs t d)
      cases n with
      | zero =>
        simp only [runN, Stepped.next.injEq] at hr
        obtain ⟨rfl, hc, rfl⟩ := lone_inj hr
        obtain rfl := List.append_cancel_right hc
        exact h1
      | succ n => exact h1.trans (ih (t := (w₁ t d).tape) (d := (w₁ t d).drawn) (hk t d) (Nat.succ_pos n) hr)
    | stop h =>
      exfalso
      obtain ⟨v, hl, -⟩ := h t d
      rw [List.nil_append, step_leave_returned hl] at hr
      dsimp only at hr
      cases n with
      | zero =>
        simp only [runN, Stepped.next.injEq] at hr
        obtain ⟨_, hc, _⟩ := lone_inj hr
        simp at hc
      | succ n =>
        obtain ⟨o, w3, he⟩ := junk_finish P v (Sim.on w t d)
        simp only [runN] at hr
        rw [step_lone_ended (o := o) (w' := w3) (by show GStep.bare (stepG _ _ (G (junk.finish v) []) _) = _; rw [he]; rfl)] at hr
        cases hr
end

/-- Blocks that nobody may touch plainly any more. -/
def shun (Sb : Nat → Prop) : Loc → Prop
  | .cell a => Sb a.block
  | _ => False
section
variable {ok : Cx} {T : Tables} {Fz : Fr} {R : Ren} {w w' : World}
theorem WRel.below (h : WRel ok T Fz R w w') {b b' : Nat} (x : R b b') : b' < w'.heap.size := by
  obtain ⟨o, o', _, h2, _⟩ := h.obj _ _ x
  exact (Array.getElem?_eq_some_iff.1 h2).1
theorem evIm_evL (hw : WRel ok T Fz R w w') {Sb : Nat → Prop} (hs : ∀ b b', R b b' → ¬ Sb b') {e : Event} (he : EvIm Fz R e) : EvL (shun Sb) w'.heap.size e := by
  obtain ⟨loc, wr, sy⟩ := e
  unfold EvIm at he
  cases loc with
  | cell a =>
    obtain ⟨rfl, b, hb, -⟩ := he
    exact evL_cell a wr (hs _ _ hb) (hw.below hb)
  | obj r =>
    obtain ⟨rfl, b, hb, -⟩ := he
    refine ⟨fun x hx hS => ?_, by simp, by simp, ?_⟩
    · have : MemAct.ofEvent ⟨.obj r, wr, false⟩ = .access ⟨.obj r, wr, false⟩ := by cases wr <;> rfl
      rw [this] at hx
      simp only [MemAct.touch?, Option.some.injEq] at hx
      subst hx
      exact hS.elim
    · have : MemAct.ofEvent ⟨.obj r, wr, false⟩ = .access ⟨.obj r, wr, false⟩ := by cases wr <;> rfl
      rw [this]
      exact hw.below hb
  | output =>
    refine ⟨fun x hx hS => ?_, by simp, by simp, trivial⟩
    simp only [MemAct.ofEvent, MemAct.touch?, Option.some.injEq] at hx
    subst hx
    exact hS.elim
  | goroutines => exact he.elim
  | mark m =>
    cases m with
    | noRoom => exact ⟨fun x hx _ => (by simp [MemAct.ofEvent, MemAct.touch?] at hx), by simp, by simp, trivial⟩
    | extern f => exact ⟨fun x hx _ => (by simp [MemAct.ofEvent, MemAct.touch?] at hx), by simp, by simp, trivial⟩
    | _ => exact he.elim
end
end Go.Proofs.Ytgkakgibgfehaaa.Sim

namespace Go.Proofs.Ytgkakgibgfehaaa.Sim
open Go.Conc

/-- What a stretch of the run in company has left as it was. -/
structure Kept (Fz : Fr) (R : Ren) (w : World) (R₁ : Ren) (w₁ : World) : Prop where
  le : Le R R₁
  new : ∀ b b', R₁ b b' → R b b' ∨ w.heap.size ≤ b'
  size : w.heap.size ≤ w₁.heap.size
  keep : ∀ b', b' < w.heap.size → (∀ b, R b b' → Fz b) → w₁.heap[b']? = w.heap[b']?
  os : w₁.os = w.os
  output : w₁.output = w.output
  tape : w₁.tape = w.tape
theorem Kept.refl (Fz : Fr) (R : Ren) (w : World) : Kept Fz R w R w := ⟨Le.refl R, fun _ _ h => .inl h, Nat.le_refl _, fun _ _ _ => rfl, rfl, rfl, rfl⟩
theorem Kept.trans {Fz : Fr} {R R₁ R₂ : Ren} {w w₁ w₂ : World} (h : Kept Fz R w R₁ w₁) (k : Kept Fz R₁ w₁ R₂ w₂) : Kept Fz R w R₂ w₂ := by
  refine ⟨h.le.trans k.le, fun b b' x => ?_, Nat.le_trans h.size k.size, fun b' hb hf => ?_, k.os.trans h.os, k.output.trans h.output, k.tape.trans h.tape⟩
  · rcases k.new b b' x with x | x
    · exact h.new b b' x
    · exact .inr (Nat.le_trans h.size x)
  · rw [k.keep b' (Nat.lt_of_lt_of_le hb h.size) fun b x => ?_]
    · exact h.keep b' hb hf
    · rcases h.new b b' x with x | x
      · exact hf b x
      · omega
theorem Kept.draw {Fz : Fr} {R R₁ : Ren} {w w₁ : World} {d : Nat} (h : Kept Fz R (w.at d) R₁ w₁) : Kept Fz R w R₁ w₁ := ⟨h.le, h.new, h.size, h.keep, h.os, h.output, h.tape⟩
theorem Ext.kept {Fz : Fr} {R R₁ : Ren} {w w' w₁ w₁' : World} (h : Ext Fz R w w' R₁ w₁ w₁') : Kept Fz R w' R₁ w₁' :=
  ⟨h.le, fun b b' x => (h.new b b' x).imp id fun x => x.2.1, h.size, h.keep, h.os, h.output, h.tape⟩

/-- Where the lone run stands, and where goroutine 0 stands in company. -/
structure At (ok : Cx) (T : Tables) (FC : Array Func) (Fz : Fr) (bC : List Frame) (Sb : Nat → Prop) (R : Ren) (fr : Frame) (cs : List Frame) (w : World) (fr' : Frame) (cs' : List Frame) (w' : World) (gs : Array Goroutine) (t : Trace) (q : Nat → Nat) : Prop where
  frame : FRel ok T R fr fr'
  callers : LRel (FRel ok T R) cs cs'
  near : Near ok T Fz R w w'
  team : Team (prg T FC) (shun Sb) w'.heap.size gs (G fr' (cs' ++ bC)) t q
  safe : ∀ b b', R b b' → ¬ Sb b'
  old : ∀ b, Sb b → b < w'.heap.size

/-- The law that is asked where a function is entered of which the two programs have different bodies: both come back to the caller, and stay related. -/
def Jump (ok : Cx) (T : Tables) (FL FC : Array Func) (Fz : Fr) (f : Nat) : Prop :=
  ∀ {Q : Value → World → Prop} {R : Ren} {c c' : Array Value} {w w' : World} {Sb : Nat → Prop} {gs : Array Goroutine} {t : Trace} {q : Nat → Nat} {sl : Option (Nat × Nat)} {c1 : Frame} {cs : List Frame} {c1' : Frame} {bs : List Frame},
    Must (prg T FL) [junk] Q (Frame.enter (prg T FL) f c .normal) (c1 :: cs) w → Rows ok R c c' → Near ok T Fz R w w' → (∀ b b', R b b' → ¬ Sb b') → (∀ b, Sb b → b < w'.heap.size) →
    Team (prg T FC) (shun Sb) w'.heap.size gs (G (Frame.enter (prg T FC) f c' .normal) (c1' :: bs)) t q →
    ∃ v w₂, Down (prg T FL) (Frame.enter (prg T FL) f c .normal) (c1 :: cs) w (c1.finish v) cs w₂ ∧
      ∃ N gs' w₂' sl' t' q' Sb' R₂ v', runNT (prg T FC) N (crowd gs w' sl) t = (.next (crowd gs' w₂' sl'), t') ∧ Team (prg T FC) (shun Sb') w₂'.heap.size gs' (G (c1'.finish v') bs) t' q' ∧
        Kept Fz R w' R₂ w₂' ∧ VRel ok R₂ v v' ∧ Near ok T Fz R₂ w₂ w₂' ∧ (∀ b b', R₂ b b' → ¬ Sb' b') ∧ ∀ b, Sb' b → b < w₂'.heap.size

section
variable {ok : Cx} {T : Tables} {FL FC : Array Func} {Fz : Fr} {bC : List Frame} {Q : Value → World → Prop}

theorem beside_must (P : Progs ok T Fz FL FC) (hI : ∀ f, ok.ok f = true → T.inits.idxOf? f = none) (hl : Fz.lim = none) (hJ : ∀ f, ok.ok f = true → ok.rd f = false → Jump ok T FL FC Fz f)
    {fr : Frame} {cs : List Frame} {w : World} (hM : Must (prg T FL) [junk] Q fr cs w) :
    ∀ {R : Ren} {fr' : Frame} {cs' : List Frame} {w' : World} {gs : Array Goroutine} {sl : Option (Nat × Nat)} {t : Trace} {q : Nat → Nat} {Sb : Nat → Prop}, At ok T FC Fz bC Sb R fr cs w fr' cs' w' gs t q →
      ∃ N gs' sl' t' q' Sb' R₁ fr₁ w₁ fr₁' w₁', runNT (prg T FC) N (crowd gs w' sl) t = (.next (crowd gs' w₁' sl'), t') ∧ At ok T FC Fz bC Sb' R₁ fr₁ [] w₁ fr₁' [] w₁' gs' t' q' ∧ (∀ t d, ∃ v, fr₁.leaving (prg T FL) (on w₁ t d) (.returned v) ∧ Q v (on w₁ t d)) ∧ Kept Fz R w' R₁ w₁' := by
  refine must_ind (X := fun fr cs w => ∀ {R : Ren} {fr' : Frame} {cs' : List Frame} {w' : World} {gs : Array Goroutine} {sl : Option (Nat × Nat)} {t : Trace} {q : Nat → Nat} {Sb : Nat → Prop}, At ok T FC Fz bC Sb R fr cs w fr' cs' w' gs t q →
      ∃ N gs' sl' t' q' Sb' R₁ fr₁ w₁ fr₁' w₁', runNT (prg T FC) N (crowd gs w' sl) t = (.next (crowd gs' w₁' sl'), t') ∧ At ok T FC Fz bC Sb' R₁ fr₁ [] w₁ fr₁' [] w₁' gs' t' q' ∧ (∀ t d, ∃ v, fr₁.leaving (prg T FL) (on w₁ t d) (.returned v) ∧ Q v (on w₁ t d)) ∧ Kept Fz R w' R₁ w₁') ?_ hM
  intro fr cs w hM ih R fr' cs' w' gs sl t q Sb A
  cases hM with
  | stop hs =>
    have hc := A.callers
    cases cs' with
    | cons => cases hc
    | nil => exact ⟨0, gs, sl, t, q, Sb, R, fr, w, fr', w', rfl, A, hs, Kept.refl _ _ _⟩
  | step f₁ c₁ w₁ es hs hk =>
    have hgo : ∀ d, ∃ a' w1' es', stepG (prg T FC) true (G fr' (cs' ++ bC)) (w'.at d) = .go a' w1' es' ∧ w'.heap.size ≤ w1'.heap.size ∧ (∀ e ∈ es', EvL (shun Sb) w1'.heap.size e) ∧
        ∃ d R₁, GRel ok T FL FC [junk] bC R₁ (G (f₁ w'.tape d) (c₁ w'.tape d ++ [junk])) a' ∧ Kept Fz R w' R₁ w1' ∧ WRel ok T Fz R₁ (w₁ w'.tape d) w1' ∧ (∀ b b', R₁ b b' → ¬ Sb b') := by
      intro d
      have hw : Near ok T Fz R w (w'.at d) := A.near.draw w'.tape d
      obtain ⟨R₁, a', w1', es', e, hg, hx, hw1, hev⟩ := sim_step (bL := [junk]) (bC := bC) (m' := true) P hI A.frame A.callers hw (hs w'.tape d) (fun m h => by rw [hl] at h; cases h) rfl rfl (by simp [G])
      have hsafe : ∀ b b', R₁ b b' → ¬ Sb b' := by
        intro b b' x hS
        rcases hx.new b b' x with x | ⟨_, x, _⟩
        · exact A.safe b b' x hS
        · have := A.old b' hS
          have : w'.heap.size ≤ b' := x
          omega
      exact ⟨a', w1', es', e, hx.size, fun e he => evIm_evL hw1 hsafe (hev e he), d, R₁, hg, hx.kept.draw, hw1, hsafe⟩
    obtain ⟨N, gs', a', w1', sl', t', q', hr, -, hT, d, R₁, ⟨fr₂, cs₂, fr₂', cs₂', eg, rfl, htop, hcs⟩, hkept, hw1, hsafe⟩ := beside_go (sl := sl) A.team rfl hgo
    obtain ⟨rfl, rfl⟩ := cancel eg.symm
    have hone : Down (prg T FL) fr cs w (f₁ w'.tape d) (c₁ w'.tape d) (w₁ w'.tape d) := .one _ d (hs w'.tape d)
    have hold : ∀ b, Sb b → b < w1'.heap.size := fun b hb => Nat.lt_of_lt_of_le (A.old b hb) hkept.size
    have hMn := hk w'.tape d
    generalize f₁ w'.tape d = F0 at htop hone hMn
    generalize c₁ w'.tape d = C0 at htop hone hMn hcs
    generalize w₁ w'.tape d = W0 at hone hMn hw1
    cases htop with
    | ord hf =>
      obtain ⟨N2, gs2, sl2, t2, q2, Sb2, R2, fr3, w3, fr3', w3', r1, r2, r3, r5⟩ := ih _ _ _ hone (sl := sl') ⟨hf, hcs, hw1.near, hT, hsafe, hold⟩
      exact ⟨N + N2, gs2, sl2, t2, q2, Sb2, R2, fr3, w3, fr3', w3', (runNT_add N N2 _ _ hr).trans r1, r2, r3, hkept.trans r5⟩
    | @sp f c c' hne hf hrd hc =>
      cases hcs with
      | nil => exact absurd rfl hne
      | @cons c1 c1' cs3 cs3' h1 hcs =>
        obtain ⟨v, w₂, hd, N2, gs2, w₂', sl2, t2, q2, Sb2, R₂, v', r1, r2, r3, r4, r5, r6, r7⟩ := hJ f hf hrd (sl := sl') hMn hc hw1.near hsafe hold hT
        obtain ⟨N3, gs3, sl3, t3, q3, Sb3, R3, fr3, w3, fr3', w3', s1, s2, s3, s5⟩ := ih _ _ _ (hone.trans hd) (sl := sl2) ⟨(h1.mono r3.le).finish r4, hcs.imp fun _ _ x => FRel.mono r3.le x, r5, r2, r6, r7⟩
        exact ⟨N + (N2 + N3), gs3, sl3, t3, q3, Sb3, R3, fr3, w3, fr3', w3', ((runNT_add N (N2 + N3) _ _ hr).trans (runNT_add N2 N3 _ _ r1)).trans s1, s2, s3, (hkept.trans r3).trans s5⟩
end
end Go.Proofs.Ytgkakgibgfehaaa.Sim

namespace Go.Proofs.Ytgkakgibgfehaaa.Sim
open Go.Conc

/-- A computation that hands the world back as it came, where it answers. -/
def Still {α : Type} (s : Sem α) : Prop := ∀ P w a w₁, s.run P w = .ok a w₁ → w₁ = w
section
variable {α β : Type}
theorem Still.pure (a : α) : Still (Pure.pure a : Sem α) := by
  intro P w a w₁ h
  cases h
  rfl
theorem Still.halt (h : Halt) : Still (.halt h : Sem α) := fun _ _ _ _ e => by cases e
theorem Still.bind {s : Sem α} {f : α → Sem β} (h : Still s) (k : ∀ a, Still (f a)) : Still (s >>= f) := by
  intro P w b w₁ e0
  have e : (s.bind f).run P w = .ok b w₁ := e0
  clear e0
  rw [Sem.run_bind'] at e
  cases hs : s.run P w with
  | halt hh w2 => rw [hs] at e; cases e
  | ok a w2 =>
    rw [hs] at e
    obtain rfl := h P w a w2 hs
    exact k a P _ b w₁ e
theorem Still.program {f : Program → Sem β} (k : ∀ p, Still (f p)) : Still (Go.program >>= f) := fun P w b w₁ e => k P P w b w₁ e
theorem Still.load (a : Addr) : Still (Go.load a) := by
  intro P w v w₁ h
  simp only [Go.load, Sem.run] at h
  split at h
  · cases h; rfl
  · split at h
    · cases h; rfl
    · cases h
theorem Still.nilDeref : Still (runtimePanic .nilDeref : Sem α) := Still.program fun p P w a w₁ h => by cases h
theorem Still.asAddr (v : Value) : Still (Go.asAddr v) := by
  cases v with
  | pointer a => cases a with
    | none => exact .nilDeref
    | some a => exact .pure a
  | _ => exact .halt _
theorem Still.info (t : TypeId) : Still (typeInfo t) := Still.program fun p => by split; exact .pure _; exact .halt _
theorem Still.underlying (t : TypeId) : Still (Go.underlying t) := Still.program fun p => by split; exact .pure _; exact .halt _
theorem Still.loadCells (a : Addr) : ∀ (n i : Nat) (acc : Array Value), Still (loadCellsFrom a i n acc) := by
  intro n
  induction n with
  | zero => intro i acc; exact .pure acc
  | succ n ih => intro i acc; exact (Still.load _).bind fun v => ih _ _
theorem Still.loadVar (t : TypeId) (a : Addr) : Still (Go.loadVar t a) := by
  unfold Go.loadVar Go.isAgg Go.sizeOf Go.loadCells
  refine Still.bind ((Still.underlying t).bind fun d => by split <;> exact .pure _) fun b => ?_
  split
  · exact ((Still.info t).bind fun i => .pure _).bind fun n => (Still.loadCells a n 0 #[]).bind fun c => .pure _
  · exact .load a
theorem Still.results (fn : Func) (t : Array Value) : Still (Go.results fn t) := by
  unfold Go.results
  have key : ∀ l : List ResultVar, Still (l.mapM fun | .tmp i => Pure.pure (t.getD i undef) | .cell a ty => do Go.loadVar ty (← Go.asAddr (t.getD a undef))) := by
    intro l
    induction l with
    | nil => exact .pure _
    | cons x l ih =>
      rw [List.mapM_cons]
      refine Still.bind ?_ fun v => ih.bind fun vs => .pure _
      cases x with
      | tmp i => exact .pure _
      | cell a ty => exact (Still.asAddr _).bind fun a => .loadVar ty a
  rw [Array.mapM_eq_mapM_toList]
  refine Still.bind (Still.bind (key _) fun x => .pure _) fun vs => ?_
  split <;> exact .pure _
end

section
variable {ok : Cx} {T : Tables} {FL FC : Array Func} {Fz : Fr} {Q : Value → World → Prop} {Sb : Nat → Prop} {R : Ren} {fr fr' : Frame} {w w' : World} {gs : Array Goroutine} {t : Trace} {q : Nat → Nat}

/-- Goroutine 0 has come to its return: the run ends. -/
theorem ends_good (P : Progs ok T Fz FL FC) (hI : ∀ f, ok.ok f = true → T.inits.idxOf? f = none) (hl : Fz.lim = none) (A : At ok T FC Fz [] Sb R fr [] w fr' [] w' gs t q)
    (hs : ∀ t d, ∃ v, fr.leaving (prg T FL) (on w t d) (.returned v) ∧ Q v (on w t d)) {Post : Value → World → Prop}
    (hp : ∀ d v v', Q v (on w w'.tape d) → VRel ok R v v' → Near ok T Fz R w (w'.at d) → Post v' (w'.at d)) (sl : Option (Nat × Nat)) :
    ∃ N last o w1 t1, runNT (prg T FC) (N + 1) (crowd gs w' sl) t = (.ended o w1, t1) ∧ runN (prg T FC) N (crowd gs w' sl) = .next last ∧ step (prg T FC) last = .ended o w1 ∧ Good (prg T FC) Post last o w1 t1 := by
  obtain ⟨B1, hp1⟩ := A.team.past
  refine beside_ends (Shun := shun Sb) (B := max B1 w'.heap.size) (D := fun _ _ _ => False) (fun _ _ _ h => h.elim) A.team.zero A.team.others (hp1.mono (Nat.le_max_left _ _)) (n := 0) ?_
  rintro w2 ⟨d, rfl⟩
  refine ⟨rfl, ?_⟩
  obtain ⟨v, ⟨hm, hd, hk, fn, hf, hr⟩, hq⟩ := hs w'.tape d
  have hw : Near ok T Fz R w (w'.at d) := A.near.draw w'.tape d
  have h1 := results_sim (Fz := Fz) (FL := FL) (FC := FC) (fn := fn) A.frame.tmps R (Le.refl R) (on w w'.tape d) (w'.at d) hw #[]
  rw [hr] at h1
  obtain ⟨R₂, v', w₁', new, e, hx, hw2, hv, hev⟩ := h1 (fun m h => by rw [hl] at h; cases h)
  have e2 : (results fn fr'.tmps).run (prg T FC) (w'.at d) = .ok v' w₁' := by
    rw [← Sem.runT_fst _ _ _ #[], e]
  obtain rfl := Still.results fn fr'.tmps _ _ _ _ e2
  have hR2 : ∀ b b', R₂ b b' → R b b' := by
    intro b b' x
    rcases hx.new b b' x with x1 | ⟨x1, x2, -⟩
    · exact x1
    · have := hw2.below x
      omega
  have hle : Le R₂ R := hR2
  have hmode : fr'.mode = .returning := by
    have := A.frame.mode
    rw [hm] at this
    revert this
    generalize fr'.mode = x
    intro h
    cases h
    rfl
  have hdef : fr'.defers = [] := by
    have := A.frame.defers
    rw [hd] at this
    revert this
    generalize fr'.defers = x
    intro h
    cases h
    rfl
  have hf' : (prg T FC).funcs[fr'.fn]? = some fn := by
    obtain ⟨g, g', f1, f2, f3⟩ := P.2 fr.fn A.frame.okf
    have : g' = g := by
      rcases f3 with ⟨_, _, _, _, _, f3⟩ | ⟨_, f3, _⟩
      · exact (f3 A.frame.ord).1
      · exact f3
    subst this
    rw [show (prg T FL).funcs[fr.fn]? = some g' from f1] at hf
    cases hf
    rw [A.frame.fn]
    exact f2
  refine ⟨v', seen (prg T FC) fr'.fn new, ?_, fun x hx' => ?_, hp d v v' hq (hv.mono hle) hw⟩
  · rw [List.append_nil, stepG_unw (by rw [hmode]; intro h; cases h)]
    unfold unwind
    simp only [hdef, hmode, hf', e]
    unfold doReturn
    simp only [A.frame.kind', Bool.not_true, Bool.false_eq_true, if_false]
    rw [show (prg T FC).inits.idxOf? fr'.fn = none by rw [A.frame.fn]; exact hI _ A.frame.okf]
    simp [GStep.after]
  · have := evIm_evL hw2 (fun b b' x => A.safe b b' (hR2 _ _ x)) (hev x (by simpa using seen_sub hx'))
    exact evL_mono this (Nat.le_max_right _ _)
end
end Go.Proofs.Ytgkakgibgfehaaa.Sim

namespace Go.Proofs.Ytgkakgibgfehaaa.Sim
open Go.Conc
theorem runN_of {P : Program} : ∀ (n : Nat) {m : Machine} {t : Trace} {m' : Machine} {t' : Trace}, runNT P n m t = (.next m', t') → runN P n m = .next m' := by
  intro n
  induction n with
  | zero => intro m t m' t' h; simp only [runNT, Prod.mk.injEq] at h; exact h.1
  | succ n ih =>
    intro m t m' t' h
    simp only [runNT] at h
    simp only [runN, step]
    rcases hs : stepT P m with ⟨r, ops⟩
    rw [hs] at h
    cases r with
    | next m1 => exact ih h
    | ended o w => simp at h
theorem shun_none : shun (fun _ => False) = fun _ => False := by
  funext l
  cases l <;> rfl
section
variable {ok : Cx} {T : Tables} {FL FC : Array Func} {Fz : Fr} {Q : Value → World → Prop} {R : Ren}

theorem solo_good (P : Progs ok T Fz FL FC) (hI : ∀ f, ok.ok f = true → T.inits.idxOf? f = none) (hl : Fz.lim = none) (hJ : ∀ f, ok.ok f = true → ok.rd f = false → Jump ok T FL FC Fz f)
    {fr fr' : Frame} {w W : World} (hfr : FRel ok T R fr fr') (hw : Near ok T Fz R w W) (hM : Must (prg T FL) [junk] Q fr [] w) {Post : Value → World → Prop}
    (hp : ∀ R₁ w₁ w₁' d v v', Kept Fz R W R₁ w₁' → Q v (on w₁ w₁'.tape d) → VRel ok R₁ v v' → Near ok T Fz R₁ w₁ w₁' → Post v' (w₁'.at d)) :
    ∃ M last o w' t', runNT (prg T FC) (M + 1) (solo (G fr' []) W) #[] = (.ended o w', t') ∧ runN (prg T FC) M (solo (G fr' []) W) = .next last ∧ step (prg T FC) last = .ended o w' ∧ Good (prg T FC) Post last o w' t' := by
  have hp0 : Past (shun fun _ => False) W.heap.size #[] := by
    rw [shun_none]
    exact past_nil.mono (Nat.zero_le _)
  obtain ⟨N, gs', sl', t', q', Sb', R₁, fr₁, w₁, fr₁', w₁', r1, A, hs, hk⟩ := beside_must (bC := []) P hI hl hJ hM (sl := none) (Sb := fun _ => False) ⟨hfr, .nil, hw, ⟨rfl, leavers_one _ (G fr' []), ⟨_, hp0⟩, fun _ h => by simp at h, fun _ _ _ h => by simp at h, fun _ _ h => by simp [touchAt, Trace.act?] at h, fun _ h => by simp at h⟩, fun _ _ _ h => h, fun _ h => h.elim⟩
  obtain ⟨N2, last, o, w1, t1, s1, s2, s3, s4⟩ := ends_good P hI hl A hs (Post := Post) (fun d v v' hq hv _ => hp R₁ w₁ w₁' d v v' hk hq hv A.near) sl'
  refine ⟨N + N2, last, o, w1, t1, ?_, ?_, s3, s4⟩
  · rw [solo_eq_crowd, show N + N2 + 1 = N + (N2 + 1) by omega, runNT_add N (N2 + 1) _ _ r1]
    exact s1
  · rw [solo_eq_crowd, runN_add]
    rw [runN_of N r1]
    exact s2
end
end Go.Proofs.Ytgkakgibgfehaaa.Sim

namespace Go.Proofs.Ytgkakgibgfehaaa.Sim
open Go.Conc
open Go.ConcN (CT PermW)
section
variable {ok : Cx} {T : Tables} {Fz : Fr} {R : Ren} {w w' w'' : World}
/-- The others have left the related blocks as they were. -/
theorem Near.rely (h : Near ok T Fz R w w') (hb : ∀ b b', R b b' → w''.heap[b']? = w'.heap[b']?) (hs : w'.heap.size ≤ w''.heap.size) (ho : w''.os = w'.os) : Near ok T Fz R w w'' := by
  refine ⟨h.one, h.inj, fun b b' x => ?_, h.new, h.fz, h.glob, ⟨h.big.1, Nat.le_trans h.big.2 hs⟩, ho.trans h.os, fun _ _ => rfl⟩
  obtain ⟨o, o', h1, h2, h3⟩ := h.obj b b' x
  exact ⟨o, o', h1, (hb b b' x).trans h2, h3⟩
theorem Near.below (h : Near ok T Fz R w w') {b b' : Nat} (x : R b b') : b' < w'.heap.size := WRel.below h x
end

section
variable {Sh : Loc → Prop} {Own Own' Rd Rd' : Nat → Loc → Prop} {t : Trace} {j : Nat}
/-- The places of a worker's own grow by places that nobody has touched. -/
theorem ct_grow (h : CT Sh Own Rd t j) (hO : ∀ k l, Own k l → Own' k l) (hf : ∀ k l, Own' k l → Own k l ∨ ∀ i a, touchAt t i = some a → a.loc ≠ l) : CT Sh Own' Rd t j := by
  refine ⟨h.quiet, fun k k1 kj l hl => ?_, h.rd, fun l hs hl => h.free l hs fun k k1 kj => ⟨fun x => (hl k k1 kj).1 (hO k l x), (hl k k1 kj).2⟩, fun l hs hl => h.mine l hs fun k k1 kj x => hl k k1 kj (hO k l x), h.nr, h.gs⟩
  rcases hf k l hl with x | x
  · exact h.own k k1 kj l x
  · exact fun i a ha e => absurd e (x i a ha)
/-- Of a goroutine that is not started yet anything may be said. -/
theorem ct_turn (h : CT Sh Own Rd t j) (hO : ∀ k l, 1 ≤ k → k ≤ j → (Own' k l ↔ Own k l)) (hR : ∀ k l, 1 ≤ k → k ≤ j → (Rd' k l ↔ Rd k l)) : CT Sh Own' Rd' t j := by
  refine ⟨h.quiet, fun k k1 kj l hl => h.own k k1 kj l ((hO k l k1 kj).1 hl), fun k k1 kj l hl => h.rd k k1 kj l ((hR k l k1 kj).1 hl), fun l hs hl => h.free l hs fun k k1 kj => ⟨fun x => (hl k k1 kj).1 ((hO k l k1 kj).2 x), fun x => (hl k k1 kj).2 ((hR k l k1 kj).2 x)⟩,
    fun l hs hl => h.mine l hs fun k k1 kj x => hl k k1 kj ((hO k l k1 kj).2 x), h.nr, h.gs⟩
/-- Where a phase begins: the others only leave, nobody has touched the new group's block. -/
theorem ct_start {P : Program} {Sb : Nat → Prop} {B Wg : Nat} {gs : Array Goroutine} {g : Goroutine} {q : Nat → Nat} (h : Team P (shun Sb) B gs g t q) (hW : B ≤ Wg) (hj : gs.size ≤ j + 1) :
    CT (fun l => shun Sb l ∨ ∃ a, l = .cell a ∧ a.block = Wg) (fun _ _ => False) (fun _ _ => False) t j := by
  have low : ∀ i a, touchAt t i = some a → ∀ b, a.loc = .cell b → b.block < B := by
    intro i a ha b e
    obtain ⟨op, ho, hx⟩ := touch_of ha
    obtain ⟨hi, rfl⟩ := Array.getElem?_eq_some_iff.1 ho
    have hl := h.low _ (Array.getElem_mem hi) a hx
    rw [e] at hl
    exact hl
  have perm : ∀ l, ¬ (shun Sb l ∨ ∃ a, l = .cell a ∧ a.block = Wg) → Perm t 0 l := by
    intro l hl i a ha e
    cases hm : a.loc.isMemory with
    | false => exact h.rest i a ha hm
    | true =>
      obtain ⟨B1, hp1⟩ := h.past
      rcases hp1.known i a ha hm with x | ⟨x, _⟩
      · exact x
      · exact absurd (.inl (e ▸ x)) hl
  refine ⟨?_, fun _ _ _ _ h => h.elim, fun _ _ _ _ h => h.elim, fun l hs _ => perm l hs, fun l hs _ => PermW.of (perm l hs), (h.past.elim fun _ x => x.clean), fun i op hi => ?_⟩
  · intro i op x hi hx hs
    rcases hs with hs | ⟨a, e, rfl⟩
    · exact h.quiet i op x hi hx hs
    · have := low i x (by rw [touchAt_of hi]; exact hx) a e
      omega
  · obtain ⟨hi', rfl⟩ := Array.getElem?_eq_some_iff.1 hi
    have := h.ids _ (Array.getElem_mem hi')
    omega
end

/-! ### the order: one part goes down, the others stand -/
section
variable {α : Type} {lt : α → α → Prop}
def OneDown (lt : α → α → Prop) (n : Nat) (D' D : Nat → α) : Prop := ∃ i, i < n ∧ lt (D' i) (D i) ∧ ∀ k, k < n → k ≠ i → D' k = D k
theorem oneDown_acc : ∀ (n : Nat) (D : Nat → α), (∀ i, i < n → Acc lt (D i)) → Acc (OneDown lt n) D := by
  intro n
  induction n with
  | zero => intro D _; exact ⟨D, fun D' ⟨i, hi, _⟩ => absurd hi (Nat.not_lt_zero i)⟩
  | succ n ih =>
    have key : ∀ x, Acc lt x → ∀ D0, Acc (OneDown lt n) D0 → ∀ D, (∀ k, k < n → D k = D0 k) → D n = x → Acc (OneDown lt (n + 1)) D := by
      intro x hx
      induction hx with
      | intro x _ ihx =>
        intro D0 hD0
        induction hD0 with
        | intro D0 _ ihD =>
          rename_i hx0 hD1
          intro D h1 h2
          refine ⟨D, fun D' ⟨i, hi, hlt, hk⟩ => ?_⟩
          by_cases e : i = n
          · subst e
            refine ihx (D' i) (h2 ▸ hlt) D0 ⟨D0, fun y hy => hD1 y hy⟩ D' (fun k hkn => (hk k (by omega) (by omega)).trans (h1 k hkn)) rfl
          · refine ihD (fun k => if k < n then D' k else D0 k) ⟨i, by omega, ?_, fun k hkn hki => ?_⟩ D' (fun k hkn => by rw [if_pos hkn]) ((hk n (by omega) (fun h => e h.symm)).trans h2)
            · show lt (if i < n then D' i else D0 i) (D0 i)
              rw [if_pos (by omega), ← h1 i (by omega)]; exact hlt
            · show (if k < n then D' k else D0 k) = D0 k
              rw [if_pos hkn, hk k (by omega) hki, h1 k hkn]
    intro D h
    exact key (D n) (h n (by omega)) D (ih D fun i hi => h i (by omega)) D (fun _ _ => rfl) rfl
end
end Go.Proofs.Ytgkakgibgfehaaa.Sim

namespace Go.Proofs.Ytgkakgibgfehaaa.Sim
open Go.Conc
section
variable {P : Program} {Q : Value → World → Prop} {fr f₁ : Frame} {cs c₁ : List Frame} {w w₁ : World} {es : Array Event}
theorem Must.here (hM : Must P [junk] Q fr cs w) (hr : fr.mode = .run) (h : stepG P true (G fr (cs ++ [junk])) w = .go (G f₁ (c₁ ++ [junk])) w₁ es) : Must P [junk] Q f₁ c₁ w₁ := by
  cases hM with
  | stop hs =>
    obtain ⟨v, ⟨hm, -⟩, -⟩ := hs w.tape w.drawn
    rw [hr] at hm
    cases hm
  | step g₁ d₁ u₁ e₁ hs hk =>
    have h1 := hs w.tape w.drawn
    rw [on_self, h] at h1
    injection h1 with e1 e2 e3
    obtain ⟨rfl, rfl⟩ := cancel e1
    rw [e2]
    exact hk _ _
theorem Must.no (hM : Must P [junk] Q fr cs w) (hr : fr.mode = .run) (h : ∀ f c u e, stepG P true (G fr (cs ++ [junk])) w ≠ .go (G f (c ++ [junk])) u e) : False := by
  cases hM with
  | stop hs =>
    obtain ⟨v, ⟨hm, -⟩, -⟩ := hs w.tape w.drawn
    rw [hr] at hm
    cases hm
  | step g₁ d₁ u₁ e₁ hs hk =>
    have h1 := hs w.tape w.drawn
    rw [on_self] at h1
    exact h _ _ _ _ h1
/-- An operation that answers with a value and leaves the world as it is. -/
theorem Must.value {b : Frame} {a : Act} {k : List Item} {ops : Array Oper} {i : Nat} {rest : List Nat} {o : Oper} {v : Value} (hM : Must P [junk] Q (b.at a (.inRegion ops (i :: rest) :: k)) cs w) (hb : (b.at a (.inRegion ops (i :: rest) :: k)).mode = .run)
    (ho : ops[i]? = some o) (hw : Region.wanted o (yielded ops a.tmps) = true) (hk : b.kind ≠ .early) (hr : (execOp a.eval o).run P w = .ok (.value v) w) : Must P [junk] Q (b.at (a.put o.dst v) (.inRegion ops rest :: k)) cs w :=
  hM.here hb (stepG_value ho hw hk hr)
/-- An operation that is stuck, or not supported: it can't stand here. -/
theorem Must.stuck {b : Frame} {a : Act} {k : List Item} {ops : Array Oper} {i : Nat} {rest : List Nat} {o : Oper} {why : String} {w' : World} (hM : Must P [junk] Q (b.at a (.inRegion ops (i :: rest) :: k)) cs w) (hb : (b.at a (.inRegion ops (i :: rest) :: k)).mode = .run)
    (ho : ops[i]? = some o) (hw : Region.wanted o (yielded ops a.tmps) = true) (hr : (execOp a.eval o).run P w = .halt (.stuck why) w') : False := by
  refine hM.no hb fun f c u e h => ?_
  rw [stepG_run hb] at h
  unfold stepG.exec at h
  have ht : (b.at a (.inRegion ops (i :: rest) :: k)).todo = .inRegion ops (i :: rest) :: k := rfl
  have hy : (b.at a (.inRegion ops (i :: rest) :: k)).tmps = a.tmps := rfl
  simp only [ht, hy, ho, Option.map_some, Option.getD_some, hw, if_true] at h
  unfold stepG.oper at h
  have hop : (b.at a (.inRegion ops (i :: rest) :: k)).oper? = some o := by unfold Frame.oper?; rw [ht]; exact ho
  have hrn : (b.at a (.inRegion ops (i :: rest) :: k)).roundOf = none := rfl
  rw [hop] at h
  simp only [hrn] at h
  unfold stepG.apply at h
  rcases hL : (execOp (b.at a (.inRegion ops (i :: rest) :: k)).eval o).runT P w #[] with ⟨r, ev⟩
  have hr0 : (execOp (b.at a (.inRegion ops (i :: rest) :: k)).eval o).run P w = r := by rw [← Sem.runT_fst _ _ _ #[], hL]
  rw [Frame.eval_at'] at hr0
  rw [hr] at hr0
  subst hr0
  simp only [if_true, hL, GStep.after] at h
  cases h
end
end Go.Proofs.Ytgkakgibgfehaaa.Sim

namespace Go.Proofs.Ytgkakgibgfehaaa.Sim
section
variable {ok : Cx} {T : Tables} {Fz : Fr} {FL FC : Array Func} {R : Ren}
theorem Sim.loadBytes : ∀ (n : Nat) {R : Ren} {a a' : Addr} (acc : ByteArray), ARel ok R a a' → Sim ok T Fz FL FC R Same (Go.Extern.Bytes.loadBytes a n acc) (Go.Extern.Bytes.loadBytes a' n acc) := by
  intro n
  induction n with
  | zero => intro R a a' acc _; exact .same
  | succ n ih =>
    intro R a a' acc ha
    refine (Sim.load ha).bind fun R₁ k v v' hv => ?_
    cases hv with
    | int kd z => cases kd <;> first | exact ih _ ((ha.mono k).add 1) | exact .stuck
    | _ => exact .stuck
theorem Sim.bytesOf {v v' : Value} (h : VRel ok R v v') : Sim ok T Fz FL FC R Same (Go.Extern.Bytes.bytesOf v) (Go.Extern.Bytes.bytesOf v') := by
  cases h with
  | string s => exact .same
  | nilSlice n c => exact .same
  | slice n c ha => exact Sim.loadBytes n _ ha
  | _ => exact .stuck
theorem Sim.compare {c c' : Array Value} (h : Rows ok R c c') : Sim ok T Fz FL FC R (VRel ok) (Go.Extern.BytealgCompare.compare c) (Go.Extern.BytealgCompare.compare c') := by
  obtain ⟨l⟩ := c
  obtain ⟨l'⟩ := c'
  have hl := h.toList
  simp only at hl
  cases hl with
  | nil => exact .stuck
  | cons a h1 => cases h1 with
    | nil => exact .stuck
    | cons b h2 => cases h2 with
      | cons _ _ => exact .stuck
      | nil =>
        refine (Sim.bytesOf a).bind fun R₁ k s s' e => ?_
        subst e
        refine (Sim.bytesOf (b.mono k)).bind fun R₂ k2 u u' e => ?_
        subst e
        exact .val (.int _ _)
theorem Sim.cmpstring {f : Nat} {fn : Func} (h1 : FL[f]? = some fn) (h2 : FC[f]? = some fn) (hn : (fn.name == "runtime.NumGoroutine") = false) (hb : fn.body.isNone = true) (hx : Extern.findNext fn = none) (hf : Extern.find fn = some Go.Extern.BytealgCompare.compare)
    {c c' : Array Value} (h : Rows ok R c c') : Sim ok T Fz FL FC R (NRel ok T) (Go.callFunc f c) (Go.callFunc f c') := by
  unfold Go.callFunc
  refine .program ?_
  rw [show (prg T FL).funcs[f]? = some fn from h1, show (prg T FC).funcs[f]? = some fn from h2]
  simp only [hn, hb, hx, hf, Bool.false_eq_true, if_false, if_true]
  refine (Sim.markExtern f).bind fun R₁ k _ _ _ => ?_
  exact (Sim.compare (h.mono k)).toNext
end
end Go.Proofs.Ytgkakgibgfehaaa.Sim
