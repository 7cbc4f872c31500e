/-
  What a lone step can come to: it goes on, or the run ends. Nothing else (no wait, no other goroutine, no report of a panic), as long as there is a caller.
  A lone step looks at the tape only where it draws: on another tape that says the same there, it is the same step.
  WHAT A LONE CONTRACT SAYS OF STEPS. A contract says of each tape that the lone call comes to its return. Here it becomes a tree of steps ('Must'), which speaks of no tape: at each step, whatever is drawn there, the call goes on, and all branches end.
  A lone contract as a tree of steps: if the call comes to its return on each tape, then all branches end ('must_of').
  A lone contract in company: 'must_call' makes the tree of steps of a contract; 'must_step' takes one step of it in company; 'must_run' goes along the tree.
  GOROUTINE 0 BESIDE OTHERS THAT ONLY LEAVE: its next step is taken, after a number of the others' steps, by the machine.
-/
import Derived.Test.YtgkakgibgfehaaaSh12
import Derived.Conc.Beside
namespace Go.Proofs.Ytgkakgibgfehaaa.Sim
open Go.Conc (G)

def Fine (c0 : Frame) (cs : List Frame) (s : GStep) : Prop := match s with
  | .go g _ _ => g.status = .running ∧ g.dying = none ∧ (cs.length < g.callers.length ∨ (∃ v, g = G (c0.finish v) cs) ∨ ∃ ch, g = G (c0.raise ch) cs)
  | .ended .. => True
  | _ => False
theorem Fine.after {c0 : Frame} {cs : List Frame} {s : GStep} (h : Fine c0 cs s) (es : Array Event) : Fine c0 cs (GStep.after es s) := by
  cases s <;> first | exact h | exact h.elim

section
variable {ok : Cx} {T : Tables} {Fz : Fr} {FL FC : Array Func} {R : Ren} {w w' : World}

theorem apply_fine (hlim : ∀ n, Fz.lt n) {fr c0 : Frame} {cs : List Frame} {s s' : Sem Next} (hs : Sim ok T Fz FL FC R (NRel ok T) s s') (hw : WRel ok T Fz R w w') :
    Fine c0 cs (stepG.apply (prg T FL) true fr (c0 :: cs) none s w) := by
  have h1 := hs R (Le.refl R) w w' hw #[] (hlim _)
  rcases hL : s.runT (prg T FL) w #[] with ⟨r, ev⟩
  have hr : s.run (prg T FL) w = r := by rw [← Sem.runT_fst _ _ _ #[], hL]
  rw [hr] at h1
  unfold stepG.apply
  simp only [if_true, hL]
  refine Fine.after ?_ _
  cases r with
  | ok a w₂ =>
    obtain ⟨R₂, a', w₂', new, e, hx, hw2, hn, hev⟩ := h1
    cases hn with
    | value hv => exact ⟨rfl, rfl, .inl (by simp <;> omega)⟩
    | skip => exact ⟨rfl, rfl, .inl (by simp <;> omega)⟩
    | enter hf he hc => exact ⟨rfl, rfl, .inl (by simp <;> omega)⟩
    | round f a b hl hf hs hc ha hb => exact ⟨rfl, rfl, .inl (by simp <;> omega)⟩
  | halt hh w₂ =>
    obtain ⟨g1, g2⟩ := h1
    cases hh with
    | panic v => exact ⟨rfl, rfl, .inl (by simp <;> omega)⟩
    | stuck s => trivial
    | unsupported u =>
      cases u with
      | initOrder g => exact g1.elim
      | _ => trivial
    | _ => exact g1.elim
theorem return_fine {fr : Frame} (hk : fr.kind = .normal) {c0 : Frame} {cs : List Frame} {v : Value} : Fine c0 cs (doReturn (prg T FL) true fr (c0 :: cs) none v w) := by
  unfold doReturn
  simp only [hk]
  exact ⟨rfl, rfl, .inr (.inl ⟨_, rfl⟩)⟩
theorem leave_fine {fr : Frame} (hk : fr.kind = .normal) {c0 : Frame} {cs : List Frame} {k : List Item} {j : Option Code} (c : Prop) [Decidable c] : Fine c0 cs (match fr.roundOf with
      | none => if c then .go { frame := { fr with todo := k, mode := .returning }, callers := c0 :: cs, status := .running, dying := none } w else .ended (.stuck "exit, goto: no such block or label" (fr.pos (prg T FL))) w
      | some l => let (r, es) := (Instr.endRound l j).runT (prg T FL) w #[]
        GStep.after (seen (prg T FL) fr.fn es) <| match r with
        | .ok v w => doReturn (prg T FL) true fr (c0 :: cs) none v w
        | .halt _ w => .ended (.stuck "range over a function: no such loop" (fr.pos (prg T FL))) w) := by
  cases fr.roundOf with
  | none =>
    dsimp only
    split
    · exact ⟨rfl, rfl, .inl (by simp <;> omega)⟩
    · trivial
  | some l =>
    dsimp only
    rcases (Instr.endRound l j).runT (prg T FL) w #[] with ⟨r, ev⟩
    refine Fine.after ?_ _
    cases r with
    | ok v w => exact return_fine hk
    | halt => trivial
theorem exec_fine (hlim : ∀ n, Fz.lt n) (P : Progs ok T Fz FL FC) {fr fr' : Frame} (hfr : FRel ok T R fr fr') {c0 : Frame} {cs : List Frame} (hw : WRel ok T Fz R w w') : Fine c0 cs (stepG.exec (prg T FL) true true fr (c0 :: cs) none w) := by
  have ht := hfr.todo
  revert ht
  cases e : fr.todo with
  | nil =>
    intro ht
    unfold stepG.exec
    simp only [e]
    exact leave_fine (j := none) hfr.kind True
  | cons i k =>
    intro ht
    cases e' : fr'.todo with
    | nil => rw [e'] at ht; cases ht
    | cons i' k' =>
      rw [e'] at ht
      cases ht with
      | cons hi hk =>
        have to : ∀ {x : List Item}, Fine c0 cs (GStep.go { frame := { fr with todo := x }, callers := c0 :: cs, status := .running, dying := none } w) := fun {x} => ⟨rfl, rfl, .inl (by simp <;> omega)⟩
        cases hi with
        | inBlock n => unfold stepG.exec; simp only [e]; exact to
        | inLoop c hc => unfold stepG.exec; simp only [e]; exact to
        | inScope c hc => unfold stepG.exec; simp only [e]; exact to
        | inRangeFunc x => unfold stepG.exec; simp only [e]; trivial
        | beginRound =>
          unfold stepG.exec
          simp only [e]
          have hro := hfr.round
          revert hro
          generalize fr.roundOf = r
          generalize fr'.roundOf = r'
          intro hro
          cases hro with
          | none => exact apply_fine (FC := FC) hlim (s' := (Go.stuck "" : Sem Unit) >>= fun _ => Pure.pure Next.skip) (Sim.bind (α' := Unit) (A := fun _ _ _ => False) (f' := fun _ => Pure.pure Next.skip) .stuck fun _ _ _ _ h => h.elim) hw
          | some x => exact apply_fine (FC := FC) hlim (Sim.beginRound x).toSkip hw
        | @endRangeFunc l l' x =>
          unfold stepG.exec
          simp only [e]
          rcases (Instr.endLoop l).runT (prg T FL) w #[] with ⟨r, ev⟩
          refine Fine.after ?_ _
          cases r with
          | ok j w2 => exact ⟨rfl, rfl, .inl (by simp <;> omega)⟩
          | halt hh w2 => cases hh <;> first | trivial | exact ⟨rfl, rfl, .inl (by simp <;> omega)⟩
        | inRegion ops l hops =>
          cases l with
          | nil => unfold stepG.exec; simp only [e]; exact to
          | cons n l =>
            unfold stepG.exec
            simp only [e]
            split
            · unfold stepG.oper
              have ho : fr.oper? = ops[n]? := by unfold Frame.oper?; rw [e]
              rw [ho]
              cases hop : ops[n]? with
              | none => trivial
              | some o =>
                dsimp only
                have hok := all_ok hops hop
                have := apply_fine (fr := fr) (c0 := c0) (cs := cs) hlim (sim_oper P hfr.eval hok) hw
                cases fr.roundOf with
                | none => exact this
                | some l => cases ho : o.op <;> first | exact this | (rw [ho] at hok; cases hok)
            · exact ⟨rfl, rfl, .inl (by simp <;> omega)⟩
        | code c hc =>
          cases c with
          | skip => unfold stepG.exec; simp only [e]; exact to
          | label n => unfold stepG.exec; simp only [e]; exact to
          | ret => unfold stepG.exec; simp only [e]; exact leave_fine (j := some .ret) hfr.kind True
          | goto n => cases hc
          | refuse s => cases hc
          | seq a b => unfold stepG.exec; simp only [e]; exact to
          | block n b => unfold stepG.exec; simp only [e]; exact to
          | loop b => unfold stepG.exec; simp only [e]; exact to
          | scope b => unfold stepG.exec; simp only [e]; exact to
          | cond c a b =>
            unfold stepG.exec
            simp only [e]
            split <;> first | exact to | trivial
          | exit n =>
            unfold stepG.exec
            simp only [e]
            cases exitTo n k with
            | none => simp only [Option.elim]; exact leave_fine (k := []) (j := some (.exit n)) hfr.kind False
            | some x => exact to
          | region id ops draw =>
            unfold stepG.exec
            simp only [e]
            cases draw with
            | false => simp only [Bool.not_false, if_true]; exact to
            | true =>
              simp only [Bool.not_true, Bool.false_eq_true, if_false]
              simp only [choose, Sem.run, Question.forced, Bool.false_eq_true, if_false, Question.cut]
              exact to
          | rangeFunc f ps a b =>
            simp only [okCode, Bool.and_eq_true] at hc
            unfold stepG.exec
            simp only [e]
            have h1 := Sim.enterLoop (Fz := Fz) (FL := FL) (FC := FC) hfr.okf hfr.ord hfr.tmps ps hc.1.2 hc.2 hfr.round R (Le.refl R) w w' hw #[]
            rcases hL : (Instr.enterLoop fr.fn fr.tmps ps a b fr.roundOf).runT (prg T FL) w #[] with ⟨r, ev⟩
            have hr0 : (Instr.enterLoop fr.fn fr.tmps ps a b fr.roundOf).run (prg T FL) w = r := by rw [← Sem.runT_fst _ _ _ #[], hL]
            rw [hr0] at h1
            refine Fine.after ?_ _
            cases r with
            | halt hh w2 => trivial
            | ok x w2 =>
              obtain ⟨l, mk⟩ := x
              obtain ⟨R₂, x', w₂', new, e2, hx, hw2, hxx, hev⟩ := h1 (hlim _)
              obtain ⟨l', mk'⟩ := x'
              dsimp only at hxx ⊢
              have hfr2 : FRel ok T R₂ { fr with todo := .inRangeFunc l :: k, defers := mk ++ fr.defers } { fr' with todo := .inRangeFunc l' :: k', defers := mk' ++ fr'.defers } := by
                have f2 := hfr.mono hx.le
                refine ⟨f2.fn, f2.okf, f2.ord, f2.tmps, .cons (.inRangeFunc hxx.1) (hk.imp fun _ _ x => IRel.mono hx.le x), ?_, f2.mode, f2.kind, f2.kind', f2.round⟩
                exact hxx.2.append f2.defers
              have hs : Sim ok T Fz FL FC R₂ (NRel ok T) (do let d ← Go.resolve fr.eval { callee := .value f, args := #[.const (.func (.yield l) #[] #[])], argTypes := #[] } 0; Go.invoke d.target d.args) (do let d ← Go.resolve fr'.eval { callee := .value f, args := #[.const (.func (.yield l') #[] #[])], argTypes := #[] } 0; Go.invoke d.target d.args) := by
                refine Sim.bind (A := DRel ok T) ?_ fun R₃ k3 d d' hd => Sim.invoke P hd
                have ha : Rows ok R₂ (#[Operand.const (.func (.yield l) #[] #[])].map fr.eval) (#[Operand.const (.func (.yield l') #[] #[])].map fr'.eval) := by
                  simp only [List.map_toArray, List.map_cons, List.map_nil, Frame.eval]
                  exact .one (.funcR (.yield hxx.1) .empty .empty)
                exact Sim.ofValue ((hfr.eval f hc.1.1).mono hx.le) ha
              exact apply_fine (c0 := c0) (cs := cs) hlim hs hw2
theorem unwind_fine (P : Progs ok T Fz FL FC) {fr fr' : Frame} (hfr : FRel ok T R fr fr') (hm : fr.mode ≠ .run) {c0 : Frame} {cs : List Frame} : Fine c0 cs (unwind (prg T FL) true fr (c0 :: cs) none w) := by
  have hdf := hfr.defers
  revert hdf
  cases e : fr.defers with
  | cons d ds =>
    intro hdf
    cases e' : fr'.defers with
    | nil => rw [e'] at hdf; cases hdf
    | cons d' ds' =>
      rw [e'] at hdf
      cases hdf with
      | cons hx hds =>
        obtain ⟨r, r', rfl, rfl, hr⟩ := hx
        unfold unwind
        simp only [e]
        rcases (Instr.takeDeferred r).runT (prg T FL) w #[] with ⟨q, ev⟩
        refine Fine.after ?_ _
        cases q with
        | halt hh w2 => trivial
        | ok l w2 => exact ⟨rfl, rfl, .inl (by simp <;> omega)⟩
  | nil =>
    intro _
    unfold unwind
    simp only [e]
    obtain ⟨fn, fn', f1, f2, f3⟩ := P.2 fr.fn hfr.okf
    cases em : fr.mode with
    | run => exact absurd em hm
    | returning =>
      simp only [show (prg T FL).funcs[fr.fn]? = some fn from f1]
      rcases (results fn fr.tmps).runT (prg T FL) w #[] with ⟨q, ev⟩
      refine Fine.after ?_ _
      cases q with
      | ok v w => exact return_fine hfr.kind
      | halt hh w => cases hh <;> trivial
    | panicking c =>
      dsimp only
      split
      · trivial
      · exact ⟨rfl, rfl, .inr (.inr ⟨_, rfl⟩)⟩
theorem step_fine (hlim : ∀ n, Fz.lt n) (P : Progs ok T Fz FL FC) {fr fr' : Frame} (hfr : FRel ok T R fr fr') {c0 : Frame} {cs : List Frame} (hw : WRel ok T Fz R w w') : Fine c0 cs (stepG (prg T FL) true (G fr (c0 :: cs)) w) := by
  by_cases hr : fr.mode = .run
  · rw [stepG_run hr]; exact exec_fine hlim P hfr hw
  · rw [stepG_unw hr]; exact unwind_fine P hfr hr
end
end Go.Proofs.Ytgkakgibgfehaaa.Sim

namespace Go.Proofs.Ytgkakgibgfehaaa.Sim
open Go.Conc (G)

/-- The world, on this tape, so many draws along. -/
def on (w : World) (t : Nat → Question → Nat) (d : Nat) : World := { w with tape := t, drawn := d }
@[simp] theorem on_self (w : World) : on w w.tape w.drawn = w := rfl
theorem world_eq {w w' : World} (h : w'.heap = w.heap) (h1 : w'.tape = w.tape) (h2 : w'.drawn = w.drawn) (h3 : w'.os = w.os) (h4 : w'.output = w.output) : w' = w := by
  cases w; cases w'; simp only at h h1 h2 h3 h4; subst h h1 h2 h3 h4; rfl

/-- Nothing is frozen for good. -/
abbrev noFz (l : Option Nat) : Fr := ⟨fun _ => False, l, true⟩
/-- What stands in the frames and in the blocks that they reach keeps to what the relation speaks of. -/
structure Self (ok : Cx) (T : Tables) (R : Ren) (fr : Frame) (cs : List Frame) (w : World) : Prop where
  diag : Diag R
  frame : FRel ok T R fr fr
  callers : LRel (FRel ok T R) cs cs
  world : WRel ok T (noFz none) R w w
/-- The functions, as far as the checks go. -/
structure Sound (ok : Cx) (T : Tables) (F : Array Func) : Prop where
  progs : ∀ l, Progs ok T (noFz l) F F
  inits : ∀ f, ok.ok f = true → T.inits.idxOf? f = none
  still : ∀ b, ok.sh b = 0
  all : ∀ f, ok.ok f = true → ok.rd f = true

section
variable {ok : Cx} {T : Tables} {F : Array Func} {R : Ren} {fr : Frame} {cs bL : List Frame} {w : World}

theorem WRel.redraw (h : WRel ok T (noFz none) R w w) {l : Option Nat} {t t' : Nat → Question → Nat} {d d' : Nat} (ht : ∀ j, (noFz l).lt (d + j + 1) → t' (d' + j) = t (d + j)) : WRel ok T (noFz l) R (on w t d) (on w t' d') := by
  refine ⟨h.one, fun b c b' x y => (h.inj b c b' x y).imp id fun z => z, fun b b' x => ?_, h.new, fun b hz => hz.elim, h.glob, h.big, rfl, ht⟩
  obtain ⟨o, o', h1, h2, h3⟩ := h.obj b b' x
  exact ⟨o, o', h1, h2, h3⟩

theorem cancel {c1 c2 bL : List Frame} {f1 f2 : Frame} (h : G f1 (c1 ++ bL) = G f2 (c2 ++ bL)) : f1 = f2 ∧ c1 = c2 := by
  unfold G at h
  simp only [Goroutine.mk.injEq] at h
  exact ⟨h.1, List.append_cancel_right h.2.1⟩
theorem ext_diag (h0 : ∀ b, ok.sh b = 0) {l : Option Nat} {t t' : Nat → Question → Nat} {d d' : Nat} (hD : Diag R) {R₁ : Ren} {w₁ w₁' : World} (hx : Ext (noFz l) R (on w t d) (on w t' d') R₁ w₁ w₁') (hw : WRel ok T (noFz l) R₁ w₁ w₁') :
    Diag R₁ ∧ d ≤ w₁.drawn ∧ w₁'.drawn = d' + (w₁.drawn - d) ∧ w₁'.heap = w₁.heap ∧ w₁' = on { w₁ with output := w.output } t' (d' + (w₁.drawn - d)) := by
  have hD1 : Diag R₁ := by
    intro b b' x
    rcases hx.new b b' x with x | ⟨-, -, x⟩
    · exact hD _ _ x
    · exact Nat.add_right_cancel x
  have hsz : w₁'.heap.size = w₁.heap.size := by
    have := hx.grow
    simp only [on] at this
    omega
  have hheap : w₁'.heap = w₁.heap := by
    apply Array.ext hsz
    intro b h1 h2
    have : w₁'.heap[b]? = w₁.heap[b]? := by
      by_cases hb : ∃ b', R₁ b b'
      · obtain ⟨b', hb⟩ := hb
        obtain rfl := hD1 _ _ hb
        obtain ⟨o, o', k1, k2, k3⟩ := hw.obj _ _ hb
        rcases k3 with ⟨_, _, k3⟩ | ⟨k3, _⟩
        · rw [k1, k2, k3.diag hD1 h0]
        · exact k3.elim
      · have hlt : b < w.heap.size := by
          rcases Nat.lt_or_ge b w.heap.size with x | x
          · exact x
          · exact absurd (hx.all b x h2) hb
        have hn : ∀ b', ¬ R b b' := fun b' x => hb ⟨b', hx.le _ _ x⟩
        have e1 := hx.lkeep b hlt hn
        have e2 := hx.keep b hlt fun c x => by
          obtain rfl := hD _ _ x
          exact absurd x (hn _)
        exact e2.trans e1.symm
    rw [Array.getElem?_eq_getElem h1, Array.getElem?_eq_getElem h2] at this
    exact Option.some.inj this
  have hm := hx.mono
  have hdr : w₁'.drawn = d' + (w₁.drawn - d) := by
    have := hx.draws
    simp only [on] at this hm
    omega
  have e : w₁' = on { w₁ with output := w.output } t' (d' + (w₁.drawn - d)) := world_eq hheap hx.tape hdr (hw.os) (hx.output)
  exact ⟨hD1, hm, hdr, hheap, e⟩
/-- What comes of a step from two worlds that differ in the tape alone. -/
theorem went_diag (C : Sound ok T F) {l : Option Nat} {t t' : Nat → Question → Nat} {d d' : Nat} (hD : Diag R) {g₁ : Goroutine} {w₁ : World} {s : GStep}
    (h : Went ok T (noFz l) F F bL bL R (on w t d) (on w t' d') g₁ w₁ s) : ∃ fr₁ cs₁ R₁ es, g₁ = G fr₁ (cs₁ ++ bL) ∧ s = .go g₁ (on { w₁ with output := w.output } t' (d' + (w₁.drawn - d))) es ∧ Diag R₁ ∧ FRel ok T R₁ fr₁ fr₁ ∧ LRel (FRel ok T R₁) cs₁ cs₁ ∧ d ≤ w₁.drawn ∧ w₁.tape = t ∧
      WRel ok T (noFz l) R₁ w₁ (on w₁ t' (d' + (w₁.drawn - d))) := by
  obtain ⟨R₁, g₁', w₁', es, rfl, ⟨fr₁, cs₁, fr', cs', rfl, rfl, ht, hc⟩, hx, hw, -⟩ := h
  obtain ⟨hD1, hm, hdr, hheap, e⟩ := ext_diag C.still hD hx hw
  have hf : FRel ok T R₁ fr₁ fr' := by
    cases ht with
    | ord h => exact h
    | sp f _ h1 h2 _ => rw [C.all f h1] at h2; cases h2
  obtain rfl := hf.diag hD1 C.still
  obtain rfl := hc.diag fun _ _ x => x.diag hD1 C.still
  refine ⟨_, _, R₁, es, rfl, by rw [e], hD1, hf, hc, hm, hx.ltape, ⟨hw.one, hw.inj, fun b b' x => ?_, hw.new, hw.fz, hw.glob, ⟨hw.big.1, hw.big.1⟩, rfl, fun j hj => ?_⟩⟩
  · obtain ⟨o, o', k1, k2, k3⟩ := hw.obj b b' x
    exact ⟨o, o', k1, by rw [← k2, hheap]; rfl, k3⟩
  · have := hw.tape j hj
    rw [hdr, hx.tape] at this
    exact this

/-- ONE STEP, AND THE TAPE. -/
theorem step_loc (C : Sound ok T F) (S : Self ok T R fr cs w) {t : Nat → Question → Nat} {d : Nat} {g₁ : Goroutine} {w₁ : World} {es : Array Event} (h : stepG (prg T F) true (G fr (cs ++ bL)) (on w t d) = .go g₁ w₁ es)
    (hd : g₁.dying = none) (hs : g₁.status = .running) (hb : bL.length ≤ g₁.callers.length) :
    ∃ fr₁ cs₁ R₁, g₁ = G fr₁ (cs₁ ++ bL) ∧ Self ok T R₁ fr₁ cs₁ w₁ ∧ d ≤ w₁.drawn ∧ w₁.tape = t ∧
      ∀ t' d', (∀ j, d + j + 1 ≤ w₁.drawn → t' (d' + j) = t (d + j)) → ∃ es', stepG (prg T F) true (G fr (cs ++ bL)) (on w t' d') = .go g₁ (on w₁ t' (d' + (w₁.drawn - d))) es' := by
  have h1 := sim_step (bL := bL) (bC := bL) (Fz := noFz none) (m' := true) (C.progs _) C.inits S.frame S.callers (S.world.redraw (t := t) (t' := t) (d := d) (d' := d) fun _ _ => rfl) h (fun _ h => by cases h) hd hs hb
  obtain ⟨fr₁, cs₁, R₁, es1, rfl, e1, hD, hF, hC, hm, ht, hW⟩ := went_diag C S.diag h1
  rw [h] at e1
  injection e1 with _ e2 _
  have eo : w₁.output = w.output := by
    have := congrArg (fun x : World => x.output) e2
    exact this
  have ed : d + (w₁.drawn - d) = w₁.drawn := by omega
  have ew : on w₁ t (d + (w₁.drawn - d)) = w₁ := by rw [ed, ← ht]; rfl
  rw [ew] at hW
  refine ⟨fr₁, cs₁, R₁, rfl, ⟨hD, hF, hC, hW⟩, hm, ht, fun t' d' hag => ?_⟩
  have h2 := sim_step (bL := bL) (bC := bL) (Fz := noFz (some w₁.drawn)) (m' := true) (C.progs _) C.inits S.frame S.callers (S.world.redraw (t := t) (t' := t') (d := d) (d' := d') fun j hj => hag j (hj _ rfl)) h (fun m h => by cases h; exact Nat.le_refl _) hd hs hb
  obtain ⟨_, _, _, es2, _, e3, -⟩ := went_diag C S.diag h2
  refine ⟨es2, e3.trans ?_⟩
  rw [← eo]
end
end Go.Proofs.Ytgkakgibgfehaaa.Sim

namespace Go.Proofs.Ytgkakgibgfehaaa.Sim
open Go.Conc (G)

/-- A caller with which nothing can be done. -/
def junk : Frame := { fn := 0, tmps := #[], todo := [.code (.refuse "")], defers := [{ target := .nil, args := #[] }], mode := .run, kind := .normal }
theorem junk_finish (P : Program) (v : Value) (w : World) : ∃ o w', stepG P true (G (junk.finish v) []) w = .ended o w' := by
  show ∃ o w', stepG.exec P true true junk [] none w = .ended o w'
  unfold stepG.exec
  exact ⟨_, _, rfl⟩
theorem junk_raise (P : Program) (c : List PanicEntry) (w : World) : ∃ o w', stepG P true (G (junk.raise c) []) w = .ended o w' := by
  show ∃ o w', unwind P true { junk with mode := .panicking c } [] none w = .ended o w'
  unfold unwind
  simp only [junk]
  unfold callDeferred
  exact ⟨_, _, rfl⟩

inductive Must (P : Program) (bL : List Frame) (Q : Value → World → Prop) : Frame → List Frame → World → Prop
  | stop {fr : Frame} {w : World} : (∀ t d, ∃ v, fr.leaving P (on w t d) (.returned v) ∧ Q v (on w t d)) → Must P bL Q fr [] w
  | step {fr : Frame} {cs : List Frame} {w : World} (f₁ : (Nat → Question → Nat) → Nat → Frame) (c₁ : (Nat → Question → Nat) → Nat → List Frame) (w₁ : (Nat → Question → Nat) → Nat → World) (es : (Nat → Question → Nat) → Nat → Array Event) :
      (∀ t d, stepG P true (G fr (cs ++ bL)) (on w t d) = .go (G (f₁ t d) (c₁ t d ++ bL)) (w₁ t d) (es t d)) → (∀ t d, Must P bL Q (f₁ t d) (c₁ t d) (w₁ t d)) → Must P bL Q fr cs w
theorem Must.next {P : Program} {bL : List Frame} {Q : Value → World → Prop} {fr : Frame} {cs : List Frame} {w : World} (h : ∀ t d, ∃ fr₁ cs₁ w₁ es, stepG P true (G fr (cs ++ bL)) (on w t d) = .go (G fr₁ (cs₁ ++ bL)) w₁ es ∧ Must P bL Q fr₁ cs₁ w₁) : Must P bL Q fr cs w := by
  have h' : ∀ x : (Nat → Question → Nat) × Nat, ∃ y : Frame × List Frame × World × Array Event, stepG P true (G fr (cs ++ bL)) (on w x.1 x.2) = .go (G y.1 (y.2.1 ++ bL)) y.2.2.1 y.2.2.2 ∧ Must P bL Q y.1 y.2.1 y.2.2.1 := by
    intro x
    obtain ⟨a, b, c, e, h⟩ := h x.1 x.2
    exact ⟨⟨a, b, c, e⟩, h⟩
  have hc := fun x => Classical.choose_spec (h' x)
  exact .step (fun t d => (Classical.choose (h' (t, d))).1) (fun t d => (Classical.choose (h' (t, d))).2.1) (fun t d => (Classical.choose (h' (t, d))).2.2.1) (fun t d => (Classical.choose (h' (t, d))).2.2.2) (fun t d => (hc (t, d)).1) fun t d => (hc (t, d)).2

/-- Within n steps the lone run stands at the return. -/
def ReachN (P : Program) (Q : Value → World → Prop) (n : Nat) (fr : Frame) (cs : List Frame) (w : World) : Prop :=
  ∃ fr' w' v, runN P n (lone fr (cs ++ [junk]) w) = .next (lone fr' [junk] w') ∧ fr'.leaving P w' (.returned v) ∧ Q v w'

theorem lone_inj {f f' : Frame} {c c' : List Frame} {w w' : World} (h : lone f c w = lone f' c' w') : f = f' ∧ c = c' ∧ w = w' := by
  have h1 := congrArg (fun m : Machine => m.gs) h
  have h2 := congrArg (fun m : Machine => m.world) h
  simp only [lone] at h1 h2
  have h3 : ({ frame := f, callers := c, status := .running, dying := none } : Goroutine) = { frame := f', callers := c', status := .running, dying := none } := by
    have := congrArg (fun a : Array Goroutine => a[0]?) h1
    simpa using this
  simp only [Goroutine.mk.injEq] at h3
  exact ⟨h3.1, h3.2.1, h2⟩

section
variable {ok : Cx} {T : Tables} {F : Array Func} {R : Ren} {fr : Frame} {cs : List Frame} {w : World} {Q : Value → World → Prop}

/-- A frame that leaves comes to its caller. -/
theorem leaving_step {P : Program} {c : Frame} {cs : List Frame} {f₁ : Frame} {c₁ : List Frame} {w₁ : World} {es : Array Event} (hm : fr.mode = .returning) (hd : fr.defers = []) (hk : fr.kind = .normal) (hf : ∃ fn, P.funcs[fr.fn]? = some fn)
    (h : stepG P true (G fr (c :: cs)) w = .go (G f₁ c₁) w₁ es) : c₁ = cs := by
  obtain ⟨fn, hf⟩ := hf
  rw [stepG_unw (by rw [hm]; intro h; cases h)] at h
  unfold unwind at h
  simp only [hd, hm, hf] at h
  revert h
  rcases (results fn fr.tmps).runT P w #[] with ⟨q, ev⟩
  intro h
  dsimp only at h
  cases q with
  | halt hh w => cases hh <;> simp only [GStep.after] at h <;> cases h
  | ok v w =>
    unfold doReturn at h
    simp only [hk, GStep.after] at h
    cases h
    rfl

/-- At the return the tape is not looked at. -/
theorem leaving_on (C : Sound ok T F) (S : Self ok T R fr cs w) {v : Value} {t : Nat → Question → Nat} {d : Nat} (h : fr.leaving (prg T F) (on w t d) (.returned v)) (t' : Nat → Question → Nat) (d' : Nat) : fr.leaving (prg T F) (on w t' d') (.returned v) := by
  obtain ⟨hm, hd, hk, fn, hf, hr⟩ := h
  refine ⟨hm, hd, hk, fn, hf, ?_⟩
  have h1 := results_sim (Fz := noFz (some d)) (FL := F) (FC := F) (fn := fn) S.frame.tmps R (Le.refl R) (on w t d) (on w t' d') (S.world.redraw fun j hj => absurd (hj d rfl) (by omega)) #[]
  rw [hr] at h1
  obtain ⟨R₁, v', w₁', new, e, hx, hw, hv, -⟩ := h1 (fun m h => by cases h; exact Nat.le_refl _)
  obtain ⟨hD, -, -, -, ew⟩ := ext_diag C.still S.diag hx hw
  obtain rfl := hv.diag hD C.still
  have e2 : (results fn fr.tmps).run (prg T F) (on w t' d') = .ok v' w₁' := by
    rw [← Sem.runT_fst _ _ _ #[], e]
  rw [e2, ew]
  have : d' + ((on w t d).drawn - d) = d' := by simp [on]
  rw [this]
  rfl

/-- One step of a call that comes to its return. -/
theorem reach_step (C : Sound ok T F) (S : Self ok T R fr cs w) {n : Nat} {t : Nat → Question → Nat} {d : Nat} (h : ReachN (prg T F) Q n fr cs (on w t d)) :
    (cs = [] ∧ n = 0 ∧ ∃ v, fr.leaving (prg T F) (on w t d) (.returned v) ∧ Q v (on w t d)) ∨
    ∃ m fr₁ cs₁ w₁ es R₁, n = m + 1 ∧ stepG (prg T F) true (G fr (cs ++ [junk])) (on w t d) = .go (G fr₁ (cs₁ ++ [junk])) w₁ es ∧ Self ok T R₁ fr₁ cs₁ w₁ ∧ ReachN (prg T F) Q m fr₁ cs₁ w₁ ∧ d ≤ w₁.drawn ∧ w₁.tape = t ∧
      ∀ t' d', (∀ j, d + j + 1 ≤ w₁.drawn → t' (d' + j) = t (d + j)) → ∃ es', stepG (prg T F) true (G fr (cs ++ [junk])) (on w t' d') = .go (G fr₁ (cs₁ ++ [junk])) (on w₁ t' (d' + (w₁.drawn - d))) es' := by
  obtain ⟨fr', w', v, hr, hl, hq⟩ := h
  cases n with
  | zero =>
    simp only [runN, Stepped.next.injEq] at hr
    obtain ⟨rfl, hc, rfl⟩ := lone_inj hr
    have : cs = [] := List.append_cancel_right (bs := [junk]) (cs := []) (by simpa using hc)
    exact .inl ⟨this, rfl, v, hl, hq⟩
  | succ n =>
    right
    simp only [runN] at hr
    obtain ⟨c0, rest, hcs⟩ : ∃ c0 rest, cs ++ [junk] = c0 :: rest := by cases cs <;> exact ⟨_, _, rfl⟩
    have hfine := step_fine (Fz := noFz none) (c0 := c0) (cs := rest) (fun _ _ h => by cases h) (C.progs _) S.frame (S.world.redraw (t := t) (t' := t) (d := d) (d' := d) fun _ _ => rfl)
    rw [← hcs] at hfine
    cases hs : stepG (prg T F) true (G fr (cs ++ [junk])) (on w t d) with
    | ended o w₁ es =>
      rw [step_lone_ended (o := o) (w' := w₁) (by show GStep.bare (stepG _ _ (G fr (cs ++ [junk])) _) = _; rw [hs]; rfl)] at hr
      cases hr
    | go g₁ w₁ es =>
      rw [hs] at hfine
      obtain ⟨k1, k2, k3⟩ := hfine
      by_cases hb : [junk].length ≤ g₁.callers.length
      · obtain ⟨fr₁, cs₁, R₁, rfl, S1, hm, ht, hl2⟩ := step_loc C S hs k2 k1 hb
        rw [step_lone_go (fr' := fr₁) (cs' := cs₁ ++ [junk]) (w' := w₁) (by show GStep.bare (stepG _ _ (G fr (cs ++ [junk])) _) = _; rw [hs]; rfl)] at hr
        exact ⟨n, fr₁, cs₁, w₁, es, R₁, rfl, rfl, S1, ⟨fr', w', v, hr, hl, hq⟩, hm, ht, hl2⟩
      · exfalso
        have hg : rest = [] ∧ c0 = junk ∧ ((∃ v, g₁ = G (junk.finish v) []) ∨ ∃ ch, g₁ = G (junk.raise ch) []) := by
          have h0 : g₁.callers.length = 0 := by simp at hb ⊢; exact hb
          have hr0 : rest = [] := by
            rcases k3 with k3 | ⟨_, rfl⟩ | ⟨_, rfl⟩
            · omega
            · exact List.length_eq_zero_iff.1 h0
            · exact List.length_eq_zero_iff.1 h0
          subst hr0
          have hc0 : c0 = junk := by
            cases cs with
            | nil => simp at hcs; exact hcs.symm
            | cons a l => simp at hcs
          subst hc0
          refine ⟨rfl, rfl, k3.resolve_left (by omega)⟩
        obtain ⟨rfl, rfl, hg⟩ := hg
        have hend : ∃ f, g₁ = G f [] ∧ ∃ o w', stepG (prg T F) true (G f []) w₁ = .ended o w' := by
          rcases hg with ⟨v, rfl⟩ | ⟨ch, rfl⟩
          · exact ⟨_, rfl, junk_finish _ _ _⟩
          · exact ⟨_, rfl, junk_raise _ _ _⟩
        obtain ⟨f, rfl, o, w2, he⟩ := hend
        rw [step_lone_go (fr' := f) (cs' := []) (w' := w₁) (by show GStep.bare (stepG _ _ (G fr (cs ++ [junk])) _) = _; rw [hs]; rfl)] at hr
        dsimp only at hr
        cases n with
        | zero =>
          simp only [runN, Stepped.next.injEq] at hr
          obtain ⟨_, hc, _⟩ := lone_inj hr
          cases hc
        | succ n =>
          simp only [runN] at hr
          rw [step_lone_ended (o := o) (w' := w2) (by show GStep.bare (stepG _ _ (G f []) _) = _; rw [he]; rfl)] at hr
          cases hr
    | _ => rw [hs] at hfine; exact hfine.elim
end
end Go.Proofs.Ytgkakgibgfehaaa.Sim

namespace Go.Proofs.Ytgkakgibgfehaaa.Sim
open Go.Conc (G)
abbrev Tape := Nat → Question → Nat
section
variable {ok : Cx} {T : Tables} {F : Array Func} {Q : Value → World → Prop}

theorem reach_cons {P : Program} {fr fr₁ : Frame} {cs cs₁ : List Frame} {w w₁ : World} {es : Array Event} {m : Nat} (h : stepG P true (G fr (cs ++ [junk])) w = .go (G fr₁ (cs₁ ++ [junk])) w₁ es) (k : ReachN P Q m fr₁ cs₁ w₁) : ReachN P Q (m + 1) fr cs w := by
  obtain ⟨fr', w', v, hr, hl, hq⟩ := k
  refine ⟨fr', w', v, ?_, hl, hq⟩
  simp only [runN]
  rw [step_lone_go (fr' := fr₁) (cs' := cs₁ ++ [junk]) (w' := w₁) (by show GStep.bare (stepG _ _ (G fr (cs ++ [junk])) _) = _; rw [h]; rfl)]
  exact hr
/-- The tape's beginning is not looked at. -/
theorem reach_shift (C : Sound ok T F) (hQ : ∀ v w t d, Q v w → Q v (on w t d)) {t t' : Tape} : ∀ (n : Nat) {R : Ren} {fr : Frame} {cs : List Frame} {w : World} {d d' : Nat}, Self ok T R fr cs w → (∀ j, t' (d' + j) = t (d + j)) → ReachN (prg T F) Q n fr cs (on w t d) → ReachN (prg T F) Q n fr cs (on w t' d') := by
  intro n
  induction n with
  | zero =>
    intro R fr cs w d d' S ht h
    rcases reach_step C S h with ⟨rfl, -, v, hl, hq⟩ | ⟨m, _, _, _, _, _, hm, _⟩
    · exact ⟨fr, _, v, rfl, leaving_on C S hl t' d', hQ v (on w t d) t' d' hq⟩
    · omega
  | succ n ih =>
    intro R fr cs w d d' S ht h
    rcases reach_step C S h with ⟨-, h0, -⟩ | ⟨m, fr₁, cs₁, w₁, es, R₁, hm, hs, S1, hr, hd, htp, hl⟩
    · omega
    obtain rfl : m = n := by omega
    obtain ⟨es', hs'⟩ := hl t' d' fun j _ => ht j
    refine reach_cons hs' (ih (d := w₁.drawn) S1 (fun j => ?_) ?_)
    · have := ht ((w₁.drawn - d) + j)
      rw [← Nat.add_assoc] at this
      rw [this]
      congr 1
      omega
    · have : on w₁ t w₁.drawn = w₁ := by rw [← htp]; rfl
      rw [this]
      exact hr

/-- What stands at a place of the tree that has no end below. -/
def Bad (ok : Cx) (T : Tables) (F : Array Func) (Q : Value → World → Prop) (s : Frame × List Frame × World) : Prop :=
  (∃ R, Self ok T R s.1 s.2.1 s.2.2) ∧ (∀ t d, ∃ n, ReachN (prg T F) Q n s.1 s.2.1 (on s.2.2 t d)) ∧ ¬ Must (prg T F) [junk] Q s.1 s.2.1 s.2.2

theorem bad_next (C : Sound ok T F) (hQ : ∀ v w t d, Q v w → Q v (on w t d)) (s : Frame × List Frame × World) (h : Bad ok T F Q s) :
    ∃ x : Tape × Nat × (Frame × List Frame × World), Bad ok T F Q x.2.2 ∧ x.2.1 ≤ x.2.2.2.2.drawn ∧ ∀ t' d', (∀ j, x.2.1 + j + 1 ≤ x.2.2.2.2.drawn → t' (d' + j) = x.1 (x.2.1 + j)) →
      ∃ es', stepG (prg T F) true (G s.1 (s.2.1 ++ [junk])) (on s.2.2 t' d') = .go (G x.2.2.1 (x.2.2.2.1 ++ [junk])) (on x.2.2.2.2 t' (d' + (x.2.2.2.2.drawn - x.2.1))) es' := by
  obtain ⟨fr, cs, w⟩ := s
  obtain ⟨⟨R, S⟩, hr, hM⟩ := h
  dsimp only at S hr hM ⊢
  have noLeave : ∀ t d v, ¬ (cs = [] ∧ fr.leaving (prg T F) (on w t d) (.returned v)) := by
    rintro t d v ⟨rfl, hl⟩
    refine hM (.stop fun t' d' => ?_)
    obtain ⟨n, h⟩ := hr t' d'
    rcases reach_step C S h with ⟨-, -, v', h1, h2⟩ | ⟨m, fr₁, cs₁, w₁, es, R₁, hm, hs, -⟩
    · exact ⟨v', h1, h2⟩
    · obtain ⟨k1, k2, k3, fn, k4, -⟩ := hl
      have := leaving_step k1 k2 k3 ⟨fn, k4⟩ hs
      simp at this
  have goes : ∀ t d, ∃ m fr₁ cs₁ w₁ es R₁, stepG (prg T F) true (G fr (cs ++ [junk])) (on w t d) = .go (G fr₁ (cs₁ ++ [junk])) w₁ es ∧ Self ok T R₁ fr₁ cs₁ w₁ ∧ ReachN (prg T F) Q m fr₁ cs₁ w₁ ∧ d ≤ w₁.drawn ∧ w₁.tape = t ∧
      ∀ t' d', (∀ j, d + j + 1 ≤ w₁.drawn → t' (d' + j) = t (d + j)) → ∃ es', stepG (prg T F) true (G fr (cs ++ [junk])) (on w t' d') = .go (G fr₁ (cs₁ ++ [junk])) (on w₁ t' (d' + (w₁.drawn - d))) es' := by
    intro t d
    obtain ⟨n, h⟩ := hr t d
    rcases reach_step C S h with ⟨h0, -, v', h1, -⟩ | ⟨m, fr₁, cs₁, w₁, es, R₁, hm, h⟩
    · exact absurd ⟨h0, h1⟩ (noLeave t d v')
    · exact ⟨m, fr₁, cs₁, w₁, es, R₁, h⟩
  have hex : ∃ t d fr₁ cs₁ w₁ es, stepG (prg T F) true (G fr (cs ++ [junk])) (on w t d) = .go (G fr₁ (cs₁ ++ [junk])) w₁ es ∧ ¬ Must (prg T F) [junk] Q fr₁ cs₁ w₁ := by
    refine Classical.byContradiction fun hn => hM (.next fun t d => ?_)
    obtain ⟨m, fr₁, cs₁, w₁, es, R₁, hs, -⟩ := goes t d
    exact ⟨fr₁, cs₁, w₁, es, hs, Classical.byContradiction fun hm => hn ⟨t, d, fr₁, cs₁, w₁, es, hs, hm⟩⟩
  obtain ⟨t, d, fr₁, cs₁, w₁, es, hs, hm⟩ := hex
  obtain ⟨m, fr₂, cs₂, w₂, es2, R₂, hs2, S2, -, hd, htp, hl⟩ := goes t d
  rw [hs] at hs2
  injection hs2 with e1 e2 e3
  obtain ⟨rfl, rfl⟩ := cancel e1
  subst e2
  refine ⟨(t, d, (fr₁, cs₁, w₁)), ⟨⟨R₂, S2⟩, fun t' d' => ?_, hm⟩, hd, hl⟩
  -- the two tapes, one behind the other
  let u : Tape := fun j => if j < w₁.drawn then t j else t' (d' + (j - w₁.drawn))
  obtain ⟨es', hu⟩ := hl u d fun j hj => by simp only [u]; rw [if_pos (by omega)]
  have ed : d + (w₁.drawn - d) = w₁.drawn := by omega
  rw [ed] at hu
  obtain ⟨m', fr₃, cs₃, w₃, es3, R₃, hs3, S3, hr3, -⟩ := goes u d
  rw [hu] at hs3
  injection hs3 with e1 e2 e3
  obtain ⟨rfl, rfl⟩ := cancel e1
  subst e2
  refine ⟨m', reach_shift C hQ (t := u) m' (d := w₁.drawn) S2 (fun j => ?_) hr3⟩
  simp only [u]
  rw [if_neg (by omega)]
  congr 1
  omega

theorem must_of (C : Sound ok T F) (hQ : ∀ v w t d, Q v w → Q v (on w t d)) {R : Ren} {fr : Frame} {cs : List Frame} {w : World} (S : Self ok T R fr cs w) (h : ∀ t d, ∃ n, ReachN (prg T F) Q n fr cs (on w t d)) : Must (prg T F) [junk] Q fr cs w := by
  refine Classical.byContradiction fun hM => ?_
  have hnext := bad_next (Q := Q) C hQ
  let pick : ∀ s : { s // Bad ok T F Q s }, { x : Tape × Nat × (Frame × List Frame × World) // Bad ok T F Q x.2.2 } := fun s => ⟨Classical.choose (hnext s.1 s.2), (Classical.choose_spec (hnext s.1 s.2)).1⟩
  have hpick := fun s : { s // Bad ok T F Q s } => (Classical.choose_spec (hnext s.1 s.2)).2
  let seq : Nat → { s // Bad ok T F Q s } := fun n => Nat.rec ⟨(fr, cs, w), ⟨⟨R, S⟩, h, hM⟩⟩ (fun _ s => ⟨(pick s).1.2.2, (pick s).2⟩) n
  let tp : Nat → Tape := fun i => (pick (seq i)).1.1
  let dd : Nat → Nat := fun i => (pick (seq i)).1.2.1
  let kk : Nat → Nat := fun i => (seq (i + 1)).1.2.2.drawn - dd i
  let D : Nat → Nat := fun n => Nat.rec 0 (fun i x => x + kk i) n
  have hD : ∀ i, D (i + 1) = D i + kk i := fun _ => rfl
  have hmono : ∀ i j, D i ≤ D (i + j) := by
    intro i j
    induction j with
    | zero => exact Nat.le_refl _
    | succ j ih => exact Nat.le_trans ih (by show D (i + j) ≤ D (i + j + 1); rw [hD]; omega)
  have huniq : ∀ i j n, D i ≤ n → n < D (i + 1) → D j ≤ n → n < D (j + 1) → i = j := by
    intro i j n h1 h2 h3 h4
    rcases Nat.lt_trichotomy i j with x | x | x
    · have := hmono (i + 1) (j - (i + 1))
      rw [show i + 1 + (j - (i + 1)) = j by omega] at this
      omega
    · exact x
    · have := hmono (j + 1) (i - (j + 1))
      rw [show j + 1 + (i - (j + 1)) = i by omega] at this
      omega
  let U : Tape := fun n => open Classical in if h : ∃ i, D i ≤ n ∧ n < D (i + 1) then tp (Classical.choose h) (dd (Classical.choose h) + (n - D (Classical.choose h))) else fun _ => 0
  have hU : ∀ i j, j < kk i → U (D i + j) = tp i (dd i + j) := by
    intro i j hj
    have hex : ∃ i', D i' ≤ D i + j ∧ D i + j < D (i' + 1) := ⟨i, Nat.le_add_right _ _, by rw [hD]; omega⟩
    have hsp := Classical.choose_spec hex
    have : Classical.choose hex = i := (huniq _ _ _ hsp.1 hsp.2 (Nat.le_add_right _ _) (by rw [hD]; omega))
    simp only [U]
    rw [dif_pos hex, this, Nat.add_sub_cancel_left]
  have hstep : ∀ i, ∃ es, stepG (prg T F) true (G (seq i).1.1 ((seq i).1.2.1 ++ [junk])) (on (seq i).1.2.2 U (D i)) = .go (G (seq (i + 1)).1.1 ((seq (i + 1)).1.2.1 ++ [junk])) (on (seq (i + 1)).1.2.2 U (D (i + 1))) es := by
    intro i
    obtain ⟨-, h2⟩ := hpick (seq i)
    refine h2 U (D i) fun j hj => hU i j ?_
    show j < (seq (i + 1)).1.2.2.drawn - dd i
    have hj' : dd i + j + 1 ≤ (seq (i + 1)).1.2.2.drawn := hj
    omega
  have hno : ∀ n i, ReachN (prg T F) Q n (seq i).1.1 (seq i).1.2.1 (on (seq i).1.2.2 U (D i)) → False := by
    intro n
    induction n with
    | zero =>
      intro i hr
      obtain ⟨R₀, S₀⟩ := (seq i).2.1
      obtain ⟨es, hs⟩ := hstep i
      rcases reach_step C S₀ hr with ⟨h0, -, v, ⟨k1, k2, k3, fn, k4, -⟩, -⟩ | ⟨m, _, _, _, _, _, hm, _⟩
      · rw [h0] at hs
        have := leaving_step k1 k2 k3 ⟨fn, k4⟩ hs
        simp at this
      · omega
    | succ n ih =>
      intro i hr
      obtain ⟨R₀, S₀⟩ := (seq i).2.1
      obtain ⟨es, hs⟩ := hstep i
      rcases reach_step C S₀ hr with ⟨_, h0, _⟩ | ⟨m, fr₁, cs₁, w₁, es1, R₁, hm, hs1, -, hr1, -⟩
      · omega
      · rw [hs] at hs1
        injection hs1 with e1 e2 e3
        obtain ⟨e4, e5⟩ := cancel e1
        subst e2 e4 e5
        obtain rfl : m = n := by omega
        exact ih (i + 1) hr1
  obtain ⟨n, hr⟩ := h U 0
  exact hno n 0 hr
end
end Go.Proofs.Ytgkakgibgfehaaa.Sim

namespace Go.Proofs.Ytgkakgibgfehaaa.Sim
open Go.Conc (G)

/-- Related, whatever the lone run's tape says. -/
def Near (ok : Cx) (T : Tables) (Fz : Fr) (R : Ren) (w w' : World) : Prop := WRel ok T Fz R (on w w'.tape w'.drawn) w'

section
variable {ok : Cx} {T : Tables} {F FL FC : Array Func} {Q : Value → World → Prop} {R : Ren} {w w' : World} {Fz : Fr} {bC : List Frame}

theorem Near.draw (h : Near ok T Fz R w w') (t : Tape) (d : Nat) : Near ok T Fz R w (on w' t d) := by
  refine ⟨h.one, h.inj, h.obj, h.new, h.fz, h.glob, h.big, h.os, fun _ _ => rfl⟩
theorem WRel.near (h : WRel ok T Fz R w w') : Near ok T Fz R w w' := ⟨h.one, h.inj, h.obj, h.new, h.fz, h.glob, h.big, h.os, fun _ _ => rfl⟩

theorem must_call (C : Sound ok T F) (hQ : ∀ v w t d, Q v w → Q v (on w t d)) {f : Nat} {args : Array Value} (S : Self ok T R (Frame.enter (prg T F) f args .normal) [] w)
    (h : ∀ t d, Calls (prg T F) f args (on w t d) fun e w' => ∃ v, e = .returned v ∧ Q v w') : Must (prg T F) [junk] Q (Frame.enter (prg T F) f args .normal) [] w := by
  refine must_of C hQ S fun t d => ?_
  obtain ⟨e, w', fr, ⟨v, rfl, hq⟩, ⟨n, hn⟩, -, hl⟩ := h t d [junk]
  exact ⟨n, fr, w', v, hn, hl, hq⟩

/-- Along the tree. -/
theorem must_run {P : Program} : ∀ (n : Nat) {fr : Frame} {cs : List Frame} {w : World} {fr₂ : Frame} {cs₂ : List Frame} {w₂ : World}, Must P [junk] Q fr cs w → runN P n (lone fr (cs ++ [junk]) w) = .next (lone fr₂ (cs₂ ++ [junk]) w₂) → Must P [junk] Q fr₂ cs₂ w₂ := by
  intro n
  induction n with
  | zero =>
    intro fr cs w fr₂ cs₂ w₂ hM hr
    simp only [runN, Stepped.next.injEq] at hr
    obtain ⟨rfl, hc, rfl⟩ := lone_inj hr
    obtain rfl := List.append_cancel_right hc
    exact hM
  | succ n ih =>
    intro fr cs w fr₂ cs₂ w₂ hM hr
    simp only [runN] at hr
    cases hM with
    | step f₁ c₁ w₁ es hs hk =>
      have h1 := hs w.tape w.drawn
      rw [on_self] at h1
      rw [step_lone_go (fr' := f₁ w.tape w.drawn) (cs' := c₁ w.tape w.drawn ++ [junk]) (w' := w₁ w.tape w.drawn) (by show GStep.bare (stepG _ _ (G fr (cs ++ [junk])) _) = _; rw [h1]; rfl)] at hr
      exact ih (hk _ _) hr
    | stop h =>
      exfalso
      obtain ⟨v, hl, -⟩ := h w.tape w.drawn
      rw [on_self] at hl
      rw [List.nil_append, step_leave_returned hl] at hr
      dsimp only at hr
      cases n with
      | zero =>
        simp only [runN, Stepped.next.injEq] at hr
        obtain ⟨_, hc, _⟩ := lone_inj hr
        simp at hc
      | succ n =>
        obtain ⟨o, w3, he⟩ := junk_finish P v w
        simp only [runN] at hr
        rw [step_lone_ended (o := o) (w' := w3) (by show GStep.bare (stepG _ _ (G (junk.finish v) []) _) = _; rw [he]; rfl)] at hr
        cases hr

end
end Go.Proofs.Ytgkakgibgfehaaa.Sim

namespace Go.Proofs.Ytgkakgibgfehaaa.Sim
open Go.Conc
open Go.ConcN (sumTo upd sumTo_upd upd_ne upd_same)
section
variable {P : Program} {Shun : Loc → Prop} {B : Nat}

/-- What an operation touches lies below B. -/
theorem touch_low {B : Nat} {act : MemAct} (h : act.low B) {y : Touch} (hy : act.touch? = some y) : y.loc.low B := by
  cases act with
  | access ev =>
    simp only [MemAct.touch?, Option.some.injEq] at hy
    subst hy
    exact h
  | mark m =>
    cases m <;> simp only [MemAct.touch?, Option.some.injEq] at hy <;> first
      | (cases hy; done)
      | (subst hy; exact h)
  | _ => cases hy
theorem evL_mono {Shun : Loc → Prop} {B B' : Nat} {e : Event} (h : EvL Shun B e) (hB : B ≤ B') : EvL Shun B' e := ⟨h.1, h.2.1, h.2.2.1, MemAct.low_mono hB h.2.2.2⟩

/-- Goroutine 0's state in the machine: the others only leave; what is held of the trace. -/
structure Team (P : Program) (Shun : Loc → Prop) (B : Nat) (gs : Array Goroutine) (g : Goroutine) (t : Trace) (q : Nat → Nat) : Prop where
  zero : gs[0]? = some g
  others : Leavers P t gs q
  past : ∃ B', Past Shun B' t
  low : ∀ op ∈ t, ∀ y, op.act.touch? = some y → y.loc.low B
  quiet : Quiet Shun t
  rest : ∀ i a, touchAt t i = some a → a.loc.isMemory = false → Knows t 0 i
  ids : ∀ op ∈ t, op.g < gs.size

theorem rest_mute {t u : Trace} (h : ∀ i a, touchAt t i = some a → a.loc.isMemory = false → Knows t 0 i) (hu : ∀ op ∈ u, op.g = 0 ∨ op.act.touch? = none) : ∀ i a, touchAt (t ++ u) i = some a → a.loc.isMemory = false → Knows (t ++ u) 0 i := by
  intro i a ha hm
  obtain ⟨x, hx, hxa⟩ := touch_of ha
  rcases getElem?_append_cases hx with ⟨_, hx'⟩ | ⟨_, hxu⟩
  · exact (h i a (by rw [touchAt_of hx']; exact hxa) hm).app u
  · rcases hu x hxu with h0 | h0
    · have := knows_own hx
      rwa [h0] at this
    · rw [h0] at hxa; cases hxa

theorem after0 {gs : Array Goroutine} {t : Trace} {q : Nat → Nat} (hL : Leavers P t gs q) (hp : 0 < gs.size) {g a' : Goroutine} {w' : World} {fn : FuncId} {pos : String} {es : Array Event} : Leavers P (t ++ MemOp.ofEvents 0 fn pos es) ((gs.map (woken P g a' w')).setIfInBounds 0 a') q :=
  ⟨fun j x hj hx => by
    have hne : 0 ≠ j := by omega
    rw [Array.getElem?_setIfInBounds_ne hne, Array.getElem?_map] at hx
    obtain ⟨y, hy, rfl⟩ := Option.map_eq_some_iff.1 hx
    have hq := hL.old j y hj hy
    rw [woken_quitsD hq, Deaf_other t (by omega) _ (fun op hop => by obtain ⟨e, _, rfl⟩ := Go.Conc.mem_ofEvents hop; rfl)]
    exact hq, fun j hj => by
    rw [Deaf_other t (g' := 0) (by simp at hj; omega) _ (fun op hop => by obtain ⟨e, _, rfl⟩ := Go.Conc.mem_ofEvents hop; rfl)]
    exact hL.above j (by simpa using hj)⟩

/-- Goroutine 0's next step, after some of the others'. -/
theorem beside_move : ∀ (M : Nat) (gs : Array Goroutine) (g : Goroutine) (w : World) (sl : Option (Nat × Nat)) (t : Trace) (q : Nat → Nat), sumTo gs.size q ≤ M → Team P Shun B gs g t q → g.status = .running →
    ∃ (N : Nat) (gs' : Array Goroutine) (d : Nat) (w' : World) (sl' : Option (Nat × Nat)) (sl'' : Option (Nat × Nat)) (t' : Trace) (q' : Nat → Nat), runNT P N (crowd gs w sl) t = (.next (crowd gs' w' sl'), t') ∧ gs'.size = gs.size ∧ Team P Shun B gs' g t' q' ∧
      stepT P (crowd gs' w' sl') = runT P (crowd gs' (w.at d) sl'') 0 := by
  intro M
  induction M with
  | zero =>
    intro gs g w sl t q hM hT hrun
    obtain ⟨h0, hL, ⟨B1, hP⟩, hW, hQ, hE, hI⟩ := hT
    have haw : ∀ x ∈ gs, awake x := by
      intro x hx
      obtain ⟨i, hi, rfl⟩ := Array.mem_iff_getElem.1 hx
      rcases Nat.eq_zero_or_pos i with rfl | hpos
      · have : gs[0] = g := by simpa [Array.getElem?_eq_getElem hi] using h0
        rw [this]; exact awake_of (.inl hrun)
      · exact awake_of ((hL.old i _ hpos (Array.getElem?_eq_getElem hi)).status.elim .inl fun x => .inr (.inr x))
    obtain ⟨i, x, d, sl', hi, hg, hst⟩ := crowd_pick (P := P) (w := w) (sl := sl) haw ⟨0, g, h0, hrun⟩
    rcases Nat.eq_zero_or_pos i with rfl | hpos
    · exact ⟨0, gs, d, w, sl, sl', t, q, rfl, rfl, ⟨h0, hL, ⟨B1, hP⟩, hW, hQ, hE, hI⟩, hst⟩
    · have hq := hL.old i x hpos hi
      have hlt : i < gs.size := (Array.getElem?_eq_some_iff.1 hi).1
      cases hqi : q i with
      | zero => rw [hqi] at hq; rw [hq.1] at hg; cases hg
      | succ k =>
        have hsum : sumTo gs.size (upd q i k) + (k + 1) = sumTo gs.size q + k := by
          have := sumTo_upd q k id hlt
          simpa [hqi] using this
        omega
  | succ M ih =>
    intro gs g w sl t q hM hT hrun
    obtain ⟨h0, hL, ⟨B1, hP⟩, hW, hQ, hE, hI⟩ := hT
    have haw : ∀ x ∈ gs, awake x := by
      intro x hx
      obtain ⟨i, hi, rfl⟩ := Array.mem_iff_getElem.1 hx
      rcases Nat.eq_zero_or_pos i with rfl | hpos
      · have : gs[0] = g := by simpa [Array.getElem?_eq_getElem hi] using h0
        rw [this]; exact awake_of (.inl hrun)
      · exact awake_of ((hL.old i _ hpos (Array.getElem?_eq_getElem hi)).status.elim .inl fun x => .inr (.inr x))
    obtain ⟨i, x, d, sl', hi, hg, hst⟩ := crowd_pick (P := P) (w := w) (sl := sl) haw ⟨0, g, h0, hrun⟩
    rcases Nat.eq_zero_or_pos i with rfl | hpos
    · exact ⟨0, gs, d, w, sl, sl', t, q, rfl, rfl, ⟨h0, hL, ⟨B1, hP⟩, hW, hQ, hE, hI⟩, hst⟩
    · have hq := hL.old i x hpos hi
      have hi0 : (i == 0) = false := by simp; omega
      have hlt : i < gs.size := (Array.getElem?_eq_some_iff.1 hi).1
      cases hqi : q i with
      | zero => rw [hqi] at hq; rw [hq.1] at hg; cases hg
      | succ k =>
        rw [hqi] at hq
        rcases hq with ⟨hf, _⟩ | ⟨_, g', es, hm, hstp, hq'⟩
        · rw [hf] at hg; cases hg
        have hrunT := runT_crowd_go (P := P) (sl := sl') (i := i) hi (by rw [hi0]; exact hstp (w.at d))
        have hsz : ((gs.map (woken P x g' (w.at d))).setIfInBounds i g').size = gs.size := by simp
        have hsum : sumTo gs.size (upd q i k) + (k + 1) = sumTo gs.size q + k := by
          have := sumTo_upd q k id hlt
          simpa [hqi] using this
        obtain ⟨N, gs', d', w', sl1, sl2, t', q', hr, hs', hT', hst'⟩ := ih ((gs.map (woken P x g' (w.at d))).setIfInBounds i g') g (w.at d) sl' (t ++ MemOp.ofEvents i x.frame.fn x.frame.place es) (upd q i k) (by rw [hsz]; omega)
          ⟨by
            have hne : i ≠ 0 := by omega
            rw [Array.getElem?_setIfInBounds_ne hne, Array.getElem?_map, h0]
            simp [woken_run hrun],
          ⟨fun j y hj hy => by
            by_cases hji : i = j
            · subst hji
              rw [Array.getElem?_setIfInBounds_self_of_lt (by simpa using hlt)] at hy
              obtain rfl := Option.some.inj hy
              rw [upd_same, Deaf_own]
              exact hq'
            · rw [Array.getElem?_setIfInBounds_ne hji, Array.getElem?_map] at hy
              obtain ⟨z, hz, rfl⟩ := Option.map_eq_some_iff.1 hy
              have hqj := hL.old j z hj hz
              rw [woken_quitsD hqj, upd_ne q k (Ne.symm hji), Deaf_other t hji _ (fun op hop => by obtain ⟨e, _, rfl⟩ := Go.Conc.mem_ofEvents hop; rfl)]
              exact hqj, fun j hj => by
            rw [Deaf_other t (g' := i) (by simp at hj; omega) _ (fun op hop => by obtain ⟨e, _, rfl⟩ := Go.Conc.mem_ofEvents hop; rfl)]
            exact hL.above j (by simpa using hj)⟩, ⟨B1, hP.mute (by omega) hm⟩, fun op hop y hy => (Array.mem_append.1 hop).elim (fun x => hW op x y hy) (fun x => by obtain ⟨e, he, rfl⟩ := Go.Conc.mem_ofEvents x; rw [touch_mute (hm e he)] at hy; cases hy), hQ.app (fun op hop y hy => by obtain ⟨e, he, rfl⟩ := Go.Conc.mem_ofEvents hop; rw [touch_mute (hm e he)] at hy; cases hy), rest_mute hE fun op hop => by obtain ⟨e, he, rfl⟩ := Go.Conc.mem_ofEvents hop; exact .inr (touch_mute (hm e he)), fun op hop => by
            rw [hsz]
            rcases Array.mem_append.1 hop with hop | hop
            · exact hI op hop
            · obtain ⟨e, _, rfl⟩ := Go.Conc.mem_ofEvents hop; exact hlt⟩ hrun
        exact ⟨N + 1, gs', d', w', sl1, sl2, t', q', by simp only [runNT, hst, hrunT]; exact hr, hs'.trans hsz, hT', hst'⟩

theorem runNT_add {P : Program} : ∀ (a b : Nat) (m : Machine) (t : Trace) {m' : Machine} {t' : Trace}, runNT P a m t = (.next m', t') → runNT P (a + b) m t = runNT P b m' t' := by
  intro a
  induction a with
  | zero => intro b m t m' t' h; simp only [runNT, Prod.mk.injEq, Stepped.next.injEq] at h; obtain ⟨rfl, rfl⟩ := h; rw [Nat.zero_add]
  | succ a ih =>
    intro b m t m' t' h
    rw [show a + 1 + b = (a + b) + 1 by omega]
    simp only [runNT] at h ⊢
    rcases hs : stepT P m with ⟨r, ops⟩
    rw [hs] at h
    cases r with
    | next m1 => exact ih b m1 _ h
    | ended o w => simp at h

/-- Goroutine 0 goes on. -/
theorem beside_go {gs : Array Goroutine} {g : Goroutine} {w : World} {sl : Option (Nat × Nat)} {t : Trace} {q : Nat → Nat} (hT : Team P Shun B gs g t q) (hrun : g.status = .running) {K : Goroutine → World → Prop}
    (h : ∀ d, ∃ a' w' es, stepG P true g (w.at d) = .go a' w' es ∧ B ≤ w'.heap.size ∧ (∀ e ∈ es, EvL Shun w'.heap.size e) ∧ K a' w') :
    ∃ (N : Nat) (gs' : Array Goroutine) (a' : Goroutine) (w' : World) (sl' : Option (Nat × Nat)) (t' : Trace) (q' : Nat → Nat), runNT P N (crowd gs w sl) t = (.next (crowd gs' w' sl'), t') ∧ gs'.size = gs.size ∧ Team P Shun w'.heap.size gs' a' t' q' ∧ K a' w' := by
  obtain ⟨N, gs', d, w', sl', sl'', t', q', hr, hsz, hT', hst⟩ := beside_move _ gs g w sl t q (Nat.le_refl _) hT hrun
  obtain ⟨a', w2, es, hgo, hB, hes, hK⟩ := h d
  have hrunT := runT_crowd_go (P := P) (sl := sl'') (i := 0) hT'.zero (show stepG P (0 == 0) g (w.at d) = _ from hgo)
  have hlt : 0 < gs'.size := (Array.getElem?_eq_some_iff.1 hT'.zero).1
  refine ⟨N + 1, (gs'.map (woken P g a' w2)).setIfInBounds 0 a', a', w2, sl'', t' ++ MemOp.ofEvents 0 g.frame.fn g.frame.place es, q', ?_, by simp [hsz], ⟨by simp [hlt], after0 hT'.others hlt, hT'.past.elim fun B1 h1 => ⟨max B1 w2.heap.size, (h1.mono (Nat.le_max_left _ _)).own fun e he => evL_mono (hes e he) (Nat.le_max_right _ _)⟩, fun op hop y hy => (Array.mem_append.1 hop).elim (fun x => Loc.low_mono hB (hT'.low op x y hy)) (fun x => by obtain ⟨e, he, rfl⟩ := Go.Conc.mem_ofEvents x; exact touch_low (hes e he).2.2.2 hy), hT'.quiet.app (fun op hop y hy hs => by obtain ⟨e, he, rfl⟩ := Go.Conc.mem_ofEvents hop; exact ⟨(hes e he).1 y hy hs, fun _ => rfl⟩), rest_mute hT'.rest fun op hop => by obtain ⟨e, he, rfl⟩ := Go.Conc.mem_ofEvents hop; exact .inl rfl, fun op hop => by
    simp only [Array.size_setIfInBounds, Array.size_map]
    rcases Array.mem_append.1 hop with hop | hop
    · exact hT'.ids op hop
    · obtain ⟨e, _, rfl⟩ := Go.Conc.mem_ofEvents hop; exact hlt⟩, hK⟩
  rw [runNT_add N 1 _ _ hr]
  simp only [runNT, hst, hrunT]
/-- Goroutine 0 goes on; B' bounds what its step touches. -/
theorem beside_go' {B' : Nat} (hBB : B ≤ B') {gs : Array Goroutine} {g : Goroutine} {w : World} {sl : Option (Nat × Nat)} {t : Trace} {q : Nat → Nat} (hT : Team P Shun B gs g t q) (hrun : g.status = .running) {K : Goroutine → World → Prop}
    (h : ∀ d, ∃ a' w' es, stepG P true g (w.at d) = .go a' w' es ∧ (∀ e ∈ es, EvL Shun B' e) ∧ K a' w') :
    ∃ (N : Nat) (gs' : Array Goroutine) (a' : Goroutine) (w' : World) (sl' : Option (Nat × Nat)) (t' : Trace) (q' : Nat → Nat), runNT P N (crowd gs w sl) t = (.next (crowd gs' w' sl'), t') ∧ gs'.size = gs.size ∧ Team P Shun B' gs' a' t' q' ∧ K a' w' := by
  obtain ⟨N, gs', d, w', sl', sl'', t', q', hr, hsz, hT', hst⟩ := beside_move _ gs g w sl t q (Nat.le_refl _) hT hrun
  obtain ⟨a', w2, es, hgo, hes, hK⟩ := h d
  have hrunT := runT_crowd_go (P := P) (sl := sl'') (i := 0) hT'.zero (show stepG P (0 == 0) g (w.at d) = _ from hgo)
  have hlt : 0 < gs'.size := (Array.getElem?_eq_some_iff.1 hT'.zero).1
  refine ⟨N + 1, (gs'.map (woken P g a' w2)).setIfInBounds 0 a', a', w2, sl'', t' ++ MemOp.ofEvents 0 g.frame.fn g.frame.place es, q', ?_, by simp [hsz], ⟨by simp [hlt], after0 hT'.others hlt, hT'.past.elim fun B1 h1 => ⟨max B1 B', (h1.mono (Nat.le_max_left _ _)).own fun e he => evL_mono (hes e he) (Nat.le_max_right _ _)⟩, fun op hop y hy => (Array.mem_append.1 hop).elim (fun x => Loc.low_mono hBB (hT'.low op x y hy)) (fun x => by obtain ⟨e, he, rfl⟩ := Go.Conc.mem_ofEvents x; exact touch_low (hes e he).2.2.2 hy), hT'.quiet.app (fun op hop y hy hs => by obtain ⟨e, he, rfl⟩ := Go.Conc.mem_ofEvents hop; exact ⟨(hes e he).1 y hy hs, fun _ => rfl⟩), rest_mute hT'.rest fun op hop => by obtain ⟨e, he, rfl⟩ := Go.Conc.mem_ofEvents hop; exact .inl rfl, fun op hop => by
    simp only [Array.size_setIfInBounds, Array.size_map]
    rcases Array.mem_append.1 hop with hop | hop
    · exact hT'.ids op hop
    · obtain ⟨e, _, rfl⟩ := Go.Conc.mem_ofEvents hop; exact hlt⟩, hK⟩
  rw [runNT_add N 1 _ _ hr]
  simp only [runNT, hst, hrunT]
end
end Go.Proofs.Ytgkakgibgfehaaa.Sim
