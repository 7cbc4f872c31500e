/-
  Frames of calls that are related, and one step of a goroutine: where the lone run goes on, the run in company goes on, too, and both stay related ('sim_step').
  One step of a goroutine: where the lone run goes on, the run in company goes on, too, and both stay related ('sim_step').
  'sim_step': where the lone run takes a step, the run in company takes a step, too, and both stay related.
  A relation that relates no block to another one than itself: what is related is the same.
-/
import Derived.Test.YtgkakgibgfehaaaSh11
namespace Go.Proofs.Ytgkakgibgfehaaa.Sim
open Go.Conc (G)

/-! ### frames -/
inductive IRel (ok : Cx) (T : Tables) (R : Ren) : Item → Item → Prop
  | code (c : Code) : okCode ok T c = true → IRel ok T R (.code c) (.code c)
  | inBlock (n : Nat) : IRel ok T R (.inBlock n) (.inBlock n)
  | inLoop (c : Code) : okCode ok T c = true → IRel ok T R (.inLoop c) (.inLoop c)
  | inScope (c : Code) : okCode ok T c = true → IRel ok T R (.inScope c) (.inScope c)
  | inRegion (ops : Array Oper) (l : List Nat) : (ops.all fun o => okOp ok T o.op) = true → IRel ok T R (.inRegion ops l) (.inRegion ops l)
  | inRangeFunc {l l' : Nat} : R l l' → IRel ok T R (.inRangeFunc l) (.inRangeFunc l')
  | endRangeFunc {l l' : Nat} : R l l' → IRel ok T R (.endRangeFunc l) (.endRangeFunc l')
  | beginRound : IRel ok T R .beginRound .beginRound
theorem IRel.mono {ok : Cx} {T : Tables} {R R₁ : Ren} (h : Le R R₁) {i i' : Item} (k : IRel ok T R i i') : IRel ok T R₁ i i' := by
  cases k with
  | inRangeFunc x => exact .inRangeFunc (h _ _ x)
  | endRangeFunc x => exact .endRangeFunc (h _ _ x)
  | code c x => exact .code c x
  | inBlock n => exact .inBlock n
  | inLoop c x => exact .inLoop c x
  | inScope c x => exact .inScope c x
  | inRegion a b x => exact .inRegion a b x
  | beginRound => exact .beginRound
def PRel' (ok : Cx) (R : Ren) (e e' : PanicEntry) : Prop := VRel ok R e.v e'.v ∧ e'.recovered = e.recovered ∧ e'.goexit = e.goexit
inductive MRel (ok : Cx) (R : Ren) : FrameMode → FrameMode → Prop
  | run : MRel ok R .run .run
  | returning : MRel ok R .returning .returning
  | panicking {c c' : List PanicEntry} : LRel (PRel' ok R) c c' → MRel ok R (.panicking c) (.panicking c')

structure FRel (ok : Cx) (T : Tables) (R : Ren) (f f' : Frame) : Prop where
  fn : f'.fn = f.fn
  okf : ok.ok f.fn = true
  ord : ok.rd f.fn = true
  tmps : Rows ok R f.tmps f'.tmps
  todo : LRel (IRel ok T R) f.todo f'.todo
  defers : LRel (CRel R) f.defers f'.defers
  mode : MRel ok R f.mode f'.mode
  kind : f.kind = .normal
  kind' : f'.kind = .normal
  round : ORel R f.roundOf f'.roundOf
theorem FRel.mono {ok : Cx} {T : Tables} {R R₁ : Ren} (h : Le R R₁) {f f' : Frame} (k : FRel ok T R f f') : FRel ok T R₁ f f' := by
  refine ⟨k.fn, k.okf, k.ord, k.tmps.mono h, k.todo.imp fun _ _ x => x.mono h, k.defers.imp fun _ _ x => ?_, ?_, k.kind, k.kind', k.round.imp fun _ _ x => h _ _ x⟩
  · obtain ⟨r, r', a, b, c⟩ := x
    exact ⟨r, r', a, b, h _ _ c⟩
  · have := k.mode
    cases hm : f.mode <;> cases hm' : f'.mode <;> rw [hm, hm'] at this <;> cases this
    · exact .run
    · exact .returning
    · rename_i c
      exact .panicking (c.imp fun _ _ x => ⟨x.1.mono h, x.2⟩)

section
variable {ok : Cx} {T : Tables} {Fz : Fr} {FL FC : Array Func} {R : Ren}

theorem FRel.eval {f f' : Frame} (h : FRel ok T R f f') : ERel ok R f.eval f'.eval := by
  intro x hx
  cases x with
  | tmp t => exact h.tmps.getD t
  | const v => exact flat_rel _ _ _ hx
  | global g => cases hx
  | func f => exact .funcR (.func f hx) .empty .empty
/-- A frame goes on with other work. -/
theorem FRel.to {f f' : Frame} (h : FRel ok T R f f') {k k' : List Item} (hk : LRel (IRel ok T R) k k') : FRel ok T R { f with todo := k } { f' with todo := k' } :=
  ⟨h.fn, h.okf, h.ord, h.tmps, hk, h.defers, h.mode, h.kind, h.kind', h.round⟩
theorem FRel.finish {f f' : Frame} (h : FRel ok T R f f') {v v' : Value} (hv : VRel ok R v v') : FRel ok T R (f.finish v) (f'.finish v') := by
  obtain ⟨fn, tmps, todo, defers, mode, kind, ro⟩ := f
  obtain ⟨fn', tmps', todo', defers', mode', kind', ro'⟩ := f'
  obtain ⟨h1, h2, h3, h4, h5, h6, h7, h8, h9, h10⟩ := h
  dsimp only at h1 h2 h3 h4 h5 h6 h7 h8 h9 h10
  cases h5 with
  | nil => exact ⟨h1, h2, h3, h4, .nil, h6, h7, h8, h9, h10⟩
  | @cons i i' k k' hi hk =>
    cases hi with
    | code c x => exact ⟨h1, h2, h3, h4, .cons (.code c x) hk, h6, h7, h8, h9, h10⟩
    | inBlock n => exact ⟨h1, h2, h3, h4, .cons (.inBlock n) hk, h6, h7, h8, h9, h10⟩
    | inLoop c x => exact ⟨h1, h2, h3, h4, .cons (.inLoop c x) hk, h6, h7, h8, h9, h10⟩
    | inScope c x => exact ⟨h1, h2, h3, h4, .cons (.inScope c x) hk, h6, h7, h8, h9, h10⟩
    | inRegion ops l x =>
      cases l with
      | nil => exact ⟨h1, h2, h3, h4, .cons (.inRegion ops [] x) hk, h6, h7, h8, h9, h10⟩
      | cons i l =>
        simp only [Frame.finish]
        cases (ops[i]?).bind (·.dst) with
        | none => exact ⟨h1, h2, h3, h4, .cons (.inRegion ops l x) hk, h6, h7, h8, h9, h10⟩
        | some d => exact ⟨h1, h2, h3, h4.set _ hv, .cons (.inRegion ops l x) hk, h6, h7, h8, h9, h10⟩
    | inRangeFunc x => exact ⟨h1, h2, h3, h4, .cons (.endRangeFunc x) hk, h6, h7, h8, h9, h10⟩
    | endRangeFunc x => exact ⟨h1, h2, h3, h4, .cons (.endRangeFunc x) hk, h6, h7, h8, h9, h10⟩
    | beginRound => exact ⟨h1, h2, h3, h4, hk, h6, h7, h8, h9, h10⟩
theorem FRel.raise {f f' : Frame} (h : FRel ok T R f f') {c c' : List PanicEntry} (hc : LRel (PRel' ok R) c c') : FRel ok T R (f.raise c) (f'.raise c') := by
  have hm := h.mode
  unfold Frame.raise
  cases e : f.mode <;> cases e' : f'.mode <;> rw [e, e'] at hm <;> cases hm
  · exact ⟨h.fn, h.okf, h.ord, h.tmps, h.todo, h.defers, .panicking hc, h.kind, h.kind', h.round⟩
  · exact ⟨h.fn, h.okf, h.ord, h.tmps, h.todo, h.defers, .panicking hc, h.kind, h.kind', h.round⟩
  · rename_i x
    exact ⟨h.fn, h.okf, h.ord, h.tmps, h.todo, h.defers, .panicking (hc.append x), h.kind, h.kind', h.round⟩
theorem enter_rel (P : Progs ok T Fz FL FC) {f : Nat} (hf : ok.ok f = true) (he : ok.ext f = false) (hs : ok.rd f = true) {c c' : Array Value} (hc : Rows ok R c c') : FRel ok T R (Frame.enter (prg T FL) f c .normal) (Frame.enter (prg T FC) f c' .normal) := by
  obtain ⟨fn, fn', e1, e2, h⟩ := P.2 f hf
  rcases h with ⟨_, b1, _, _, _, h⟩ | ⟨h, _⟩
  · obtain ⟨rfl, hk⟩ := h hs
    obtain ⟨b, hb⟩ := Option.isSome_iff_exists.1 b1
    have hk := hk b hb
    unfold Frame.enter
    simp only [show (prg T FL).funcs[f]? = some fn' from e1, show (prg T FC).funcs[f]? = some fn' from e2, hb, Option.bind_some, Option.getD_some, Option.map_some]
    refine ⟨rfl, hf, hs, ?_, .cons (.code b hk) .nil, .nil, .run, rfl, rfl, .none⟩
    rw [hc.1]
    exact hc.append (Rows.replicate _ .undef)
  · rw [he] at h; cases h

/-! ### goroutines -/
/-- The frame on top: related, or just entered in a function of which the two programs have different bodies. -/
inductive TopRel (ok : Cx) (T : Tables) (FL FC : Array Func) (R : Ren) (cs : List Frame) : Frame → Frame → Prop
  | ord {f f' : Frame} : FRel ok T R f f' → TopRel ok T FL FC R cs f f'
  | sp (f : Nat) {c c' : Array Value} : cs ≠ [] → ok.ok f = true → ok.rd f = false → Rows ok R c c' → TopRel ok T FL FC R cs (Frame.enter (prg T FL) f c .normal) (Frame.enter (prg T FC) f c' .normal)
/-- Two goroutines: the callers are related down to where the call began; below are 'bL', and, in the run in company, 'bC'. -/
def GRel (ok : Cx) (T : Tables) (FL FC : Array Func) (bL bC : List Frame) (R : Ren) (g g' : Goroutine) : Prop :=
  ∃ fr cs fr' cs', g = G fr (cs ++ bL) ∧ g' = G fr' (cs' ++ bC) ∧ TopRel ok T FL FC R cs fr fr' ∧ LRel (FRel ok T R) cs cs'

theorem seen_sub {P : Program} {fn : FuncId} {es : Array Event} {e : Event} (h : e ∈ seen P fn es) : e ∈ es := by
  unfold seen at h
  dsimp only at h
  have key : ∀ (l : List Event) (q : Bool) (kept : Array Event), e ∈ (l.foldl (fun (x : Bool × Array Event) e => match e.loc with
      | .mark (.extern f) => ((P.funcs[f]?).any (·.norace), x.2)
      | _ => (x.1, if x.1 && !e.sync then x.2 else x.2.push e)) (q, kept)).2 → e ∈ kept ∨ e ∈ l := by
    intro l
    induction l with
    | nil => intro q kept h; exact .inl h
    | cons y l ih =>
      intro q kept h
      rw [List.foldl_cons] at h
      dsimp only at h
      split at h
      · exact (ih _ _ h).imp id fun z => by simp [z]
      · rcases ih _ _ h with z | z
        · split at z
          · exact .inl z
          · rcases Array.mem_push.1 z with z | z
            · exact .inl z
            · exact .inr (by simp [z])
        · exact .inr (by simp [z])
  rw [← Array.foldl_toList] at h
  rcases key es.toList _ _ h with z | z
  · simp at z
  · simpa using z

/-- What the run in company has come to, where the lone run has come to 'g₁' in 'w₁'. -/
def Went (ok : Cx) (T : Tables) (Fz : Fr) (FL FC : Array Func) (bL bC : List Frame) (R : Ren) (w w' : World) (g₁ : Goroutine) (w₁ : World) (s : GStep) : Prop :=
  ∃ R₁ g₁' w₁' es, s = .go g₁' w₁' es ∧ GRel ok T FL FC bL bC R₁ g₁ g₁' ∧ Ext Fz R w w' R₁ w₁ w₁' ∧ WRel ok T Fz R₁ w₁ w₁' ∧ ∀ e ∈ es, EvIm Fz R₁ e

variable {bL bC : List Frame} {w w' : World}
theorem Went.stay (hw : WRel ok T Fz R w w') {g g' : Goroutine} (h : GRel ok T FL FC bL bC R g g') : Went ok T Fz FL FC bL bC R w w' g w (.go g' w') :=
  ⟨R, g', w', #[], rfl, h, Ext.refl _ _ _ _, hw, by simp⟩

theorem kind_normal {f f' : Frame} (h : FRel ok T R f f') : (match f.todo with | .call _ true _ _ :: _ => CallKind.wrapped | _ => .normal) = .normal ∧ (match f'.todo with | .call _ true _ _ :: _ => CallKind.wrapped | _ => .normal) = .normal := by
  have ht := h.todo
  revert ht
  generalize f.todo = k
  generalize f'.todo = k'
  intro ht
  cases ht with
  | nil => exact ⟨rfl, rfl⟩
  | cons a _ => cases a <;> exact ⟨rfl, rfl⟩

theorem early_mono {P : Program} {fr : Frame} {cs : List Frame} {d : Option Dying} {g : Nat} {w w₁ : World} {g₁ : Goroutine} {es : Array Event} (h : early P fr cs d g w = .go g₁ w₁ es) : w.drawn ≤ w₁.drawn := by
  unfold early at h
  have notYet : ∀ w : World, (match w.heap[g]? with
      | some (.pending c elem) => GStep.go { frame := fr, callers := cs, status := .running, dying := d } { w with heap := w.heap.setIfInBounds g (.cells c elem) }
      | _ => .ended (.stuck "early: the variable does not wait" (fr.pos P)) w) = .go g₁ w₁ es → w.drawn ≤ w₁.drawn := by
    intro w h
    split at h
    · cases h; exact Nat.le_refl _
    · cases h
  dsimp only at h
  split at h
  · exact notYet _ h
  · split at h
    · cases h
    · split at h
      · exact notYet _ h
      · split at h
        · exact notYet _ h
        · split at h
          · cases h
          · cases h; exact Nat.le_refl _
          · cases h
          · exact notYet _ h
          · split at h
            · cases h; exact Nat.le_refl _
            · split at h
              · exact notYet _ h
              · simp only [choose, Sem.run, Question.forced, Bool.false_eq_true, if_false] at h
                split at h
                · rename_i hh
                  simp only [Result.ok.injEq] at hh
                  obtain ⟨_, rfl⟩ := hh
                  exact Nat.le_trans (Nat.le_succ _) (notYet _ h)
                · rename_i hh
                  simp only [Result.ok.injEq] at hh
                  obtain ⟨_, rfl⟩ := hh
                  cases h
                  exact Nat.le_succ _
                · cases h
theorem fatal_mono {P : Program} {fr : Frame} {cs : List Frame} {d : Option Dying} {m : String} {w w₁ : World} {g₁ : Goroutine} {es : Array Event} (h : endFatal P fr cs d m w = .go g₁ w₁ es) : w.drawn ≤ w₁.drawn := by
  unfold endFatal at h
  dsimp only at h
  split at h
  · rename_i hr
    unfold dieOf at h
    cases h
    have := run_mono P _ w |> fun x => (hr ▸ x : w.drawn ≤ _)
    exact this
  · cases h
  · cases h
theorem apply_mono {P : Program} {fr : Frame} {cs : List Frame} {s : Sem Next} {w w₁ : World} {g₁ : Goroutine} {es : Array Event} (h : stepG.apply P true fr cs none s w = .go g₁ w₁ es) : (Result.world (s.run P w)).drawn ≤ w₁.drawn := by
  rcases hL : s.runT P w #[] with ⟨r, ev⟩
  have hr : s.run P w = r := by rw [← Sem.runT_fst _ _ _ #[], hL]
  rw [hr]
  unfold stepG.apply at h
  simp only [if_true, hL] at h
  have aft : ∀ {e : Array Event} {x : GStep}, GStep.after e x = .go g₁ w₁ es → ∃ es', x = .go g₁ w₁ es' := by
    intro e x hx
    cases x <;> simp only [GStep.after] at hx <;> cases hx
    exact ⟨_, rfl⟩
  obtain ⟨es', h⟩ := aft h
  cases r with
  | ok a w2 =>
    show w2.drawn ≤ _
    cases a <;> dsimp only at h <;> (repeat' split at h) <;> first
      | (cases h; done)
      | (cases h; exact Nat.le_refl _)
      | (unfold endThrow dieOf at h; cases h; exact Nat.le_refl _)
  | halt hh w2 =>
    show w2.drawn ≤ _
    cases hh with
    | unsupported u =>
      cases u with
      | initOrder g => exact early_mono h
      | _ => cases h
    | fatal m => exact fatal_mono h
    | throw m => unfold endThrow dieOf at h; cases h; exact Nat.le_refl _
    | _ => dsimp only at h; first | (cases h; done) | (cases h; exact Nat.le_refl _)

/-- An operation, a call, the beginning of a round. -/
theorem apply_sim (P : Progs ok T Fz FL FC) {fr fr' : Frame} (hfr : FRel ok T R fr fr') {cs cs' : List Frame} (hcs : LRel (FRel ok T R) cs cs') {s s' : Sem Next} (hs : Sim ok T Fz FL FC R (NRel ok T) s s') (hw : WRel ok T Fz R w w')
    {g₁ : Goroutine} {w₁ : World} {es₁ : Array Event} (h : stepG.apply (prg T FL) true fr (cs ++ bL) none s w = .go g₁ w₁ es₁) (hlt : Fz.lt w₁.drawn) : Went ok T Fz FL FC bL bC R w w' g₁ w₁ (stepG.apply (prg T FC) true fr' (cs' ++ bC) none s' w') := by
  have h1 := hs R (Le.refl R) w w' hw #[] (hlt.le (apply_mono h))
  have hk := kind_normal hfr
  rcases hL : s.runT (prg T FL) w #[] with ⟨r, ev⟩
  have hr : s.run (prg T FL) w = r := by rw [← Sem.runT_fst _ _ _ #[], hL]
  rw [hr] at h1
  have hkd : (fr.kind == CallKind.early) = false := by rw [hfr.kind]; rfl
  have hkd' : (fr'.kind == CallKind.early) = false := by rw [hfr.kind']; rfl
  unfold stepG.apply at h ⊢
  simp only [if_true, hL, hkd, hkd', Bool.false_eq_true, if_false] at h ⊢
  cases r with
  | ok a w₂ =>
    obtain ⟨R₂, a', w₂', new, e, hx, hw2, hn, hev⟩ := h1
    rw [e, Array.empty_append]
    have hfr2 := hfr.mono hx.le
    have hcs2 := hcs.imp fun _ _ x => FRel.mono hx.le x
    have hev' : ∀ e ∈ seen (prg T FC) fr'.fn new ++ #[], EvIm Fz R₂ e := by
      intro e he
      rw [Array.append_empty] at he
      exact hev e (seen_sub he)
    cases hn with
    | value hv =>
      simp only [GStep.after] at h ⊢
      cases h
      exact ⟨R₂, _, _, _, rfl, ⟨_, _, _, _, rfl, rfl, .ord (hfr2.finish hv), hcs2⟩, hx, hw2, hev'⟩
    | skip =>
      simp only [GStep.after] at h ⊢
      cases h
      exact ⟨R₂, _, _, _, rfl, ⟨_, _, _, _, rfl, rfl, .ord (hfr2.finish .undef), hcs2⟩, hx, hw2, hev'⟩
    | @enter f c c' hf he hc =>
      simp only [GStep.after] at h ⊢
      cases h
      have top : ∀ k k' : CallKind, k = .normal → k' = .normal → TopRel ok T FL FC R₂ (fr :: cs) (Frame.enter (prg T FL) f c k) (Frame.enter (prg T FC) f c' k') := by
        rintro k k' rfl rfl
        cases hsp : ok.rd f with
        | true => exact .ord (enter_rel P hf he hsp hc)
        | false => exact .sp f (by simp) hf hsp hc
      exact ⟨R₂, _, _, _, rfl, ⟨_, fr :: cs, _, fr' :: cs', rfl, rfl, top _ _ hk.1 hk.2, .cons hfr2 hcs2⟩, hx, hw2, hev'⟩
    | round f a b hl hf hs hc ha hb =>
      simp only [GStep.after] at h ⊢
      cases h
      refine ⟨R₂, _, _, _, rfl, ⟨_, fr :: cs, _, fr' :: cs', rfl, rfl, .ord ?_, .cons hfr2 hcs2⟩, hx, hw2, hev'⟩
      exact ⟨rfl, hf, hs, hc, .cons (.code a ha) (.cons .beginRound (.cons (.code b hb) .nil)), .nil, .run, rfl, rfl, .some hl⟩
  | halt hh w₂ =>
    obtain ⟨g1, g2⟩ := h1
    cases hh with
    | panic v =>
      obtain ⟨R₂, v', w₂', new, e, hx, hw2, hv, hev⟩ := g2 v rfl
      rw [e, Array.empty_append]
      have hfr2 := hfr.mono hx.le
      have hcs2 := hcs.imp fun _ _ x => FRel.mono hx.le x
      simp only [GStep.after] at h ⊢
      cases h
      refine ⟨R₂, _, _, _, rfl, ⟨_, _, _, _, rfl, rfl, .ord (hfr2.raise (.cons ⟨hv, rfl, rfl⟩ .nil)), hcs2⟩, hx, hw2, ?_⟩
      intro e he
      rw [Array.append_empty] at he
      exact hev e (seen_sub he)
    | stuck s => simp only [GStep.after] at h; cases h
    | unsupported u => 
      cases u with
      | initOrder g => exact g1.elim
      | _ => simp only [GStep.after] at h; cases h
    | _ => exact g1.elim
end
end Go.Proofs.Ytgkakgibgfehaaa.Sim

namespace Go.Proofs.Ytgkakgibgfehaaa.Sim
open Go.Conc (G)
section
variable {ok : Cx} {T : Tables} {Fz : Fr} {FL FC : Array Func} {R : Ren} {bL bC : List Frame} {w w' : World}

theorem stepG_run {P : Program} {m : Bool} {fr : Frame} {cs : List Frame} {w : World} (h : fr.mode = .run) : stepG P m (G fr cs) w = stepG.exec P m true fr cs none w := by
  unfold stepG G
  simp only [h]
theorem stepG_unw {P : Program} {m : Bool} {fr : Frame} {cs : List Frame} {w : World} (h : fr.mode ≠ .run) : stepG P m (G fr cs) w = unwind P m fr cs none w := by
  unfold stepG G
  cases e : fr.mode with
  | run => exact absurd e h
  | _ => simp only [e]
theorem exit_rel (id : Nat) : ∀ {k k' : List Item}, LRel (IRel ok T R) k k' → ORel (LRel (IRel ok T R)) (exitTo id k) (exitTo id k') := by
  intro k
  induction k with
  | nil => intro k' h; cases h; exact .none
  | cons i k ih =>
    intro k' h
    cases h with
    | cons hi h =>
      cases hi <;> first
        | (unfold exitTo; exact ih h)
        | (unfold exitTo; split
           · exact .some h
           · exact ih h)
theorem return_world {P : Program} {m : Bool} {fr : Frame} {cs : List Frame} {v : Value} {w w₁ : World} {g₁ : Goroutine} {es : Array Event} (h : doReturn P m fr cs none v w = .go g₁ w₁ es) : w₁ = w := by
  unfold doReturn at h
  split at h
  · split at h <;> (cases h; rfl)
  · split at h
    · rename_i hx; cases hx
    · cases h
    · split at h
      · cases h; rfl
      · split at h <;> cases h
        rfl
/-- A call's return. -/
theorem return_sim {fr fr' : Frame} (hfr : FRel ok T R fr fr') {cs cs' : List Frame} (hcs : LRel (FRel ok T R) cs cs') (hI : T.inits.idxOf? fr.fn = none) (hw : WRel ok T Fz R w w') {m' : Bool} {v v' : Value} (hv : VRel ok R v v')
    {g₁ : Goroutine} {w₁ : World} {es₁ : Array Event} (h : doReturn (prg T FL) true fr (cs ++ bL) none v w = .go g₁ w₁ es₁) (hb : bL.length ≤ g₁.callers.length) : w₁ = w ∧ Went ok T Fz FL FC bL bC R w w' g₁ w₁ (doReturn (prg T FC) m' fr' (cs' ++ bC) none v' w') := by
  unfold doReturn at h ⊢
  cases hcs with
  | nil =>
    simp only [hfr.kind, List.nil_append] at h
    cases hbL : bL with
    | nil =>
      rw [hbL] at h
      simp only [Bool.not_true, Bool.false_eq_true, if_false] at h
      rw [show (prg T FL).inits.idxOf? fr.fn = none from hI] at h
      cases h
    | cons c0 bs =>
      rw [hbL] at h hb
      cases h
      simp at hb
      omega
  | @cons c c' cs cs' hc hcs =>
    simp only [hfr.kind, hfr.kind', List.cons_append] at h ⊢
    cases h
    exact ⟨rfl, .stay hw ⟨_, _, _, _, rfl, rfl, .ord (hc.finish hv), hcs⟩⟩

/-- 'leave': a frame's work is done, or a round of a range over a function ends. -/
theorem leave_sim {fr fr' : Frame} (hfr : FRel ok T R fr fr') {cs cs' : List Frame} (hcs : LRel (FRel ok T R) cs cs') (hI : T.inits.idxOf? fr.fn = none) (hw : WRel ok T Fz R w w') {m' : Bool} {j : Option Code} (hj : ∀ c, j = some c → okCode ok T c = true) {k k' : List Item} (hk : LRel (IRel ok T R) k k') (c : Prop) [Decidable c]
    {s s' : GStep}
    (e : s = (match fr.roundOf with
      | none => if c then .go { frame := { fr with todo := k, mode := .returning }, callers := cs ++ bL, status := .running, dying := none } w else .ended (.stuck "exit, goto: no such block or label" (fr.pos (prg T FL))) w
      | some l => let (r, es) := (Instr.endRound l j).runT (prg T FL) w #[]
        GStep.after (seen (prg T FL) fr.fn es) <| match r with
        | .ok v w => doReturn (prg T FL) true fr (cs ++ bL) none v w
        | .halt _ w => .ended (.stuck "range over a function: no such loop" (fr.pos (prg T FL))) w))
    (e' : s' = (match fr'.roundOf with
      | none => if c then .go { frame := { fr' with todo := k', mode := .returning }, callers := cs' ++ bC, status := .running, dying := none } w' else .ended (.stuck "exit, goto: no such block or label" (fr'.pos (prg T FC))) w'
      | some l => let (r, es) := (Instr.endRound l j).runT (prg T FC) w' #[]
        GStep.after (seen (prg T FC) fr'.fn es) <| match r with
        | .ok v w => doReturn (prg T FC) m' fr' (cs' ++ bC) none v w
        | .halt _ w => .ended (.stuck "range over a function: no such loop" (fr'.pos (prg T FC))) w))
    {g₁ : Goroutine} {w₁ : World} {es₁ : Array Event} (h : s = .go g₁ w₁ es₁) (hlt : Fz.lt w₁.drawn) (hb : bL.length ≤ g₁.callers.length) : Went ok T Fz FL FC bL bC R w w' g₁ w₁ s' := by
  have hro := hfr.round
  revert hro
  cases hr : fr.roundOf with
  | none =>
    intro hro
    cases hr' : fr'.roundOf with
    | some l => rw [hr'] at hro; cases hro
    | none =>
      rw [hr] at e
      rw [hr'] at e'
      dsimp only at e e'
      subst e e'
      split at h
      · rename_i hc
        rw [if_pos hc]
        cases h
        exact .stay hw ⟨_, _, _, _, rfl, rfl, .ord ⟨hfr.fn, hfr.okf, hfr.ord, hfr.tmps, hk, hfr.defers, .returning, hfr.kind, hfr.kind', .none⟩, hcs⟩
      · cases h
  | some l =>
    intro hro
    cases hr' : fr'.roundOf with
    | none => rw [hr'] at hro; cases hro
    | some l' =>
      rw [hr'] at hro
      have hl : R l l' := by cases hro with | some x => exact x
      rw [hr] at e
      rw [hr'] at e'
      dsimp only at e e'
      subst e e'
      have h1 := Sim.endRound (Fz := Fz) (FL := FL) (FC := FC) hl hj R (Le.refl R) w w' hw #[]
      rcases hL : (Instr.endRound l j).runT (prg T FL) w #[] with ⟨r, ev⟩
      have hr0 : (Instr.endRound l j).run (prg T FL) w = r := by rw [← Sem.runT_fst _ _ _ #[], hL]
      rw [hr0] at h1
      rw [hL] at h
      dsimp only at h
      cases r with
      | halt hh w2 => simp only [GStep.after] at h; cases h
      | ok v w2 =>
        dsimp only at h
        cases hd : doReturn (prg T FL) true fr (cs ++ bL) none v w2 with
        | go g2 w3 es2 =>
          rw [hd] at h
          simp only [GStep.after] at h
          cases h
          obtain rfl := return_world hd
          obtain ⟨R₂, v', w₂', new, e, hx, hw2, hv, hev⟩ := h1 hlt
          rw [e, Array.empty_append]
          dsimp only
          obtain ⟨_, R₃, g', w₃', es', x1, x2, x3, x4, x5⟩ := return_sim (bL := bL) (bC := bC) (m' := m') (hfr.mono hx.le) (hcs.imp fun _ _ x => FRel.mono hx.le x) hI hw2 hv hd hb
          rw [x1]
          refine ⟨R₃, g', w₃', _, rfl, x2, hx.trans x3, x4, fun e he => ?_⟩
          rcases Array.mem_append.1 he with he | he
          · exact (hev e (seen_sub he)).mono x3.le
          · exact x5 e he
        | _ => rw [hd] at h; simp only [GStep.after] at h; cases h

theorem results_sim {fn : Func} {t t' : Array Value} (ht : Rows ok R t t') : Sim ok T Fz FL FC R (VRel ok) (results fn t) (results fn t') := by
  unfold results
  have key : ∀ (l : List ResultVar) {R₁ : Ren}, Le R R₁ → Sim ok T Fz FL FC R₁ (fun R x x' => LRel (VRel ok R) x x')
      (l.mapM fun | .tmp i => Pure.pure (t.getD i undef) | .cell a ty => do Go.loadVar ty (← Go.asAddr (t.getD a undef)))
      (l.mapM fun | .tmp i => Pure.pure (t'.getD i undef) | .cell a ty => do Go.loadVar ty (← Go.asAddr (t'.getD a undef))) := by
    intro l
    induction l with
    | nil => intro R₁ _; exact .pure fun _ _ => .nil
    | cons x l ih =>
      intro R₁ k
      rw [List.mapM_cons, List.mapM_cons]
      refine Sim.bind (A := VRel ok) ?_ fun R₂ k2 v v' hv => ?_
      · cases x with
        | tmp i => exact .val ((ht.getD i).mono k)
        | cell a ty => exact (Sim.asAddr ((ht.getD a).mono k)).bind fun R₂ k2 a a' ha => Sim.loadVar ty ha
      · exact (ih (k.trans k2)).bind fun R₃ k3 y y' hy => .pure fun R₄ k4 => .cons (hv.mono (k3.trans k4)) (hy.imp fun _ _ u => u.mono k4)
  rw [Array.mapM_eq_mapM_toList, Array.mapM_eq_mapM_toList]
  refine Sim.bind (A := fun R x x' => LRel (VRel ok R) x.toList x'.toList) ?_ fun R₁ k x x' hx => ?_
  · show Sim ok T Fz FL FC R _ (_ >>= fun (x : List Value) => Pure.pure x.toArray) (_ >>= fun (x : List Value) => Pure.pure x.toArray)
    exact (key fn.results.toList (Le.refl R)).bind fun R₁ _ x x' h => .pure fun R₂ k2 => by simpa using h.imp fun _ _ u => u.mono k2
  · obtain ⟨l⟩ := x
    obtain ⟨l'⟩ := x'
    have rows : ∀ {l l' : List Value}, LRel (VRel ok R₁) l l' → Rows ok R₁ l.toArray l'.toArray := by
      intro l l' h
      induction h with
      | nil => exact .empty
      | cons a _ ih =>
        have := (Rows.one a).append ih
        simpa using this
    have hr := rows hx
    cases hx with
    | nil => exact .val (.tupleR hr)
    | cons a h =>
      cases h with
      | nil => exact .val a
      | cons b h => exact .val (.tupleR hr)

/-- A frame that returns, or through which a panic goes. -/
theorem unwind_sim (P : Progs ok T Fz FL FC) {fr fr' : Frame} (hfr : FRel ok T R fr fr') (hm : fr.mode ≠ .run) {cs cs' : List Frame} (hcs : LRel (FRel ok T R) cs cs') (hI : T.inits.idxOf? fr.fn = none) (hw : WRel ok T Fz R w w') {m' : Bool}
    {g₁ : Goroutine} {w₁ : World} {es₁ : Array Event} (h : unwind (prg T FL) true fr (cs ++ bL) none w = .go g₁ w₁ es₁) (hlt : Fz.lt w₁.drawn) (hd : g₁.dying = none) (hs : g₁.status = .running) (hb : bL.length ≤ g₁.callers.length) : Went ok T Fz FL FC bL bC R w w' g₁ w₁ (unwind (prg T FC) m' fr' (cs' ++ bC) none w') := by
  have hdf := hfr.defers
  revert hdf
  cases e : fr.defers with
  | cons d ds =>
    intro hdf
    cases e' : fr'.defers with
    | nil => rw [e'] at hdf; cases hdf
    | cons d' ds' =>
      rw [e'] at hdf
      cases hdf with
      | cons hx hds =>
        obtain ⟨r, r', rfl, rfl, hr⟩ := hx
        unfold unwind at h ⊢
        simp only [e, e'] at h ⊢
        have h1 := Sim.takeDeferred (Fz := Fz) (FL := FL) (FC := FC) hr R (Le.refl R) w w' hw #[]
        rcases hL : (Instr.takeDeferred r).runT (prg T FL) w #[] with ⟨q, ev⟩
        have hr0 : (Instr.takeDeferred r).run (prg T FL) w = q := by rw [← Sem.runT_fst _ _ _ #[], hL]
        rw [hr0] at h1
        rw [hL] at h
        dsimp only at h
        cases q with
        | halt hh w2 => simp only [GStep.after] at h; cases h
        | ok l w2 =>
          simp only [GStep.after] at h
          cases h
          obtain ⟨R₂, v', w₂', new, e2, hx, hw2, ⟨rfl, rfl⟩, hev⟩ := h1 hlt
          rw [e2, Array.empty_append]
          simp only [GStep.after]
          refine ⟨R₂, _, _, _, rfl, ⟨_, _, _, _, rfl, rfl, .ord ?_, hcs.imp fun _ _ x => FRel.mono hx.le x⟩, hx, hw2, fun e he => ?_⟩
          · have f2 := hfr.mono hx.le
            refine ⟨f2.fn, f2.okf, f2.ord, f2.tmps, f2.todo, ?_, f2.mode, f2.kind, f2.kind', f2.round⟩
            exact hds.imp fun _ _ x => let ⟨r, r', a, b, c⟩ := x; ⟨r, r', a, b, hx.le _ _ c⟩
          · rw [Array.append_empty] at he
            exact hev e (seen_sub he)
  | nil =>
    intro hdf
    cases e' : fr'.defers with
    | cons d' ds' => rw [e'] at hdf; cases hdf
    | nil =>
      have hmm := hfr.mode
      unfold unwind at h ⊢
      simp only [e, e'] at h ⊢
      obtain ⟨fn, fn', f1, f2, f3⟩ := P.2 fr.fn hfr.okf
      have hfn : fn' = fn := by
        rcases f3 with ⟨_, _, _, _, _, f3⟩ | ⟨_, f3, _⟩
        · exact (f3 hfr.ord).1
        · exact f3
      subst hfn
      cases em : fr.mode with
      | run => exact absurd em hm
      | returning =>
        cases em' : fr'.mode <;> rw [em, em'] at hmm <;> cases hmm
        simp only [em] at h
        rw [hfr.fn]
        simp only [show (prg T FL).funcs[fr.fn]? = some fn' from f1] at h
        simp only [show (prg T FC).funcs[fr.fn]? = some fn' from f2]
        have h1 := results_sim (Fz := Fz) (FL := FL) (FC := FC) (fn := fn') hfr.tmps R (Le.refl R) w w' hw #[]
        rcases hL : (results fn' fr.tmps).runT (prg T FL) w #[] with ⟨q, ev⟩
        have hr0 : (results fn' fr.tmps).run (prg T FL) w = q := by rw [← Sem.runT_fst _ _ _ #[], hL]
        rw [hr0] at h1
        rw [hL] at h
        dsimp only at h
        cases q with
        | halt hh w2 => cases hh <;> simp only [GStep.after] at h <;> cases h
        | ok v w2 =>
          dsimp only at h
          cases hd2 : doReturn (prg T FL) true fr (cs ++ bL) none v w2 with
          | go g2 w3 es2 =>
            rw [hd2] at h
            simp only [GStep.after] at h
            cases h
            obtain rfl := return_world hd2
            obtain ⟨R₂, v', w₂', new, e2, hx, hw2, hv, hev⟩ := h1 hlt
            rw [e2, Array.empty_append]
            dsimp only
            obtain ⟨_, R₃, g', w₃', es', x1, x2, x3, x4, x5⟩ := return_sim (bL := bL) (bC := bC) (m' := m') (hfr.mono hx.le) (hcs.imp fun _ _ x => FRel.mono hx.le x) hI hw2 hv hd2 hb
            rw [x1]
            refine ⟨R₃, g', w₃', _, rfl, x2, hx.trans x3, x4, fun e he => ?_⟩
            rcases Array.mem_append.1 he with he | he
            · exact (hev e (seen_sub he)).mono x3.le
            · exact x5 e he
          | _ => rw [hd2] at h; simp only [GStep.after] at h; cases h
      | panicking c =>
        cases em' : fr'.mode <;> rw [em, em'] at hmm <;> cases hmm
        rename_i c' hc
        simp only [em] at h
        have hcat : fr.catches (prg T FL) = false := by unfold Frame.catches; rw [show (prg T FL).funcs[fr.fn]? = some fn' from f1]
        have hcat' : fr'.catches (prg T FC) = false := by unfold Frame.catches; rw [hfr.fn, show (prg T FC).funcs[fr.fn]? = some fn' from f2]
        simp only [hcat, hcat', Bool.false_eq_true, if_false] at h ⊢
        cases hcs with
        | cons hc0 hcs =>
          simp only [List.cons_append] at h ⊢
          cases h
          exact .stay hw ⟨_, _, _, _, rfl, rfl, .ord (hc0.raise hc), hcs⟩
        | nil =>
          exfalso
          simp only [List.nil_append] at h
          cases hbL : bL with
          | cons c0 bs =>
            rw [hbL] at h hb
            simp only at h
            cases h
            simp at hb
            omega
          | nil =>
            rw [hbL] at h
            simp only at h
            split at h
            · cases h; cases hs
            · split at h
              · cases h; cases hd
              · cases h
              · cases h
end
end Go.Proofs.Ytgkakgibgfehaaa.Sim

namespace Go.Proofs.Ytgkakgibgfehaaa.Sim
open Go.Conc (G)
section
variable {ok : Cx} {T : Tables} {Fz : Fr} {FL FC : Array Func} {R : Ren} {bL bC : List Frame} {w w' : World}

theorem all_ok {ops : Array Oper} (h : (ops.all fun o => okOp ok T o.op) = true) {i : Nat} {o : Oper} (ho : ops[i]? = some o) : okOp ok T o.op = true := by
  obtain ⟨hi, rfl⟩ := Array.getElem?_eq_some_iff.1 ho
  exact Array.all_eq_true.1 h i hi
theorem yielded_same {ops : Array Oper} {t t' : Array Value} (h : Rows ok R t t') (j : Nat) : yielded ops t' j = yielded ops t j := by
  unfold yielded
  cases (ops[j]?).bind (·.dst) with
  | none => rfl
  | some d =>
    simp only [Option.bind_some]
    cases hv : t[d]? with
    | none => rw [h.none hv]
    | some v =>
      obtain ⟨v', hv', hr⟩ := h.get hv
      rw [hv']
      cases hr <;> rfl
theorem exec_sim (P : Progs ok T Fz FL FC) {fr fr' : Frame} (hfr : FRel ok T R fr fr') {cs cs' : List Frame} (hcs : LRel (FRel ok T R) cs cs') (hI : T.inits.idxOf? fr.fn = none) (hw : WRel ok T Fz R w w') {m' : Bool}
    {g₁ : Goroutine} {w₁ : World} {es₁ : Array Event} (h : stepG.exec (prg T FL) true true fr (cs ++ bL) none w = .go g₁ w₁ es₁) (hlt : Fz.lt w₁.drawn) (hb : bL.length ≤ g₁.callers.length) : Went ok T Fz FL FC bL bC R w w' g₁ w₁ (stepG.exec (prg T FC) m' true fr' (cs' ++ bC) none w') := by
  have ht := hfr.todo
  revert ht
  cases e : fr.todo with
  | nil =>
    intro ht
    cases e' : fr'.todo with
    | cons => rw [e'] at ht; cases ht
    | nil =>
      unfold stepG.exec at h ⊢
      simp only [e, e'] at h ⊢
      exact leave_sim (m' := m') (j := none) hfr hcs hI hw (by simp) .nil True rfl rfl h hlt hb
  | cons i k =>
    intro ht
    cases e' : fr'.todo with
    | nil => rw [e'] at ht; cases ht
    | cons i' k' =>
      rw [e'] at ht
      cases ht with
      | cons hi hk =>
        have to : ∀ {x x' : List Item}, LRel (IRel ok T R) x x' → ∀ {g₁ w₁ es₁}, GStep.go { frame := { fr with todo := x }, callers := cs ++ bL, status := .running, dying := none } w = .go g₁ w₁ es₁ →
            Went ok T Fz FL FC bL bC R w w' g₁ w₁ (.go { frame := { fr' with todo := x' }, callers := cs' ++ bC, status := .running, dying := none } w') := by
          intro x x' hx g₁ w₁ es₁ h
          cases h
          exact .stay hw ⟨_, _, _, _, rfl, rfl, .ord (hfr.to hx), hcs⟩
        cases hi with
        | inBlock n => unfold stepG.exec at h ⊢; simp only [e, e'] at h ⊢; exact to hk h
        | inLoop c hc => unfold stepG.exec at h ⊢; simp only [e, e'] at h ⊢; exact to (.cons (.code c hc) (.cons (.inLoop c hc) hk)) h
        | inScope c hc => unfold stepG.exec at h ⊢; simp only [e, e'] at h ⊢; exact to hk h
        | inRangeFunc x => unfold stepG.exec at h; simp only [e] at h; cases h
        | beginRound =>
          unfold stepG.exec at h ⊢
          simp only [e, e'] at h ⊢
          refine apply_sim P hfr hcs ?_ hw h hlt
          have hro := hfr.round
          revert hro
          generalize fr.roundOf = r
          generalize fr'.roundOf = r'
          intro hro
          cases hro with
          | none => exact Sim.bind (A := fun _ _ _ => False) .stuck fun _ _ _ _ h => h.elim
          | some x => exact (Sim.beginRound x).toSkip
        | @endRangeFunc l l' x =>
          unfold stepG.exec at h ⊢
          simp only [e, e'] at h ⊢
          have h1 := Sim.endLoop (Fz := Fz) (FL := FL) (FC := FC) x R (Le.refl R) w w' hw #[]
          rcases hL : (Instr.endLoop l).runT (prg T FL) w #[] with ⟨r, ev⟩
          have hr0 : (Instr.endLoop l).run (prg T FL) w = r := by rw [← Sem.runT_fst _ _ _ #[], hL]
          rw [hr0] at h1
          rw [hL] at h
          dsimp only at h
          cases r with
          | ok j w2 =>
            simp only [GStep.after] at h
            cases h
            obtain ⟨R₂, j', w₂', new, e2, hx, hw2, ⟨rfl, hj⟩, hev⟩ := h1 hlt
            rw [e2, Array.empty_append]
            simp only [GStep.after]
            refine ⟨R₂, _, _, _, rfl, ⟨_, _, _, _, rfl, rfl, .ord ((hfr.mono hx.le).to ?_), hcs.imp fun _ _ x => FRel.mono hx.le x⟩, hx, hw2, fun e he => ?_⟩
            · have hk2 := hk.imp fun _ _ x => IRel.mono hx.le x
              cases j' with
              | none => exact hk2
              | some c => exact .cons (.code c (hj c rfl)) hk2
            · rw [Array.append_empty] at he
              exact hev e (seen_sub he)
          | halt hh w2 =>
            cases hh with
            | panic v =>
              simp only [GStep.after] at h
              cases h
              obtain ⟨g1, g2⟩ := h1 hlt
              obtain ⟨R₂, v', w₂', new, e2, hx, hw2, hv, hev⟩ := g2 v rfl
              rw [e2, Array.empty_append]
              simp only [GStep.after]
              refine ⟨R₂, _, _, _, rfl, ⟨_, _, _, _, rfl, rfl, .ord ((hfr.mono hx.le).raise (.cons ⟨hv, rfl, rfl⟩ .nil)), hcs.imp fun _ _ x => FRel.mono hx.le x⟩, hx, hw2, fun e he => ?_⟩
              rw [Array.append_empty] at he
              exact hev e (seen_sub he)
            | _ => simp only [GStep.after] at h; cases h
        | inRegion ops l hops =>
          cases l with
          | nil => unfold stepG.exec at h ⊢; simp only [e, e'] at h ⊢; exact to hk h
          | cons n l =>
            unfold stepG.exec at h ⊢
            simp only [e, e'] at h ⊢
            have ey : (fun j => yielded ops fr'.tmps j) = fun j => yielded ops fr.tmps j := funext fun j => yielded_same hfr.tmps j
            have ey' : yielded ops fr'.tmps = yielded ops fr.tmps := ey
            rw [ey']
            split at h
            · rename_i hwt
              rw [if_pos hwt]
              unfold stepG.oper at h ⊢
              have ho : fr.oper? = ops[n]? := by unfold Frame.oper?; rw [e]
              have ho' : fr'.oper? = ops[n]? := by unfold Frame.oper?; rw [e']
              rw [ho] at h
              rw [ho']
              cases hop : ops[n]? with
              | none => rw [hop] at h; cases h
              | some o =>
                rw [hop] at h
                dsimp only at h ⊢
                have hok := all_ok hops hop
                have nod : ∀ (P : Program) (ro : Option Nat) (f : Frame) (c : List Frame) (w : World), (match ro, o.op with
                    | some l, .defer c => stepG.apply P true f cs none (do Instr.deferInRound l (← resolve f.eval c o.type); pure .skip) w
                    | _, _ => stepG.apply P true f c none (execOp f.eval o) w) = stepG.apply P true f c none (execOp f.eval o) w := by
                  intro P ro f c w
                  cases ro with
                  | none => rfl
                  | some l =>
                    cases ho : o.op <;> first | rfl | (rw [ho] at hok; cases hok)
                have h' : stepG.apply (prg T FL) true fr (cs ++ bL) none (execOp fr.eval o) w = .go g₁ w₁ es₁ := by
                  rw [← h]
                  cases fr.roundOf with
                  | none => rfl
                  | some l => cases ho : o.op <;> first | rfl | (rw [ho] at hok; cases hok)
                have := apply_sim (bL := bL) (bC := bC) P hfr hcs (sim_oper P hfr.eval hok) hw h' hlt
                cases hro : fr'.roundOf with
                | none => exact this
                | some l => cases ho : o.op <;> first | exact this | (rw [ho] at hok; cases hok)
            · rename_i hwt
              rw [if_neg hwt]
              cases h
              exact .stay hw ⟨_, _, _, _, rfl, rfl, .ord (hfr.finish .undef), hcs⟩
        | code c hc =>
          cases c with
          | skip => unfold stepG.exec at h ⊢; simp only [e, e'] at h ⊢; exact to hk h
          | label n => unfold stepG.exec at h ⊢; simp only [e, e'] at h ⊢; exact to hk h
          | ret => unfold stepG.exec at h ⊢; simp only [e, e'] at h ⊢; exact leave_sim (m' := m') (j := some .ret) hfr hcs hI hw (by intro c h; cases h; rfl) (.cons (.code .ret rfl) hk) True rfl rfl h hlt hb
          | goto n => cases hc
          | refuse s => cases hc
          | seq a b =>
            simp only [okCode, Bool.and_eq_true] at hc
            unfold stepG.exec at h ⊢; simp only [e, e'] at h ⊢; exact to (.cons (.code a hc.1) (.cons (.code b hc.2) hk)) h
          | block n b => unfold stepG.exec at h ⊢; simp only [e, e'] at h ⊢; exact to (.cons (.code b hc) (.cons (.inBlock n) hk)) h
          | loop b => unfold stepG.exec at h ⊢; simp only [e, e'] at h ⊢; exact to (.cons (.code b hc) (.cons (.inLoop b hc) hk)) h
          | scope b => unfold stepG.exec at h ⊢; simp only [e, e'] at h ⊢; exact to (.cons (.code b hc) (.cons (.inScope b hc) hk)) h
          | cond c a b =>
            simp only [okCode, Bool.and_eq_true] at hc
            have hv := hfr.eval c hc.1.1
            unfold stepG.exec at h ⊢
            simp only [e, e'] at h ⊢
            revert hv
            cases hev : fr.eval c <;> rw [hev] at h <;> first | (cases h; done) | skip
            intro hv
            cases hev' : fr'.eval c <;> rw [hev'] at hv <;> cases hv
            rename_i t
            dsimp only at h ⊢
            exact to (.cons (.code _ (by cases t; exact hc.2; exact hc.1.2)) hk) h
          | exit n =>
            unfold stepG.exec at h ⊢
            simp only [e, e'] at h ⊢
            have hx := exit_rel n hk
            revert hx
            cases he1 : exitTo n k with
            | none =>
              intro hx
              cases he2 : exitTo n k' with
              | some x => rw [he2] at hx; cases hx
              | none =>
                rw [he1] at h
                simp only [Option.elim] at h ⊢
                exact leave_sim (m' := m') (j := some (.exit n)) hfr hcs hI hw (by intro c h; cases h; rfl) (.cons (.code (.exit n) rfl) hk) False rfl rfl h hlt hb
            | some x =>
              intro hx
              cases he2 : exitTo n k' with
              | none => rw [he2] at hx; cases hx
              | some x' =>
                rw [he2] at hx
                rw [he1] at h
                simp only [Option.elim] at h ⊢
                cases hx with
                | some hx => exact to hx h
          | region id ops draw =>
            unfold stepG.exec at h ⊢
            simp only [e, e'] at h ⊢
            cases draw with
            | false =>
              simp only [Bool.not_false, if_true] at h ⊢
              exact to (.cons (.inRegion ops _ hc) hk) h
            | true =>
              simp only [Bool.not_true, Bool.false_eq_true, if_false] at h ⊢
              simp only [choose, Sem.run, Question.forced, Bool.false_eq_true, if_false, Question.cut] at h ⊢
              cases h
              obtain ⟨⟨k1, k2⟩, k3⟩ := hw.draw hlt
              have et : w'.tape w'.drawn (.order fr'.fn id) = w.tape w.drawn (.order fr.fn id) := by rw [k3, hfr.fn]
              rw [et]
              refine ⟨R, _, _, _, rfl, ⟨_, _, _, _, rfl, rfl, .ord (hfr.to (.cons (.inRegion ops _ hc) hk)), hcs⟩, k1, k2, by simp⟩
          | rangeFunc f ps a b =>
            simp only [okCode, Bool.and_eq_true] at hc
            unfold stepG.exec at h ⊢
            simp only [e, e'] at h ⊢
            have h1 := Sim.enterLoop (Fz := Fz) (FL := FL) (FC := FC) hfr.okf hfr.ord hfr.tmps ps hc.1.2 hc.2 hfr.round R (Le.refl R) w w' hw #[]
            rcases hL : (Instr.enterLoop fr.fn fr.tmps ps a b fr.roundOf).runT (prg T FL) w #[] with ⟨r, ev⟩
            have hr0 : (Instr.enterLoop fr.fn fr.tmps ps a b fr.roundOf).run (prg T FL) w = r := by rw [← Sem.runT_fst _ _ _ #[], hL]
            rw [hr0] at h1
            rw [hL] at h
            dsimp only at h
            cases r with
            | halt hh w2 => simp only [GStep.after] at h; cases h
            | ok x w2 =>
              obtain ⟨l, mk⟩ := x
              have hmn : w2.drawn ≤ w₁.drawn := by
                have h0 : GStep.after (seen (prg T FL) fr.fn ev) (stepG.apply (prg T FL) true { fr with todo := .inRangeFunc l :: k, defers := mk ++ fr.defers } (cs ++ bL) none (do let d ← Go.resolve fr.eval { callee := .value f, args := #[.const (.func (.yield l) #[] #[])], argTypes := #[] } 0; Go.invoke d.target d.args) w2) = .go g₁ w₁ es₁ := h
                cases hA : (stepG.apply (prg T FL) true { fr with todo := .inRangeFunc l :: k, defers := mk ++ fr.defers } (cs ++ bL) none (do let d ← Go.resolve fr.eval { callee := .value f, args := #[.const (.func (.yield l) #[] #[])], argTypes := #[] } 0; Go.invoke d.target d.args) w2) with
                | go g2 w3 es2 =>
                  rw [hA] at h0
                  simp only [GStep.after] at h0
                  cases h0
                  exact Nat.le_trans (run_mono _ _ _) (apply_mono hA)
                | _ => rw [hA] at h0; simp only [GStep.after] at h0; cases h0
              obtain ⟨R₂, x', w₂', new, e2, hx, hw2, hxx, hev⟩ := h1 (hlt.le hmn)
              obtain ⟨l', mk'⟩ := x'
              have e2' : (Instr.enterLoop fr'.fn fr'.tmps ps a b fr'.roundOf).runT (prg T FC) w' #[] = (.ok (l', mk') w₂', #[] ++ new) := by rw [hfr.fn]; exact e2
              rw [e2', Array.empty_append]
              dsimp only at h ⊢ hxx
              have hfr2 : FRel ok T R₂ { fr with todo := .inRangeFunc l :: k, defers := mk ++ fr.defers } { fr' with todo := .inRangeFunc l' :: k', defers := mk' ++ fr'.defers } := by
                have f2 := hfr.mono hx.le
                refine ⟨f2.fn, f2.okf, f2.ord, f2.tmps, .cons (.inRangeFunc hxx.1) (hk.imp fun _ _ x => IRel.mono hx.le x), ?_, f2.mode, f2.kind, f2.kind', f2.round⟩
                exact hxx.2.append f2.defers
              have hs : Sim ok T Fz FL FC R₂ (NRel ok T) (do let d ← Go.resolve fr.eval { callee := .value f, args := #[.const (.func (.yield l) #[] #[])], argTypes := #[] } 0; Go.invoke d.target d.args) (do let d ← Go.resolve fr'.eval { callee := .value f, args := #[.const (.func (.yield l') #[] #[])], argTypes := #[] } 0; Go.invoke d.target d.args) := by
                refine Sim.bind (A := DRel ok T) ?_ fun R₃ k3 d d' hd => Sim.invoke P hd
                have ha : Rows ok R₂ (#[Operand.const (.func (.yield l) #[] #[])].map fr.eval) (#[Operand.const (.func (.yield l') #[] #[])].map fr'.eval) := by
                  simp only [List.map_toArray, List.map_cons, List.map_nil, Frame.eval]
                  exact .one (.funcR (.yield hxx.1) .empty .empty)
                exact Sim.ofValue ((hfr.eval f hc.1.1).mono hx.le) ha
              cases hA : stepG.apply (prg T FL) true { fr with todo := .inRangeFunc l :: k, defers := mk ++ fr.defers } (cs ++ bL) none (do let d ← Go.resolve fr.eval { callee := .value f, args := #[.const (.func (.yield l) #[] #[])], argTypes := #[] } 0; Go.invoke d.target d.args) w2 with
              | go g2 w3 es2 =>
                have h' : GStep.after (seen (prg T FL) fr.fn ev) (stepG.apply (prg T FL) true { fr with todo := .inRangeFunc l :: k, defers := mk ++ fr.defers } (cs ++ bL) none (do let d ← Go.resolve fr.eval { callee := .value f, args := #[.const (.func (.yield l) #[] #[])], argTypes := #[] } 0; Go.invoke d.target d.args) w2) = .go g₁ w₁ es₁ := h
                rw [hA] at h'
                simp only [GStep.after] at h'
                cases h'
                obtain ⟨R₃, g', w₃', es', x1, x2, x3, x4, x5⟩ := apply_sim (bL := bL) (bC := bC) P hfr2 (hcs.imp fun _ _ x => FRel.mono hx.le x) hs hw2 hA hlt
                have goal : Went ok T Fz FL FC bL bC R w w' g₁ w₁ (GStep.after (seen (prg T FC) fr'.fn new) (stepG.apply (prg T FC) true { fr' with todo := .inRangeFunc l' :: k', defers := mk' ++ fr'.defers } (cs' ++ bC) none (do let d ← Go.resolve fr'.eval { callee := .value f, args := #[.const (.func (.yield l') #[] #[])], argTypes := #[] } 0; Go.invoke d.target d.args) w₂')) := by
                  rw [x1]
                  refine ⟨R₃, g', w₃', _, rfl, x2, hx.trans x3, x4, fun e he => ?_⟩
                  rcases Array.mem_append.1 he with he | he
                  · exact (hev e (seen_sub he)).mono x3.le
                  · exact x5 e he
                exact goal
              | _ =>
                have h' : GStep.after (seen (prg T FL) fr.fn ev) (stepG.apply (prg T FL) true { fr with todo := .inRangeFunc l :: k, defers := mk ++ fr.defers } (cs ++ bL) none (do let d ← Go.resolve fr.eval { callee := .value f, args := #[.const (.func (.yield l) #[] #[])], argTypes := #[] } 0; Go.invoke d.target d.args) w2) = .go g₁ w₁ es₁ := h
                rw [hA] at h'
                simp only [GStep.after] at h'
                cases h'

/-- ONE STEP. -/
theorem sim_step (P : Progs ok T Fz FL FC) (hI : ∀ f, ok.ok f = true → T.inits.idxOf? f = none) {fr fr' : Frame} (hfr : FRel ok T R fr fr') {cs cs' : List Frame} (hcs : LRel (FRel ok T R) cs cs') (hw : WRel ok T Fz R w w') {m' : Bool}
    {g₁ : Goroutine} {w₁ : World} {es₁ : Array Event} (h : stepG (prg T FL) true (G fr (cs ++ bL)) w = .go g₁ w₁ es₁) (hlt : Fz.lt w₁.drawn) (hd : g₁.dying = none) (hs : g₁.status = .running) (hb : bL.length ≤ g₁.callers.length) : Went ok T Fz FL FC bL bC R w w' g₁ w₁ (stepG (prg T FC) m' (G fr' (cs' ++ bC)) w') := by
  have hm := hfr.mode
  by_cases hr : fr.mode = .run
  · have hr' : fr'.mode = .run := by
      rw [hr] at hm
      revert hm
      generalize fr'.mode = x
      intro hm
      cases hm
      rfl
    rw [stepG_run hr] at h
    rw [stepG_run hr']
    exact exec_sim P hfr hcs (hI _ hfr.okf) hw h hlt hb
  · have hr' : fr'.mode ≠ .run := by
      intro e
      rw [e] at hm
      revert hm hr
      generalize fr.mode = x
      intro hm hr
      cases hm
      exact hr rfl
    rw [stepG_unw hr] at h
    rw [stepG_unw hr']
    exact unwind_sim P hfr hr hcs (hI _ hfr.okf) hw h hlt hd hs hb
end
end Go.Proofs.Ytgkakgibgfehaaa.Sim

namespace Go.Proofs.Ytgkakgibgfehaaa.Sim
open Go.Conc (G)
section
variable {ok : Cx} {T : Tables} {R : Ren}
def Diag (R : Ren) : Prop := ∀ b b', R b b' → b' = b
theorem ARel.diag (hR : Diag R) (h0 : ∀ b, ok.sh b = 0) {a a' : Addr} (h : ARel ok R a a') : a' = a := by
  obtain ⟨b, o, s⟩ := a
  obtain ⟨b', o', s'⟩ := a'
  obtain ⟨h1, h2, h3⟩ := h
  dsimp only at h1 h2 h3
  obtain rfl := hR _ _ h1
  rw [h0] at h2
  simp at h2
  rw [h2, h3]
theorem VRel.diag (hR : Diag R) (h0 : ∀ b, ok.sh b = 0) {v v' : Value} (h : VRel ok R v v') : v' = v := by
  have arr : ∀ {c c' : Array Value}, c'.size = c.size → (∀ (i : Nat) v v', c[i]? = some v → c'[i]? = some v' → v' = v) → c' = c := by
    intro c c' hs h
    apply Array.ext hs
    intro i h1 h2
    exact h i _ _ (Array.getElem?_eq_getElem h2) (Array.getElem?_eq_getElem h1)
  induction h with
  | bool | int | string | nilPtr | nilSlice | nilMap | nilFunc | nilIface => rfl
  | ptr h => rw [h.diag hR h0]
  | slice n c h => rw [h.diag hR h0]
  | map h => rw [hR _ _ h]
  | func f s1 _ s2 _ i1 i2 =>
    rw [arr s1 i1, arr s2 i2]
    cases f with
    | func f h => rfl
    | yield h => rw [hR _ _ h]
  | iface t _ ih => rw [ih]
  | agg s _ ih => rw [arr s ih]
  | tuple s _ ih => rw [arr s ih]
theorem Rows.diag (hR : Diag R) (h0 : ∀ b, ok.sh b = 0) {c c' : Array Value} (h : Rows ok R c c') : c' = c := by
  apply Array.ext h.1
  intro i h1 h2
  exact (h.2 i _ _ (Array.getElem?_eq_getElem h2) (Array.getElem?_eq_getElem h1)).diag hR h0
theorem LRel.diag {α : Type} {A : α → α → Prop} (hA : ∀ a b, A a b → b = a) {l l' : List α} (h : LRel A l l') : l' = l := by
  induction h with
  | nil => rfl
  | cons a _ ih => rw [ih, hA _ _ a]
theorem ORel.diag {α : Type} {A : α → α → Prop} (hA : ∀ a b, A a b → b = a) {l l' : Option α} (h : ORel A l l') : l' = l := by
  cases h with
  | none => rfl
  | some a => rw [hA _ _ a]
theorem ObjRel.diag (hR : Diag R) (h0 : ∀ b, ok.sh b = 0) {o o' : Obj} (h : ObjRel ok T R o o') : o' = o := by
  cases h with
  | cells e fr h => rw [h.diag hR h0]
  | @loop l l' h =>
    obtain ⟨a1, a2, a3, a4, a5, a6, a7, a8⟩ := l
    obtain ⟨b1, b2, b3, b4, b5, b6, b7, b8⟩ := l'
    obtain ⟨h1, h2, _, h3, _, _, h4, h5, h6, _, h7, _, h8⟩ := h
    dsimp only at h1 h2 h3 h4 h5 h6 h7 h8
    rw [h1, h2, h3, h4.diag hR h0, h5, h6, h7, hR _ _ h8]
  | number l h => rw [h.diag hR h0]
  | deferred b => rfl
theorem FRel.diag (hR : Diag R) (h0 : ∀ b, ok.sh b = 0) {f f' : Frame} (h : FRel ok T R f f') : f' = f := by
  obtain ⟨a1, a2, a3, a4, a5, a6, a7⟩ := f
  obtain ⟨b1, b2, b3, b4, b5, b6, b7⟩ := f'
  obtain ⟨h1, _, _, h2, h3, h4, h5, h6, h7, h8⟩ := h
  dsimp only at h1 h2 h3 h4 h5 h6 h7 h8
  have e3 : b3 = a3 := h3.diag fun i i' hi => by
    cases hi with
    | inRangeFunc x => rw [hR _ _ x]
    | endRangeFunc x => rw [hR _ _ x]
    | _ => rfl
  have e4 : b4 = a4 := h4.diag fun d d' hd => by
    obtain ⟨r, r', rfl, rfl, x⟩ := hd
    rw [hR _ _ x]
  have e5 : b5 = a5 := by
    cases h5 with
    | run => rfl
    | returning => rfl
    | panicking x =>
      rw [x.diag fun e e' h => ?_]
      obtain ⟨v, r, g⟩ := e
      obtain ⟨v', r', g'⟩ := e'
      obtain ⟨k1, k2, k3⟩ := h
      dsimp only at k1 k2 k3
      rw [k1.diag hR h0, k2, k3]
  rw [h1, h2.diag hR h0, e3, e4, e5, h6, h7, h8.diag fun _ _ x => hR _ _ x]
end
end Go.Proofs.Ytgkakgibgfehaaa.Sim
