/-
  MANY WORKERS THAT MAKE THINGS: A STEP OF ANOTHER's KEEPS THE INVARIANT AND LOWERS THE MEASURE, II: in the deferred Done; all situations together. No condition but what each theorem says.
  MANY WORKERS THAT MAKE THINGS: A STEP OF GOROUTINE 0's KEEPS THE INVARIANT AND LOWERS THE MEASURE, or is the one by which it acquires what all have released. No condition but what each theorem says.
  MANY WORKERS THAT MAKE THINGS: THE PHASE: from where goroutine 0 begins to start its workers to where it has acquired what all have released, on every tape. No condition but what each theorem says.
-/
import Derived.Test.YtgkakgibgfehaaaSh16
namespace Go.Proofs.Ytgkakgibgfehaaa.Ph
open Go.Conc Go.ConcN Go.Proofs.Ytgkakgibgfehaaa.Sim
open Go.ConcR (KK wgBlock WgAt stA smA rd wr mk Payload DC0 Bk g_of_ofEvents bk_of_mute ofEvent_loc_mark ofEvent_cell ofEvent_mk)
variable [Payload]

section
variable {ok : Cx} {T : Tables} {FL FC : Array Func} {ty : TypeId} {Wg C n : Nat} {Q : Nat → Value → World → Prop} {PV : Nat → Value → Nat → Obj → Prop} {j0 : Nat} {Next Anch : Kn → Goroutine → World → Prop} {rdS : Nat → Nat → Prop}
  {Sb : Nat → Prop} {B0 t0 : Nat} {W0 : World} {own : Nat → Nat} {J : Nat} {D : Nat → Wk} {gs : Array Goroutine} {w w' : World} {t : Trace} {d0 : Nat} {tag : CTag} {e kM fM : Nat} {X : Kn} {a : Goroutine} {sl : Option (Nat × Nat)} {st sm : Int}

omit [Payload] in
theorem evK_bk {p B : Nat} {b : Nat → Nat} (hS : Sb Wg) (h0 : j0 ≤ p) (hB : Wg < B) {e : Event} (he : Bk Wg e) : EvK Sb Wg C j0 b rdS p B e := by
  rcases he with h1 | h1 | ⟨a, wr, rfl, ha⟩
  · exact ⟨fun y hy => (by rw [ofEvent_loc_mark h1] at hy; cases hy), by rw [h1]; simp, fun y hy => (by rw [ofEvent_loc_mark h1] at hy; cases hy)⟩
  · exact ⟨fun y hy => (by rw [ofEvent_loc_mark h1] at hy; cases hy), by rw [h1]; simp, fun y hy => (by rw [ofEvent_loc_mark h1] at hy; cases hy)⟩
  · refine ⟨fun y hy => ?_, by simp, fun y hy => ?_⟩ <;> rw [ofEvent_cell] at hy <;> simp only [MemAct.touch?, Option.some.injEq] at hy <;> subst hy
    case refine_2 => exact (show a.block < B by omega)
    exact ⟨by omega, .inl ⟨(show Sb a.block by rw [ha]; exact hS), rfl⟩⟩
omit [Payload] in
theorem evK_mark {p B : Nat} {b : Nat → Nat} {m : Mark} (hm : (MemAct.mark m).touch? = none) (hr : m ≠ .release (stA Wg)) : EvK Sb Wg C j0 b rdS p B (mk m) := by
  have e1 : MemAct.ofEvent (mk m) = .mark m := ofEvent_mk m
  exact ⟨fun y hy => (by rw [e1, hm] at hy; cases hy), fun hl => hr (by simpa [mk] using hl), fun y hy => (by rw [e1, hm] at hy; cases hy)⟩
omit [Payload] in
/-- What a step that is idle in the library's eyes lists. -/
theorem evK_lib {p B : Nat} {b : Nat → Nat} (hS : Sb Wg) (h0 : j0 ≤ p) (hB : Wg < B) {k : Nat} {e : Event} (he : EvW Wg (fun _ _ => False) (fun _ _ => False) k e) : EvK Sb Wg C j0 b rdS p B e := by
  have key : ∀ y, (MemAct.ofEvent e).touch? = some y → ShN Wg y.loc ∧ y.kind = .atomic := by
    intro y hy
    rcases (he.1 0 "").2 y hy with ⟨h1, h2, h3⟩ | h | ⟨h, _⟩
    · refine ⟨h1, ?_⟩
      revert h2 h3
      generalize y.kind = kd
      intro h2 h3
      cases kd
      · exact absurd rfl h2
      · rfl
      · exact absurd rfl h3
    · exact h.elim
    · exact h.elim
  refine ⟨fun y hy => ?_, he.2.2.2, fun y hy => ?_⟩
  · obtain ⟨⟨a, e1, e2⟩, h2⟩ := key y hy
    exact ⟨by omega, .inl ⟨by rw [e1]; show Sb a.block; rw [e2]; exact hS, h2⟩⟩
  · obtain ⟨⟨a, e1, e2⟩, h2⟩ := key y hy
    rw [e1]
    show a.block < B
    omega

set_option maxHeartbeats 3200000 in
theorem lib_step (hn : n < 2147483648) (hAr : ∀ X g w, Anch X g w → g.status = .running) (h : (Now ok T FL FC ty Wg C n Q PV j0 Next Anch Sb B0 t0 W0 own rdS tag e X d0 a st sm J D kM fM gs w t)) {p : Nat} (hp : p < J) (h0 : j0 ≤ p) {g : Goroutine} (hg : gs[p + 1]? = some g) (hrun : g.status = .running) {s m d : Nat}
    (hs : WSit (prg T FC) ty Wg C n (fun _ _ => False) (fun _ _ => False) 0 (p - j0 + 1) (D p).v s m d g w) (hst : (D p).base.stage = s) (hde : (D p).base.deaf = d) (hx : ((D p).ex = 0 ∧ (D p).nd = .num 0 m) ∨ ((D p).ex = 1 ∧ s = 7)) :
    (On ok T FL FC ty Wg C n Q PV j0 Next Anch Sb B0 t0 W0) (rank n J D tag e) J D kM fM t (runT (prg T FC) (crowd gs w sl) (p + 1)) := by
  have hC0 := h.crew.ownC
  have hCW : C ≠ Wg := fun e => hC0.2 (e ▸ h.crew.ownW)
  have hWl := (h.crew.ownS Wg h.crew.ownW).2
  have hdk : Deaf t (p + 1) = d := by rw [h.crew.deafW p hp, hde]
  have hwg := h.wg
  have hmode := h.mode
  have hst' : (baseOf D p).stage = s := hst
  have hb := h.main.bound
  have hle := h.crew.le
  have hVn : Vc J (baseOf D) + pend tag ≤ n := by
    have key : ∀ j, j0 + j ≤ J → Vc (j0 + j) (baseOf D) ≤ j := by
      intro j
      induction j with
      | zero =>
        intro hj
        have : Vc (j0 + 0) (baseOf D) = sumTo j0 fun _ => 0 := sumTo_congr fun i hi => by
          have := h.crew.old i hi
          simp [cnt, baseOf, this]
        rw [this]
        have := sumTo_le (f := fun _ => 0) (c := 0) (j := j0) fun _ _ => Nat.le_refl _
        simpa using this
      | succ j ih =>
        intro hj
        have := ih (by omega)
        have e : Vc (j0 + (j + 1)) (baseOf D) = Vc (j0 + j) (baseOf D) + cnt (baseOf D (j0 + j)) := rfl
        have c1 : cnt (baseOf D (j0 + j)) ≤ 1 := by unfold cnt; split <;> omega
        omega
    have := key (J - j0) (by omega)
    rw [show j0 + (J - j0) = J by omega] at this
    omega
  -- a step of the bookkeeping: at most the group's block turns
  have bookG : ∀ {g' : Goroutine} {w' : World} {es : Array Event} {s' m' dd' : Nat} {st' sm' : Int}, stepG (prg T FC) false g w = .go g' w' es → Aside Wg w w' → WgAt ty Wg w' st' sm' → (∀ e ∈ es, Bk Wg e) →
      (∀ jx e, es[jx]? = some e → (MemAct.ofEvent e).touch? = none ∨ 0 < deafBehind d (es.extract 0 jx)) → WSit (prg T FC) ty Wg C n (fun _ _ => False) (fun _ _ => False) 0 (p - j0 + 1) (D p).v s' m' dd' g' w' → deafBehind d es = dd' → s ≤ 6 → s' ≤ 6 →
      (∀ tag', (tag' = tag ∨ (tag = .blk ∧ tag' = .w3)) → (mayWake (prg T FC) g = true → g'.status = .running → tag' ≠ .blk) → ConcN.Mode J (upd (baseOf D) p ⟨s', 0, dd'⟩) tag' st' sm') → ((s' < s ∧ cnt ⟨s', 0, dd'⟩ ≤ cnt (D p).base) ∨ (s' = s ∧ m' + 1 = m)) →
      (On ok T FL FC ty Wg C n Q PV j0 Next Anch Sb B0 t0 W0) (rank n J D tag e) J D kM fM t (runT (prg T FC) (crowd gs w sl) (p + 1)) := by
    intro g' w' es s' m' dd' st' sm' hgo hAs hwg' hbk hd hs' hdd h6 h6' hmode' hlt
    have hsz := hAs.size
    have hx0 : (D p).ex = 0 ∧ (D p).nd = .num 0 m := hx.elim id fun x => by omega
    obtain ⟨cs, hcs1, hcs2⟩ := h.crew.pay
    have hbC := hAs.block C hCW
    refine h.step hAr (x := ⟨⟨s', 0, dd'⟩, 0, .num 0 m', (D p).v, (D p).rb, (D p).ro⟩) hp hg hgo (turn_aside hAs (.inl rfl)) ⟨cs, hbC.trans hcs1, hcs2⟩ hwg' (fun i _ => cell_of_block hbC i) (.lib hs') (fun e he => evK_bk h.crew.ownW h0 (by omega) (hbk e he)) (fun hlt => by omega)
      (by rw [hde]; exact hdd) (fun _ _ => ?_) (fun _ _ => (cell_of_block hbC _).trans (h.crew.has p h0 hp (by omega))) (fun _ _ => ?_) (acc_num _ _) hmode' ?_
    · obtain ⟨r, hr⟩ := h.crew.rel p h0 hp (by omega)
      exact ⟨r, hr.book hdk _ _ hbk hd⟩
    · rw [own'_same hsz]
      obtain ⟨x1, x2, x3⟩ := h.crew.res p h0 hp (by omega)
      exact ⟨x1, (hAs.block _ (fun e => by have := (h.crew.ownS Wg h.crew.ownW).1; rw [e] at x1; omega)).trans x2, x3⟩
    · rcases hlt with ⟨h1, h2⟩ | ⟨h1, h2⟩
      · exact .inl ⟨by simp only; omega, h2⟩
      · exact .inr ⟨by simp only; omega, hx0.1.symm, by rw [hx0.2]; exact .near (by omega)⟩
  have book : ∀ {g' : Goroutine} {w' : World} {es : Array Event} {s' m' dd' : Nat} {st' sm' : Int}, stepG (prg T FC) false g w = .go g' w' es → Aside Wg w w' → WgAt ty Wg w' st' sm' → (∀ e ∈ es, Bk Wg e) →
      (∀ jx e, es[jx]? = some e → (MemAct.ofEvent e).touch? = none ∨ 0 < deafBehind d (es.extract 0 jx)) → WSit (prg T FC) ty Wg C n (fun _ _ => False) (fun _ _ => False) 0 (p - j0 + 1) (D p).v s' m' dd' g' w' → deafBehind d es = dd' → s ≤ 6 → s' ≤ 6 →
      ConcN.Mode J (upd (baseOf D) p ⟨s', 0, dd'⟩) tag st' sm' → ((s' < s ∧ cnt ⟨s', 0, dd'⟩ ≤ cnt (D p).base) ∨ (s' = s ∧ m' + 1 = m)) →
      (On ok T FL FC ty Wg C n Q PV j0 Next Anch Sb B0 t0 W0) (rank n J D tag e) J D kM fM t (runT (prg T FC) (crowd gs w sl) (p + 1)) :=
    fun hgo hAs hwg' hbk hd hs' hdd h6 h6' hmode' hlt => bookG hgo hAs hwg' hbk hd hs' hdd h6 h6' (fun _ ht _ => hmode'.retag ht) hlt
  have same : ∀ dd', ConcN.Mode J (upd (baseOf D) p ⟨s, 0, dd'⟩) tag st sm := fun dd' => by
    have := hmode.same (i := p) 0 dd'
    rwa [hst'] at this
  have idle : ∀ {g' : Goroutine} {m' : Nat}, stepG (prg T FC) false g w = .go g' w #[] → WSit (prg T FC) ty Wg C n (fun _ _ => False) (fun _ _ => False) 0 (p - j0 + 1) (D p).v s m' d g' w → m' + 1 = m → s ≤ 6 →
      (On ok T FL FC ty Wg C n Q PV j0 Next Anch Sb B0 t0 W0) (rank n J D tag e) J D kM fM t (runT (prg T FC) (crowd gs w sl) (p + 1)) :=
    fun hgo hs' hm h6 => book hgo (.refl Wg w) hwg (by simp) (by simp) hs' rfl h6 h6 (same d) (.inr ⟨rfl, hm⟩)
  have bkr : ∀ e ∈ #[rd (stA Wg)], Bk Wg e := by intro e he; simp at he; subst he; exact bk_cell _ _ rfl
  have bkw : ∀ e ∈ #[wr (stA Wg)], Bk Wg e := by intro e he; simp at he; subst he; exact bk_cell _ _ rfl
  have df1 : ∀ {ev : Event} jx e, (#[ev] : Array Event)[jx]? = some e → (MemAct.ofEvent e).touch? = none ∨ 0 < deafBehind 1 ((#[ev] : Array Event).extract 0 jx) := by
    intro ev jx e he
    match jx, he with
    | 0, _ => exact .inr (by simp [deafBehind])
    | jx + 1, he => simp at he
  cases hs with
  | r0 hG =>
    have nr0 : ∀ tag', (tag' = tag ∨ (tag = .blk ∧ tag' = .w3)) → ∀ ex : Nat, ConcN.Mode J (upd (baseOf D) p ⟨6, 0, 0⟩) tag' st sm := fun tag' ht _ => (hmode.counted hp (by omega) (.inl rfl) 0 0).retag ht
    rcases Goes.cases hG with hstop | ⟨m', rfl, hstep⟩
    · obtain ⟨_, hhas, g', hgo, m₂, hk⟩ := hstop w (RW.refl w)
      have e1 : w.heap.size = w.heap.size := rfl
      refine h.step hAr (x := ⟨⟨6, 0, 0⟩, 0, .num 0 m₂, (D p).v, (D p).rb, (D p).ro⟩) hp hg hgo (turn_same rfl rfl rfl rfl) h.crew.pay hwg (fun _ _ => rfl) (.lib (.k1 hk)) (fun e he => ?_) (fun hlt => by omega)
        (by rw [hde]; rfl) (fun _ _ => ⟨t.size, RelBy.new hdk _ _⟩) (fun _ _ => by simpa using hhas) (fun _ _ => ?_) (acc_num _ _) (fun tag' ht _ => nr0 tag' ht 0) (.inl ⟨by simp only; omega, by simp [cnt, hst]⟩)
      · simp at he; subst he
        exact evK_mark rfl (by simp)
      · rw [own'_same rfl]
        exact h.crew.res p h0 hp (by rcases hx with ⟨x, _⟩ | ⟨x, _⟩ <;> omega)
    · obtain ⟨g', w', es, hgo, ⟨hac, hev⟩, hg'⟩ := hstep w (RW.refl w)
      simp only [Nat.add_sub_cancel] at hac
      have hbW := hac.block Wg (Ne.symm hCW)
      refine h.step hAr (x := ⟨⟨7, 0, 0⟩, 0, .num 0 m', (D p).v, (D p).rb, (D p).ro⟩) hp hg hgo ⟨by rw [hac.size]; exact Nat.le_refl _, fun b _ _ hb _ => hac.block b hb, hac.os, hac.output, hac.tape⟩ (hac.pay h.crew.pay) (hwg.of_block hbW) (fun i hi => hac.cells i (hi h0)) (.lib (.r0 hg'))
        (fun e he => evK_lib h.crew.ownW h0 (by rw [hac.size]; exact hWl) (hev e he)) (fun hlt => by omega) (by rw [hde]; exact deafBehind_idle (fun e he => ⟨(hev e he).2.1, (hev e he).2.2.1⟩) 0) (fun _ h => by simp at h) (fun _ h => by simp at h) (fun _ _ => ?_) (acc_num _ _) (fun tag' ht _ => (same 0).retag ht) ?_
      · rw [own'_same hac.size]
        obtain ⟨x1, x2, x3⟩ := h.crew.res p h0 hp (by rcases hx with ⟨x, _⟩ | ⟨x, _⟩ <;> omega)
        exact ⟨x1, (hac.block _ (fun e => by rw [e] at x1; omega)).trans x2, x3⟩
      · rcases hx with ⟨x1, x2⟩ | ⟨x1, x2⟩
        · exact .inr ⟨hst.symm, x1.symm, by rw [x2]; exact .near (Nat.lt_succ_self m')⟩
        · exact .inl ⟨by simp only; omega, by simp [cnt, hst]⟩
  | k1 hG =>
    rcases Goes.cases hG with hstop | ⟨m', rfl, hstep⟩
    · obtain ⟨_, g', hgo, m₂, hk⟩ := hstop w (RW.refl w)
      exact book hgo (.refl Wg w) hwg (by intro e he; simp at he; subst he; exact .inl rfl) (by intro jx e he; exact .inl (by have := Array.mem_of_getElem? he; simp at this; subst this; rfl)) (.d1 hk) rfl (by omega) (by omega)
        (hmode.counted hp (by omega) (.inr rfl) _ _) (.inl ⟨by omega, by simp [cnt, hst]⟩)
    · obtain ⟨g', w', es, hgo, ⟨rfl, rfl⟩, hg'⟩ := hstep w (RW.refl w)
      exact idle hgo (.k1 hg') rfl (by omega)
  | d1 hG =>
    rcases Goes.cases hG with hstop | ⟨m', rfl, hstep⟩
    · obtain ⟨_, hall⟩ := hstop w (RW.refl w)
      have hc1 : cnt (baseOf D p) = 1 := by simp [cnt, hst']
      have hV1 : 1 ≤ Vc J (baseOf D) := by have := le_sumTo (f := fun x => cnt (baseOf D x)) hp; simp only [Vc]; omega
      have bk2 : ∀ e ∈ #[rd (stA Wg), wr (stA Wg)], Bk Wg e := by intro e he; simp at he; rcases he with rfl | rfl <;> exact bk_cell _ _ rfl
      have df2 : ∀ jx e, (#[rd (stA Wg), wr (stA Wg)] : Array Event)[jx]? = some e → (MemAct.ofEvent e).touch? = none ∨ 0 < deafBehind 1 ((#[rd (stA Wg), wr (stA Wg)] : Array Event).extract 0 jx) := by
        intro jx e he
        match jx, he with
        | 0, _ => exact .inr (by simp [deafBehind])
        | 1, _ => exact .inr (by simp [deafBehind, rd])
        | jx + 2, he => simp at he
      have hq0 : cnt (⟨1, 0, 1⟩ : WD) = 0 := rfl
      have hVu := Vc_upd (baseOf D) (⟨1, 0, 1⟩ : WD) hp
      have opq : OpenSt J (baseOf D) → OpenSt J (upd (baseOf D) p ⟨1, 0, 1⟩) := fun h a ha => by
        by_cases e : a = p
        · subst e; rw [upd_same]; simp
        · rw [upd_ne _ _ e]; exact h a ha
      cases hmode with
      | opn h1 h2 h3 =>
        obtain ⟨v, hv⟩ : ∃ v, Vc J (baseOf D) + pend tag = v + 1 := ⟨Vc J (baseOf D) + pend tag - 1, by omega⟩
        rw [hv] at hwg
        have hw1 : WgAt ty Wg w (((v : Nat) + 1) * KK + ((0 : Nat) : Int)) 0 := by simpa using hwg
        obtain ⟨g', hgo, _, hq⟩ := hall v 0 (by omega) (by omega) hw1
        obtain ⟨q, hq⟩ := hq (by omega)
        have hv' : Vc J (upd (baseOf D) p ⟨1, 0, 1⟩) + pend tag = v := by omega
        refine book hgo (aside_setCell w (stA Wg) _) (hwg.setSt _) bk2 df2 (.quit hq) rfl (by omega) (by omega) ?_ (.inl ⟨by omega, by simp [cnt]⟩)
        have e : ((v : Nat) : Int) * KK + ((0 : Nat) : Int) = ((Vc J (upd (baseOf D) p ⟨1, 0, 1⟩) + pend tag : Nat) : Int) * KK := by rw [hv']; simp
        rw [e]
        exact .opn h1 (opq h2) (fun vs ev => by have := h3 vs ev; omega)
      | reg h1 h2 h3 =>
        obtain ⟨v, hv⟩ : ∃ v, Vc J (baseOf D) = v + 1 := ⟨Vc J (baseOf D) - 1, by omega⟩
        rw [hv] at hwg
        have hw1 : WgAt ty Wg w (((v : Nat) + 1) * KK + ((1 : Nat) : Int)) 0 := by simpa using hwg
        obtain ⟨g', hgo, hl, hq⟩ := hall v 1 (by omega) (by omega) hw1
        by_cases hv0 : v = 0
        · subst hv0
          obtain ⟨m₂, hk⟩ := hl ⟨rfl, rfl⟩
          refine book hgo (aside_setCell w (stA Wg) _) (hwg.setSt _) bk2 df2 (.d2 hk) rfl (by omega) (by omega) ?_ (.inl ⟨by omega, by simp [cnt]⟩)
          have hoth : ∀ a, a < J → a ≠ p → (baseOf D a).stage = 1 := fun a ha e => by
            have c0 := others_uncounted hp hv hc1 a ha e
            have := h2 a ha
            simp only [cnt] at c0
            split at c0 <;> omega
          have := ConcN.Mode.last (j := J) (D := upd (baseOf D) p ⟨4, 0, 1⟩) (tag := tag) p h1 hp (by rw [upd_same]; simp) (fun a ha e => by rw [upd_ne _ _ e]; exact hoth a ha e)
          rw [upd_same] at this
          simpa using this
        · obtain ⟨q, hq⟩ := hq (by omega)
          have hv' : Vc J (upd (baseOf D) p ⟨1, 0, 1⟩) = v := by omega
          refine book hgo (aside_setCell w (stA Wg) _) (hwg.setSt _) bk2 df2 (.quit hq) rfl (by omega) (by omega) ?_ (.inl ⟨by omega, by simp [cnt]⟩)
          have e : ((v : Nat) : Int) * KK + ((1 : Nat) : Int) = ((Vc J (upd (baseOf D) p ⟨1, 0, 1⟩) : Nat) : Int) * KK + 1 := by rw [hv']; simp
          rw [e]
          exact .reg h1 (opq h2) (by omega)
      | last L _ h2 h3 h4 =>
        by_cases e : p = L
        · subst e; omega
        · have := h4 p hp e; omega
      | sema h2 => have := h2 p hp; omega
      | fin _ h2 => have := h2 p hp; omega
    · obtain ⟨g', w', es, hgo, ⟨rfl, rfl⟩, hg'⟩ := hstep w (RW.refl w)
      exact idle hgo (.d1 hg') rfl (by omega)
  | d2 hG =>
    rcases Goes.cases hG with hstop | ⟨m', rfl, hstep⟩
    · obtain ⟨_, hx⟩ := hstop w (RW.refl w)
      obtain ⟨hW3, hoth, rfl, rfl⟩ := hmode.isLast hp (by omega)
      simp only [hst'] at hwg
      obtain ⟨g', hgo, m₂, hk⟩ := hx (by simpa using hwg)
      refine book hgo (.refl Wg w) hwg bkr df1 (.d3 hk) rfl (by omega) (by omega) ?_ (.inl ⟨by omega, by simp [cnt]⟩)
      have := ConcN.Mode.last (j := J) (D := upd (baseOf D) p ⟨3, 0, 1⟩) (tag := tag) p hW3 hp (by rw [upd_same]; simp) (fun a ha e => by rw [upd_ne _ _ e]; exact hoth a ha e)
      rw [upd_same] at this
      simpa using this
    · obtain ⟨g', w', es, hgo, ⟨rfl, rfl⟩, hg'⟩ := hstep w (RW.refl w)
      exact idle hgo (.d2 hg') rfl (by omega)
  | d3 hG =>
    rcases Goes.cases hG with hstop | ⟨m', rfl, hstep⟩
    · obtain ⟨_, hx⟩ := hstop w (RW.refl w)
      obtain ⟨hW3, hoth, rfl, rfl⟩ := hmode.isLast hp (by omega)
      simp only [hst'] at hwg
      obtain ⟨g', hgo, m₂, hk⟩ := hx (by simpa using hwg)
      refine book hgo (aside_setCell w (stA Wg) _) (hwg.setSt 0) bkw df1 (.d4 hk) rfl (by omega) (by omega) ?_ (.inl ⟨by omega, by simp [cnt]⟩)
      have := ConcN.Mode.last (j := J) (D := upd (baseOf D) p ⟨2, 0, 1⟩) (tag := tag) p hW3 hp (by rw [upd_same]; simp) (fun a ha e => by rw [upd_ne _ _ e]; exact hoth a ha e)
      rw [upd_same] at this
      simpa using this
    · obtain ⟨g', w', es, hgo, ⟨rfl, rfl⟩, hg'⟩ := hstep w (RW.refl w)
      exact idle hgo (.d3 hg') rfl (by omega)
  | d4 hG =>
    rcases Goes.cases hG with hstop | ⟨m', rfl, hstep⟩
    · obtain ⟨_, hmw, hx⟩ := hstop w (RW.refl w)
      obtain ⟨hW3, hoth, rfl, rfl⟩ := hmode.isLast hp (by omega)
      simp only [hst'] at hwg
      obtain ⟨g', hgo, q, hq⟩ := hx (by simpa using hwg)
      have hrun' : g'.status = .running := by
        cases q with
        | zero => exact absurd hq.2 (by decide)
        | succ q => exact hq.elim (fun x => absurd x.2 (by decide)) (fun x => x.1)
      refine bookG hgo (aside_setCell w (smA Wg) _) (hwg.setSm 1) (es := semEvents (smA Wg)) bk_sem ?_ (.quit hq) (by simp [deafBehind, semEvents]) (by omega) (by omega) ?_ (.inl ⟨by omega, by simp [cnt]⟩)
      · intro jx e he
        match jx, he with
        | 0, he => simp [semEvents] at he; subst he; exact .inl rfl
        | 1, _ => exact .inr (by simp [deafBehind, semEvents])
        | 2, _ => exact .inr (by simp [deafBehind, semEvents])
        | 3, he => simp [semEvents] at he; subst he; exact .inl rfl
        | jx + 4, he => simp [semEvents] at he
      · intro tag' ht hw
        have hnb := hw hmw hrun'
        have e3 : tag' = .w3 := by
          rcases ht with rfl | ⟨_, rfl⟩
          · cases tag' <;> first | rfl | exact hW3.elim | exact absurd rfl hnb
          · rfl
        subst e3
        simp only [if_true]
        exact .sema fun a ha => by
          by_cases e : a = p
          · subst e; rw [upd_same]
          · rw [upd_ne _ _ e]; exact hoth a ha e
    · obtain ⟨g', w', es, hgo, ⟨rfl, rfl⟩, hg'⟩ := hstep w (RW.refl w)
      exact idle hgo (.d4 hg') rfl (by omega)
  | quit hq =>
    have hx0 : (D p).ex = 0 ∧ (D p).nd = .num 0 m := hx.elim id fun x => by omega
    exact quit_step hAr h hp hg hrun (by rw [hde]; exact hq) hst hx0.1 hx0.2 fun hq => .lib (.quit hq)

/-- WHATEVER RUNNING GOROUTINE BUT 0 TAKES THE NEXT STEP. -/
theorem others_step (hn : n < 2147483648) (hAr : ∀ X g w, Anch X g w → g.status = .running) (hP : ∀ Fz : Fr, Fz.lim = none → Fz.out = false → Progs ok T Fz FL FC) (hI : ∀ f, ok.ok f = true → T.inits.idxOf? f = none) (hord : ∀ f, ok.ok f = true → ok.rd f = true)
    (h : (Now ok T FL FC ty Wg C n Q PV j0 Next Anch Sb B0 t0 W0 own rdS tag e X d0 a st sm J D kM fM gs w t)) {p : Nat} (hp : p < J) {g : Goroutine} (hg : gs[p + 1]? = some g) (hrun : g.status = .running) :
    (On ok T FL FC ty Wg C n Q PV j0 Next Anch Sb B0 t0 W0) (rank n J D tag e) J D kM fM t (runT (prg T FC) (crowd gs w sl) (p + 1)) := by
  obtain ⟨g₁, hg₁, hs⟩ := h.crew.wk p hp
  obtain rfl : g = g₁ := by rw [hg] at hg₁; exact Option.some.inj hg₁
  have h0 : (D p).base.stage ≠ 1 → j0 ≤ p := fun hne => Nat.le_of_not_lt fun hlt => hne (h.crew.old p hlt)
  generalize hst : (D p).base.stage = s at hs h0
  generalize hx : (D p).ex = x at hs
  generalize hde : (D p).base.deaf = d at hs
  generalize hnd : (D p).nd = nd at hs
  cases hs with
  | pre hw =>
    rcases tw_cases (P' := prg T FL) hw with hstop | ⟨g', w', es, k', m', hgo, hm, hk, hlt⟩
    · obtain ⟨fr, cs, w0, hsim⟩ := hstop
      exact tree_step hAr hP hI hord h hp (h0 (by simp)) hg (hsim.rely (fun b hb => hb.elim) (fun _ _ => rfl) (Nat.le_refl _) rfl) hst hde (.inl hx)
    · exact script_step hAr h hp (h0 (by simp)) hg hgo hm hst (by omega) (by rw [hx, hde]; exact .pre hk) (acc_num _ _) (by rw [hnd]; exact hlt)
  | sim hsim => exact tree_step hAr hP hI hord h hp (h0 (by simp)) hg hsim hst hde (.inr ⟨hx, hnd⟩)
  | post hw =>
    rcases tw_cases (P' := prg T FL) hw with ⟨m, hstop⟩ | ⟨g', w', es, k', m', hgo, hm, hk, hlt⟩
    · exact lib_step hn hAr h hp (h0 (by simp)) hg hrun hstop hst hde (.inr ⟨hx, rfl⟩)
    · exact script_step hAr h hp (h0 (by simp)) hg hgo hm hst (by omega) (by rw [hx, hde]; exact .post hk) (acc_num _ _) (by rw [hnd]; exact hlt)
  | lib hw =>
    by_cases hs1 : s = 1
    · subst hs1
      refine quit_step hAr h hp hg hrun (by rw [hde]; exact hw.quits rfl) hst hx hnd fun hq => .lib (.quit hq)
    · exact lib_step hn hAr h hp (h0 hs1) hg hrun hw hst hde (.inl ⟨hx, hnd⟩)
  | old hlt hq => exact quit_step hAr h hp hg hrun (by rw [hde]; exact hq) hst hx hnd fun hq => .old hlt hq
end
end Go.Proofs.Ytgkakgibgfehaaa.Ph

namespace Go.Proofs.Ytgkakgibgfehaaa.Ph
open Go.Conc Go.ConcN Go.Proofs.Ytgkakgibgfehaaa.Sim
open Go.ConcR (KK wgBlock WgAt stA smA rd wr mk Payload DC0 Bk g_of_ofEvents bk_of_mute ofEvent_loc_mark ofEvent_cell ofEvent_mk)
variable [Payload]

section
variable (ok : Cx) (T : Tables) (FL FC : Array Func) (ty : TypeId) (Wg C n : Nat) (Q : Nat → Value → World → Prop) (PV : Nat → Value → Nat → Obj → Prop) (j0 : Nat) (Next : Kn → Goroutine → World → Prop) (Sb : Nat → Prop) (B0 t0 : Nat) (W0 : World)
/-- Goroutine 0 has acquired what all have released; the others only leave. -/
def Over (m : Machine) (t : Trace) : Prop :=
  ∃ (gs : Array Goroutine) (w : World) (sl : Option (Nat × Nat)) (own : Nat → Nat) (rdS : Nat → Nat → Prop) (D : Nat → Wk) (X : Kn) (a : Goroutine),
    m = crowd gs w sl ∧ gs[0]? = some a ∧ To (prg T FC) (RMn ty Wg X) (Next X) a w ∧ Crew ok T FL FC ty Wg C n Q PV j0 rdS Sb B0 t0 W0 own (j0 + n) D gs w t 0 ∧ (∀ p, p < j0 + n → (D p).base.stage = 1) ∧ Acq Wg j0 n t ∧
    (∀ b, X.fz b → own b = 0 ∧ b ≠ C ∧ ¬ Sb b ∧ b < w.heap.size) ∧ (∀ b, X.mu b → own b = j0 + n + 1)
end

section
variable {ok : Cx} {T : Tables} {FL FC : Array Func} {ty : TypeId} {Wg C n : Nat} {Q : Nat → Value → World → Prop} {PV : Nat → Value → Nat → Obj → Prop} {j0 : Nat} {Next Anch : Kn → Goroutine → World → Prop} {rdS : Nat → Nat → Prop}
  {Sb : Nat → Prop} {B0 t0 : Nat} {W0 : World} {own : Nat → Nat} {J : Nat} {D : Nat → Wk} {gs : Array Goroutine} {w w' : World} {t : Trace} {d0 : Nat} {tag : CTag} {e kM fM : Nat} {X : Kn} {a : Goroutine} {sl : Option (Nat × Nat)} {st sm : Int}

theorem Now.step0 (h : (Now ok T FL FC ty Wg C n Q PV j0 Next Anch Sb B0 t0 W0 own rdS tag e X d0 a st sm J D kM fM gs w t)) {a' : Goroutine} {es : Array Event} {tag' : CTag} {e' kM' fM' d' : Nat} {X' : Kn} {st' sm' : Int} (hgo : stepG (prg T FC) true a w = .go a' w' es) (hT : Turn Wg C own (j0 + n + 1) w w')
    (hpay : PayAt C n w') (hwg : WgAt ty Wg w' st' sm') (hcell : ∀ i, w'.cell? ⟨C, i, none⟩ = w.cell? ⟨C, i, none⟩) (hev : ∀ e ∈ es, EvM Sb Wg C j0 (own' own (j0 + n + 1) w w') rdS J w'.heap.size e)
    (hM : MSit ok T FL FC ty Wg C n Q PV j0 Next Anch tag' e' kM' fM' d' X' J a' w') (hd : deafBehind d0 es = d') (hmode : ConcN.Mode J (baseOf D) tag' st' sm')
    (hfz : ∀ b, X'.fz b → own' own (j0 + n + 1) w w' b = 0 ∧ b ≠ C ∧ ¬ Sb b ∧ b < w'.heap.size) (hmu : ∀ b, X'.mu b → own' own (j0 + n + 1) w w' b = j0 + n + 1)
    (hlt : 2 * phi n (Vc J (baseOf D)) tag' + e' < 2 * phi n (Vc J (baseOf D)) tag + e ∨ (2 * phi n (Vc J (baseOf D)) tag' + e' = 2 * phi n (Vc J (baseOf D)) tag + e ∧ (kM' < kM ∨ (kM' = kM ∧ fM' < fM)))) :
    (On ok T FL FC ty Wg C n Q PV j0 Next Anch Sb B0 t0 W0) (rank n J D tag e) J D kM fM t (runT (prg T FC) (crowd gs w sl) 0) := by
  have hrun := runT_crowd_go (P := prg T FC) (sl := sl) (i := 0) h.ha (by simpa using hgo)
  have hlive : WgLive ty Wg w' := ⟨_, _, hwg⟩
  rw [hrun]
  refine ⟨_, rank n J D tag' e', D, kM', fM', J, rfl, ?_, _, w', sl, own' own (j0 + n + 1) w w', rdS, tag', e', X', d', a', st', sm', rfl, get_map_set_same _ _ _ (by rw [h.crew.size]; omega), hM, by rw [← hd]; exact h.crew.step0 hT hpay hlive hcell hev, hwg, hmode, hfz, hmu, rfl⟩
  unfold Less rank
  rcases hlt with h1 | ⟨h1, h2⟩
  · exact .inl (by omega)
  · exact .inr ⟨by omega, rfl, .inr ⟨rfl, h2⟩⟩

omit [Payload] in
theorem evM_bk {k B : Nat} {b : Nat → Nat} (hS : Sb Wg) (hB : Wg < B) {e : Event} (he : Bk Wg e) : EvM Sb Wg C j0 b rdS k B e := by
  rcases he with h1 | h1 | ⟨a, wr, rfl, ha⟩
  · exact ⟨fun y hy => (by rw [ofEvent_loc_mark h1] at hy; cases hy), by rw [h1]; simp, fun y hy => (by rw [ofEvent_loc_mark h1] at hy; cases hy)⟩
  · exact ⟨fun y hy => (by rw [ofEvent_loc_mark h1] at hy; cases hy), by rw [h1]; simp, fun y hy => (by rw [ofEvent_loc_mark h1] at hy; cases hy)⟩
  · refine ⟨fun y hy => ?_, by simp, fun y hy => ?_⟩ <;> rw [ofEvent_cell] at hy <;> simp only [MemAct.touch?, Option.some.injEq] at hy <;> subst hy
    case refine_2 => exact (show a.block < B by omega)
    exact .inl ⟨(show Sb a.block by rw [ha]; exact hS), by simp⟩
omit [Payload] in
theorem evM_said {k B : Nat} {b : Nat → Nat} (hS : Sb Wg) (hB : Wg < B) {a : Addr} (ha : a.block = Wg) (x : Bool) : EvM Sb Wg C j0 b rdS k B (mk (if x then .write a else .read a)) := by
  have e1 : MemAct.ofEvent (mk (if x then .write a else .read a)) = .mark (if x then .write a else .read a) := ofEvent_mk _
  have key : ∀ y, (MemAct.ofEvent (mk (if x then .write a else .read a))).touch? = some y → y.loc = .cell a ∧ y.kind = .said := by
    intro y hy
    rw [e1] at hy
    cases x <;> simp only [MemAct.touch?, if_true, Bool.false_eq_true, if_false, Option.some.injEq] at hy <;> subst hy <;> exact ⟨rfl, rfl⟩
  refine ⟨fun y hy => ?_, by cases x <;> simp [mk], fun y hy => ?_⟩
  · obtain ⟨h1, h2⟩ := key y hy
    exact .inl ⟨by rw [h1]; show Sb a.block; rw [ha]; exact hS, by rw [h2]; simp⟩
  · obtain ⟨h1, h2⟩ := key y hy
    rw [h1]
    show a.block < B
    omega

/-- A step at which at most the group's block turns. -/
theorem Now.book (h : (Now ok T FL FC ty Wg C n Q PV j0 Next Anch Sb B0 t0 W0 own rdS tag e X d0 a st sm J D kM fM gs w t)) {a' : Goroutine} {es : Array Event} {tag' : CTag} {e' kM' fM' d' : Nat} {st' sm' : Int} (hgo : stepG (prg T FC) true a w = .go a' w' es) (hA : Aside Wg w w') (hwg : WgAt ty Wg w' st' sm')
    (hev : ∀ e ∈ es, EvM Sb Wg C j0 own rdS J w.heap.size e) (hM : MSit ok T FL FC ty Wg C n Q PV j0 Next Anch tag' e' kM' fM' d' X J a' w') (hd : deafBehind d0 es = d') (hmode : ConcN.Mode J (baseOf D) tag' st' sm')
    (hlt : 2 * phi n (Vc J (baseOf D)) tag' + e' < 2 * phi n (Vc J (baseOf D)) tag + e ∨ (2 * phi n (Vc J (baseOf D)) tag' + e' = 2 * phi n (Vc J (baseOf D)) tag + e ∧ (kM' < kM ∨ (kM' = kM ∧ fM' < fM)))) :
    (On ok T FL FC ty Wg C n Q PV j0 Next Anch Sb B0 t0 W0) (rank n J D tag e) J D kM fM t (runT (prg T FC) (crowd gs w sl) 0) := by
  have hCW : C ≠ Wg := fun e => h.crew.ownC.2 (e ▸ h.crew.ownW)
  have hbC := hA.block C hCW
  obtain ⟨cs, q1, q2⟩ := h.crew.pay
  refine h.step0 hgo (turn_aside hA (.inl rfl)) ⟨cs, hbC.trans q1, q2⟩ hwg (fun i => cell_of_block hbC i) ?_ hM hd hmode ?_ ?_ hlt
  · rw [own'_same hA.size, hA.size]; exact hev
  · rw [own'_same hA.size, hA.size]; exact h.fz
  · rw [own'_same hA.size]; exact h.mu
theorem Now.idle (h : (Now ok T FL FC ty Wg C n Q PV j0 Next Anch Sb B0 t0 W0 own rdS tag e X d0 a st sm J D kM fM gs w t)) {a' : Goroutine} {fM' : Nat} (hgo : stepG (prg T FC) true a w = .go a' w #[]) (hM : MSit ok T FL FC ty Wg C n Q PV j0 Next Anch tag e kM fM' d0 X J a' w) (hlt : fM' < fM) :
    (On ok T FL FC ty Wg C n Q PV j0 Next Anch Sb B0 t0 W0) (rank n J D tag e) J D kM fM t (runT (prg T FC) (crowd gs w sl) 0) :=
  h.book hgo (.refl Wg w) h.wg (by simp) hM rfl h.mode (.inr ⟨rfl, .inr ⟨rfl, hlt⟩⟩)
/-- A step of memory. -/
theorem Now.mem (h : (Now ok T FL FC ty Wg C n Q PV j0 Next Anch Sb B0 t0 W0 own rdS tag e X d0 a st sm J D kM fM gs w t)) {a' : Goroutine} {es : Array Event} {X' : Kn} {kM' fM' : Nat} (hgo : stepG (prg T FC) true a w = .go a' w' es) (hm : MemOk Wg C X X' w w' es) (hM : MSit ok T FL FC ty Wg C n Q PV j0 Next Anch tag e kM' fM' d0 X' J a' w') (hlt : kM' < kM) :
    (On ok T FL FC ty Wg C n Q PV j0 Next Anch Sb B0 t0 W0) (rank n J D tag e) J D kM fM t (runT (prg T FC) (crowd gs w sl) 0) := by
  have hC0 := h.crew.ownC
  have hW0 := h.crew.ownS Wg h.crew.ownW
  have hle' := h.crew.le'
  have hCm : ¬ X.mu C := fun x => by have := h.mu C x; omega
  have hWm : ¬ X.mu Wg := fun x => by have := h.mu Wg x; omega
  have hbC := hm.keep C (payLow h.crew.pay) hCm
  obtain ⟨cs, q1, q2⟩ := h.crew.pay
  have fz' : ∀ b, X'.fz b → own' own (j0 + n + 1) w w' b = 0 ∧ b ≠ C ∧ ¬ Sb b ∧ b < w'.heap.size := fun b hb => by
    obtain ⟨x1, x2, x3, x4⟩ := h.fz b (hm.fz b hb)
    exact ⟨by rw [own'_low x4]; exact x1, x2, x3, Nat.lt_of_lt_of_le x4 hm.size⟩
  have mu' : ∀ b, X'.mu b → own' own (j0 + n + 1) w w' b = j0 + n + 1 ∧ b < w'.heap.size := fun b hb => by
    rcases hm.mu b hb with x | ⟨x, y⟩
    · have h1 := h.mu b x
      have h2 := h.crew.low (b := b) (by omega)
      exact ⟨by rw [own'_low h2]; exact h1, Nat.lt_of_lt_of_le h2 hm.size⟩
    · exact ⟨by unfold own'; rw [if_pos ⟨x, y⟩], y⟩
  obtain ⟨r1, r2, r3, r4, r5⟩ := h.crew.rest (k := j0 + n + 1) (w' := w') ⟨hm.size, fun b hb _ _ hne => hm.keep b hb fun x => hne (h.mu b x), hm.os, hm.output, hm.tape⟩ (Nat.succ_ne_zero _)
  refine h.step0 hgo ⟨hm.size, fun b hb _ _ hne => hm.keep b hb fun x => hne (h.mu b x), hm.os, hm.output, hm.tape⟩ ⟨cs, hbC.trans q1, q2⟩ (h.wg.of_block (hm.keep Wg hW0.2 hWm)) (fun i => cell_of_block hbC i) (fun ev hev => ?_) hM
    (deaf_plain (fun e he => by obtain ⟨a, x, e1, _⟩ := hm.ev e he; exact ⟨a, x, e1⟩) _) h.mode fz' (fun b hb => (mu' b hb).1) (.inr ⟨rfl, .inl hlt⟩)
  obtain ⟨ad, x, rfl, hon, hwr⟩ := hm.ev ev hev
  have hlow : ad.block < w'.heap.size := hon.elim (fun x => (fz' _ x).2.2.2) (fun x => (mu' _ x).2)
  refine ⟨fun y hy => ?_, by simp, fun y hy => ?_⟩ <;> rw [ofEvent_cell] at hy <;> simp only [MemAct.touch?, Option.some.injEq] at hy <;> subst hy
  case refine_2 => exact hlow
  refine .inr ⟨fun (hs : Sb ad.block) => ?_, fun k h1 h2 ho => ?_, fun hw k h1 h2 hr => ?_⟩
  · rcases hon with x | x
    · exact (fz' _ x).2.2.1 hs
    · have h1 := (mu' _ x).1
      have h2 := (r2 _ hs).1
      omega
  · obtain ⟨h3, ⟨b, hb, ho⟩ | ho⟩ := ho
    · cases hb
      rcases hon with x | x
      · have := (fz' _ x).1; omega
      · have := (mu' _ x).1; omega
    · have hbk : ad.block = C := by simp only [Loc.cell.injEq] at ho; rw [ho]
      rcases hon with x | x
      · exact (fz' _ x).2.1 hbk
      · have h4 := (mu' _ x).1
        rw [hbk] at h4
        have := r1.1
        omega
  · obtain ⟨h3, b, hb, hr⟩ := hr
    cases hb
    have h4 := (mu' _ (hwr hw)).1
    have := (r4 _ _ hr).2.1
    omega

omit [Payload] in
theorem tm_cases {P : Program} {S : Kn → Goroutine → World → Prop} {k m : Nat} (h : TM P ty Wg C k m S X a w) :
    (k = 0 ∧ S X a w) ∨ (∃ a' m', stepG P true a w = .go a' w #[] ∧ m = m' + 1 ∧ TM P ty Wg C k m' S X a' w) ∨ (∃ a' w' es X' k' m', stepG P true a w = .go a' w' es ∧ MemOk Wg C X X' w w' es ∧ k' < k ∧ TM P ty Wg C k' m' S X' a' w') := by
  cases k with
  | zero =>
    rcases Goes.cases h with hs | ⟨m', rfl, hstep⟩
    · exact .inl ⟨rfl, hs w (.refl w)⟩
    · obtain ⟨g', w', es, hgo, ⟨rfl, rfl⟩, hk⟩ := hstep w (.refl w)
      exact .inr (.inl ⟨g', m', hgo, rfl, hk⟩)
  | succ k =>
    rcases Goes.cases h with hs | ⟨m', rfl, hstep⟩
    · obtain ⟨_, g', w', es, X', hgo, hm, m', hk⟩ := hs w (.refl w)
      exact .inr (.inr ⟨g', w', es, X', k, m', hgo, hm, Nat.lt_succ_self k, hk⟩)
    · obtain ⟨g', w', es, hgo, ⟨rfl, rfl⟩, hk⟩ := hstep w (.refl w)
      exact .inr (.inl ⟨g', m', hgo, rfl, hk⟩)

theorem Now.bound (h : (Now ok T FL FC ty Wg C n Q PV j0 Next Anch Sb B0 t0 W0 own rdS tag e X d0 a st sm J D kM fM gs w t)) : Vc J (baseOf D) + pend tag ≤ n ∧ Vc J (baseOf D) ≤ J - j0 := by
  have hb := h.main.bound
  have hle := h.crew.le
  have key : ∀ j, j0 + j ≤ J → Vc (j0 + j) (baseOf D) ≤ j := by
    intro j
    induction j with
    | zero =>
      intro hj
      have : Vc (j0 + 0) (baseOf D) = sumTo j0 fun _ => 0 := sumTo_congr fun i hi => by
        have := h.crew.old i hi
        simp [cnt, baseOf, this]
      rw [this]
      have := sumTo_le (f := fun _ => 0) (c := 0) (j := j0) fun _ _ => Nat.le_refl _
      simpa using this
    | succ j ih =>
      intro hj
      have := ih (by omega)
      have e : Vc (j0 + (j + 1)) (baseOf D) = Vc (j0 + j) (baseOf D) + cnt (baseOf D (j0 + j)) := rfl
      have c1 : cnt (baseOf D (j0 + j)) ≤ 1 := by unfold cnt; split <;> omega
      omega
  have := key (J - j0) (by omega)
  rw [show j0 + (J - j0) = J by omega] at this
  exact ⟨by omega, this⟩
end
end Go.Proofs.Ytgkakgibgfehaaa.Ph

namespace Go.Proofs.Ytgkakgibgfehaaa.Ph
open Go.Conc Go.ConcN Go.Proofs.Ytgkakgibgfehaaa.Sim
open Go.ConcR (KK wgBlock WgAt stA smA rd wr mk Payload DC0 Bk g_of_ofEvents bk_of_mute ofEvent_loc_mark ofEvent_cell ofEvent_mk)
variable [Payload]

section
variable {ok : Cx} {T : Tables} {FL FC : Array Func} {ty : TypeId} {Wg C n : Nat} {Q : Nat → Value → World → Prop} {PV : Nat → Value → Nat → Obj → Prop} {j0 : Nat} {Next Anch : Kn → Goroutine → World → Prop} {rdS : Nat → Nat → Prop}
  {Sb : Nat → Prop} {B0 t0 : Nat} {W0 : World} {own : Nat → Nat} {J : Nat} {D : Nat → Wk} {gs : Array Goroutine} {w w' : World} {t : Trace} {d0 : Nat} {tag : CTag} {e kM fM : Nat} {X : Kn} {a : Goroutine} {sl : Option (Nat × Nat)} {st sm : Int}

theorem Now.onFacts (h : (Now ok T FL FC ty Wg C n Q PV j0 Next Anch Sb B0 t0 W0 own rdS tag e X d0 a st sm J D kM fM gs w t)) {b : Nat} (hb : X.on b) : (own b = 0 ∨ own b = j0 + n + 1) ∧ b ≠ C ∧ ¬ Sb b ∧ b < w.heap.size := by
  rcases hb with hb | hb
  · obtain ⟨h1, h2, h3, h4⟩ := h.fz b hb
    exact ⟨.inl h1, h2, h3, h4⟩
  · have h1 := h.mu b hb
    refine ⟨.inr h1, fun e => ?_, fun hs => ?_, h.crew.low (by omega)⟩
    · have := h.crew.ownC.1
      rw [e] at h1
      omega
    · have := (h.crew.ownS b hs).1
      omega

set_option maxHeartbeats 1600000 in
theorem Now.go {r : Nat} (h : Now ok T FL FC ty Wg C n Q PV j0 Next Anch Sb B0 t0 W0 own rdS (.sp r 2) 0 X 0 a st sm (j0 + (n - (r + 1))) D kM fM gs w t) (hr : r < n) {a' child : Goroutine} (hsp : stepG (prg T FC) true a w = .spawn a' child w #[])
    (hc : ∃ k m, TW (prg T FC) ty Wg C n (n - (r + 1)) X.on k m (AtSim ok T FL FC ty Wg C n Q PV (n - (r + 1)) X.on) child w) (hL : Loop ok T FL FC ty Wg C n Q PV Anch r X.ice a' w) :
    (On ok T FL FC ty Wg C n Q PV j0 Next Anch Sb B0 t0 W0) (rank n (j0 + (n - (r + 1))) D (.sp r 2) 0) (j0 + (n - (r + 1))) D kM fM t (runT (prg T FC) (crowd gs w sl) 0) := by
  obtain ⟨k, m, hc⟩ := hc
  have hrun := runT_crowd_spawn (P := prg T FC) (sl := sl) (i := 0) h.ha (by simpa using hsp)
  rw [h.crew.size] at hrun
  have hcr := h.crew.spawn (a' := a') (child := child) (x := { g := 0, fn := a.frame.fn, pos := a.frame.place, act := .go (j0 + (n - (r + 1)) + 1) }) (y := { g := j0 + (n - (r + 1)) + 1, fn := child.frame.fn, pos := a.frame.place, act := .start }) (on := X.on) (by omega) ⟨rfl, rfl⟩ ⟨rfl, rfl⟩
    (fun b hb => h.onFacts hb) (by rw [show j0 + (n - (r + 1)) - j0 = n - (r + 1) by omega]; exact hc)
  obtain ⟨ho, hst, hsm, -⟩ := h.mode.open_inv trivial
  have hfz : ∀ b, X.ice.fz b → iced own (j0 + n + 1) b = 0 ∧ b ≠ C ∧ ¬ Sb b ∧ b < w.heap.size := fun b hb => by
    obtain ⟨h1, h2, h3, h4⟩ := h.onFacts hb
    exact ⟨by unfold iced; split <;> omega, h2, h3, h4⟩
  have ha' : ((gs.setIfInBounds 0 a').push child)[0]? = some a' := by
    rw [Array.getElem?_push_lt (by simp [h.crew.size]), ← Array.getElem?_eq_getElem]
    simp [h.crew.size]
  generalize hx : (⟨⟨7, 0, 0⟩, 3, .num k m, undef, 0, .cells #[] 0⟩ : Wk) = x at hcr
  have hxb : x.base = ⟨7, 0, 0⟩ := by rw [← hx]
  have hxe : x.ex = 3 := by rw [← hx]
  generalize hJ : j0 + (n - (r + 1)) = J0 at hcr hrun h ho hst
  have eV : Vc (J0 + 1) (baseOf (upd D J0 x)) = Vc J0 (baseOf D) + 1 := by
    rw [baseOf_upd]
    simp only [Vc, sumTo, upd_same]
    rw [sumTo_upd_out (baseOf D) x.base cnt (Nat.le_refl _), hxb]; rfl
  have eS : (sumTo (J0 + 1) fun p => (upd D J0 x p).base.stage + (upd D J0 x p).ex) = (sumTo J0 fun p => (D p).base.stage + (D p).ex) + 10 := by
    simp only [sumTo, upd_same]
    rw [sumTo_upd_out D x (fun y => y.base.stage + y.ex) (Nat.le_refl _), hxb, hxe]
  have ho' : OpenSt (J0 + 1) (baseOf (upd D J0 x)) := fun i hi => by
    rw [baseOf_upd]
    by_cases e : i = J0
    · subst e; rw [upd_same, hxb]; simp
    · rw [upd_ne _ _ e]; exact ho i (by omega)
  have est : ∀ tag', pend tag' = 0 → st = ((Vc (J0 + 1) (baseOf (upd D J0 x)) + pend tag' : Nat) : Int) * KK := fun tag' hp => by rw [hst, eV, hp]; simp [pend]
  rw [hrun]
  cases r with
  | zero =>
    obtain ⟨k2, m2, hk⟩ := hL
    have ej : J0 + 1 = j0 + n := by omega
    refine ⟨_, rank n (J0 + 1) (upd D J0 x) .kd 0, upd D J0 x, k2, m2, J0 + 1, rfl, .inl ?_, _, w, sl, _, _, .kd, 0, X.ice, 0, a', st, sm, rfl, ha', by rw [ej]; exact .kd hk, hcr, h.wg, ?_, hfz, fun b hb => hb.elim, rfl⟩
    · unfold rank
      rw [eS]
      simp only [phi]
      omega
    · rw [est .kd rfl, hsm]
      exact .opn trivial ho' (by simp)
  | succ r' =>
    obtain ⟨k2, m2, hk⟩ := hL
    have ej : J0 + 1 = j0 + (n - (r' + 1)) := by omega
    refine ⟨_, rank n (J0 + 1) (upd D J0 x) (.sp r' 5) 0, upd D J0 x, k2, m2, J0 + 1, rfl, .inl ?_, _, w, sl, _, _, .sp r' 5, 0, X.ice, 0, a', st, sm, rfl, ha', by rw [ej]; exact .s6 (by omega) hk, hcr, h.wg, ?_, hfz, fun b hb => hb.elim, rfl⟩
    · unfold rank
      rw [eS]
      simp only [phi]
      omega
    · rw [est (.sp r' 5) rfl, hsm]
      exact .opn trivial ho' (by simp)

/-- THE LOAD IN Wait. -/
theorem Now.w1Step {m : Nat} (hn : n < 2147483648) (h : Now ok T FL FC ty Wg C n Q PV j0 Next Anch Sb B0 t0 W0 own rdS .w1 0 X 1 a st sm (j0 + n) D 0 m gs w t) (hG : Goes (prg T FC) true (RMn ty Wg X) DC0 (Wt2 (prg T FC) ty Wg (RMn ty Wg X) (Next X) (Anch X)) m a w) :
    (On ok T FL FC ty Wg C n Q PV j0 Next Anch Sb B0 t0 W0) (rank n (j0 + n) D .w1 0) (j0 + n) D 0 m t (runT (prg T FC) (crowd gs w sl) 0) := by
  obtain ⟨hV, hV'⟩ := h.bound
  have hWl := (h.crew.ownS Wg h.crew.ownW).2
  have bk : ∀ e ∈ #[rd (stA Wg)], EvM Sb Wg C j0 own rdS (j0 + n) w.heap.size e := fun e he => evM_bk h.crew.ownW hWl (bk_rd e he)
  have hwg := h.wg
  rcases Goes.cases hG with hstop | ⟨m', rfl, hstep⟩
  · obtain ⟨_, hall⟩ := hstop w (.refl w)
    obtain ⟨ho, e1, e2, _⟩ := h.mode.open_inv trivial
    rw [e1, e2] at hwg
    obtain ⟨a', hgo, h0, hne⟩ := hall (Vc (j0 + n) (baseOf D)) (by omega) (by simpa [pend] using hwg)
    by_cases hv : Vc (j0 + n) (baseOf D) = 0
    · obtain ⟨m₂, hk⟩ := h0 hv
      refine h.book hgo (.refl Wg w) h.wg bk (tag' := .ke) (e' := 0) (.ke hk) rfl ?_ (.inl (by simp only [phi]; omega))
      have e : st = 0 := by rw [e1, hv]; simp [pend]
      rw [e, e2]
      exact .fin trivial (allQuit_of ho hv)
    · obtain ⟨m₂, hk⟩ := hne hv
      exact h.book hgo (.refl Wg w) h.wg bk (tag' := .w2 (Vc (j0 + n) (baseOf D))) (e' := 0) (.w2 hk) rfl (h.mode.reopen trivial trivial rfl (fun vs e => by cases e; omega)) (.inl (by simp only [phi]; omega))
  · obtain ⟨a', w', es, hgo, ⟨rfl, rfl⟩, hk⟩ := hstep w (.refl w)
    exact h.idle hgo (.w1 hk) (Nat.lt_succ_self m')

set_option maxHeartbeats 3200000 in
/-- GOROUTINE 0 TAKES THE NEXT STEP. -/
theorem main_step (hn : n < 2147483648) (hAn : ∀ X g w, Anch X g w → To (prg T FC) (RMn ty Wg X) (Wt2 (prg T FC) ty Wg (RMn ty Wg X) (Next X) (Anch X)) g w) (h : (Now ok T FL FC ty Wg C n Q PV j0 Next Anch Sb B0 t0 W0 own rdS tag e X d0 a st sm J D kM fM gs w t)) (hrun : a.status = .running) :
    (∃ m₁, (runT (prg T FC) (crowd gs w sl) 0).1 = .next m₁ ∧ (Over ok T FL FC ty Wg C n Q PV j0 Next Sb B0 t0 W0) m₁ (t ++ (runT (prg T FC) (crowd gs w sl) 0).2)) ∨ (On ok T FL FC ty Wg C n Q PV j0 Next Anch Sb B0 t0 W0) (rank n J D tag e) J D kM fM t (runT (prg T FC) (crowd gs w sl) 0) := by
  obtain ⟨hV, hV'⟩ := h.bound
  have hWl := (h.crew.ownS Wg h.crew.ownW).2
  have bk : ∀ {es : Array Event}, (∀ e ∈ es, Bk Wg e) → ∀ e ∈ es, EvM Sb Wg C j0 own rdS J w.heap.size e := fun hb e he => evM_bk h.crew.ownW hWl (hb e he)
  have sd : ∀ {a : Addr}, a.block = Wg → ∀ x : Bool, ∀ e ∈ #[mk (if x then .write a else .read a)], EvM Sb Wg C j0 own rdS J w.heap.size e := fun ha x e he => by
    rw [Array.mem_singleton] at he
    subst he
    exact evM_said h.crew.ownW hWl ha x
  have sdd : ∀ (a : Addr) (x : Bool), deafBehind 1 #[mk (if x then .write a else .read a)] = 1 := fun a x => by cases x <;> rfl
  have hwg := h.wg
  have hmode := h.mode
  have hM := h.main
  cases hM with
  | @s6 r k m X g w hr hG =>
    refine .inr ?_
    rcases tm_cases hG with ⟨rfl, hstop⟩ | ⟨a', m', hgo, rfl, hk⟩ | ⟨a', w', es, X', k', m', hgo, hm, hlt, hk⟩
    · obtain ⟨_, a', hgo, m₂, hk⟩ := hstop
      exact h.book hgo (.refl Wg w) h.wg (bk bk_dis) (e' := 0) (.s5 hr hk) rfl (hmode.reopen trivial trivial rfl (by simp)) (.inl (by simp only [phi]; omega))
    · exact h.idle hgo (.s6 hr hk) (Nat.lt_succ_self m')
    · exact h.mem hgo hm (.s6 hr hk) hlt
  | @s5 r m X g w hr hG =>
    refine .inr ?_
    rcases Goes.cases hG with hstop | ⟨m', rfl, hstep⟩
    · obtain ⟨_, hall⟩ := hstop w (.refl w)
      obtain ⟨ho, e1, e2, _⟩ := hmode.open_inv trivial
      rw [e1, e2] at hwg
      obtain ⟨a', hgo, hk⟩ := hall (Vc (j0 + (n - (r + 1))) (baseOf D)) (by omega) (by simpa [pend] using hwg)
      have hm3 : ConcN.Mode (j0 + (n - (r + 1))) (baseOf D) (.sp r 3) ((((Vc (j0 + (n - (r + 1))) (baseOf D) : Nat) : Int) + 1) * KK) 0 := by
        have e : (((Vc (j0 + (n - (r + 1))) (baseOf D) : Nat) : Int) + 1) * KK = ((Vc (j0 + (n - (r + 1))) (baseOf D) + pend (.sp r 3) : Nat) : Int) * KK := by simp [pend]
        rw [e]
        exact .opn trivial ho (by simp)
      rcases hk with ⟨m₂, hk⟩ | ⟨m₂, hk⟩
      · exact h.book hgo (aside_setCell w (stA Wg) _) (hwg.setSt _) (bk bk_rw) (tag' := .sp r 3) (e' := 0) (.s3 hr hk) rfl hm3 (.inl (by simp only [phi]; omega))
      · exact h.book hgo (aside_setCell w (stA Wg) _) (hwg.setSt _) (bk bk_rw) (tag' := .sp r 3) (e' := 1) (.s4 hr hk) rfl hm3 (.inl (by simp only [phi]; omega))
    · obtain ⟨a', w', es, hgo, ⟨rfl, rfl⟩, hk⟩ := hstep w (.refl w)
      exact h.idle hgo (.s5 hr hk) (Nat.lt_succ_self m')
  | @s4 r m X g w hr hG =>
    refine .inr ?_
    rcases Goes.cases hG with hstop | ⟨m', rfl, hstep⟩
    · obtain ⟨_, a', ad, had, hgo, m₂, hk⟩ := hstop w (.refl w)
      exact h.book hgo (.refl Wg w) h.wg (sd had false) (e' := 0) (.s3 hr hk) (sdd ad false) hmode (.inl (by omega))
    · obtain ⟨a', w', es, hgo, ⟨rfl, rfl⟩, hk⟩ := hstep w (.refl w)
      exact h.idle hgo (.s4 hr hk) (Nat.lt_succ_self m')
  | @s3 r m X g w hr hG =>
    refine .inr ?_
    rcases Goes.cases hG with hstop | ⟨m', rfl, hstep⟩
    · obtain ⟨_, a', hgo, m₂, hk⟩ := hstop w (.refl w)
      exact h.book hgo (.refl Wg w) h.wg (bk bk_en) (e' := 0) (.s2 hr hk) rfl (hmode.reopen trivial trivial rfl (by simp)) (.inl (by simp only [phi]; omega))
    · obtain ⟨a', w', es, hgo, ⟨rfl, rfl⟩, hk⟩ := hstep w (.refl w)
      exact h.idle hgo (.s3 hr hk) (Nat.lt_succ_self m')
  | @s2 r m X g w hr hG =>
    refine .inr ?_
    rcases Goes.cases hG with hstop | ⟨m', rfl, hstep⟩
    · obtain ⟨_, a', child, hsp, _, hc, hL⟩ := hstop w (.refl w)
      exact h.go hr hsp (hc h.crew.pay h.crew.live) hL
    · obtain ⟨a', w', es, hgo, ⟨rfl, rfl⟩, hk⟩ := hstep w (.refl w)
      exact h.idle hgo (.s2 hr hk) (Nat.lt_succ_self m')
  | @kd k m X g w hG =>
    refine .inr ?_
    rcases tm_cases hG with ⟨rfl, hstop⟩ | ⟨a', m', hgo, rfl, hk⟩ | ⟨a', w', es, X', k', m', hgo, hm, hlt, hk⟩
    · obtain ⟨_, a', hgo, m₂, hk⟩ := hstop
      exact h.book hgo (.refl Wg w) h.wg (bk bk_dis) (e' := 0) (.anch hk) rfl (hmode.reopen trivial trivial rfl (by simp)) (.inl (by simp only [phi]; omega))
    · exact h.idle hgo (.kd hk) (Nat.lt_succ_self m')
    · exact h.mem hgo hm (.kd hk) hlt
  | @anch m X g w hG =>
    refine .inr ?_
    rcases Goes.cases hG with hstop | ⟨m', rfl, hstep⟩
    · obtain ⟨m₂, hk⟩ := hAn X a w (hstop w (.refl w))
      have h1 : Now ok T FL FC ty Wg C n Q PV j0 Next Anch Sb B0 t0 W0 own rdS .w1 0 X 1 a st sm (j0 + n) D 0 m₂ gs w t := ⟨h.ha, .w1 hk, h.crew, h.wg, hmode.reopen trivial trivial rfl (by simp), h.fz, h.mu⟩
      obtain ⟨m₁, N', D', k', f', J', q1, q2, q3⟩ := h1.w1Step (sl := sl) hn hk
      refine ⟨m₁, N', D', k', f', J', q1, .inl ?_, q3⟩
      have hlt : rank n (j0 + n) D .w1 0 < rank n (j0 + n) D .anch 0 := by unfold rank; simp only [phi]; omega
      rcases q2 with q2 | ⟨q2, _⟩ <;> omega
    · obtain ⟨a', w', es, hgo, ⟨rfl, rfl⟩, hk⟩ := hstep w (.refl w)
      exact h.idle hgo (.anch hk) (Nat.lt_succ_self m')
  | @w1 m X g w hG => exact .inr (h.w1Step hn hG)
  | @w2 vs m X g w hG =>
    refine .inr ?_
    rcases Goes.cases hG with hstop | ⟨m', rfl, hstep⟩
    · obtain ⟨_, hall⟩ := hstop w (.refl w)
      obtain ⟨ho, e1, e2, hw2⟩ := hmode.open_inv trivial
      obtain ⟨hle, h1⟩ := hw2 vs rfl
      rw [e1, e2] at hwg
      obtain ⟨hhit, hmiss⟩ := hall (Vc (j0 + n) (baseOf D)) (by omega) (by simpa [pend] using hwg)
      by_cases e : Vc (j0 + n) (baseOf D) = vs
      · obtain ⟨a', hgo, m₂, hk⟩ := hhit e
        exact h.book hgo (aside_setCell w (stA Wg) _) (hwg.setSt _) (bk bk_rw) (tag' := .w3) (e' := 1) (.sd hk) rfl (.reg trivial ho (by omega)) (.inl (by simp only [phi]; omega))
      · obtain ⟨a', hgo, m₂, hk⟩ := hmiss e
        exact h.book hgo (.refl Wg w) h.wg (bk bk_rd) (e' := 0) (.anch hk) rfl (hmode.reopen trivial trivial rfl (by simp)) (.inl (by simp only [phi]; omega))
    · obtain ⟨a', w', es, hgo, ⟨rfl, rfl⟩, hk⟩ := hstep w (.refl w)
      exact h.idle hgo (.w2 hk) (Nat.lt_succ_self m')
  | @sd m X g w hG =>
    refine .inr ?_
    rcases Goes.cases hG with hstop | ⟨m', rfl, hstep⟩
    · obtain ⟨_, a', ad, had, hgo, m₂, hk⟩ := hstop w (.refl w)
      exact h.book hgo (.refl Wg w) h.wg (sd had true) (e' := 0) (.w3 hk) (sdd ad true) hmode (.inl (by omega))
    · obtain ⟨a', w', es, hgo, ⟨rfl, rfl⟩, hk⟩ := hstep w (.refl w)
      exact h.idle hgo (.sd hk) (Nat.lt_succ_self m')
  | @w3 m X g w hG =>
    refine .inr ?_
    rcases Goes.cases hG with hstop | ⟨m', rfl, hstep⟩
    · obtain ⟨_, hoff, hblk, htake⟩ := hstop w (.refl w)
      cases hmode with
      | opn h1 _ _ => exact h1.elim
      | reg h1 h2 h3 => exact h.book (hblk ⟨_, hwg⟩) (.refl Wg w) h.wg (by simp) (tag' := .blk) (e' := 0) (.blk hstop) rfl (.reg trivial h2 h3) (.inr ⟨rfl, .inr ⟨rfl, by omega⟩⟩)
      | last L h1 h2 h3 h4 => exact h.book (hblk ⟨_, hwg⟩) (.refl Wg w) h.wg (by simp) (tag' := .blk) (e' := 0) (.blk hstop) rfl (.last L trivial h2 h3 h4) (.inr ⟨rfl, .inr ⟨rfl, by omega⟩⟩)
      | sema h2 =>
        obtain ⟨a', hgo, m₂, hk⟩ := htake hwg
        exact h.book hgo (aside_setCell w (smA Wg) _) (hwg.setSm 0) (bk bk_sem) (tag' := .w4) (e' := 0) (.w4 hk) (by simp [deafBehind, semEvents]) (.fin trivial h2) (.inl (by simp only [phi]; omega))
      | fin h1 _ => exact h1.elim
    · obtain ⟨a', w', es, hgo, ⟨rfl, rfl⟩, hk⟩ := hstep w (.refl w)
      exact h.idle hgo (.w3 hk) (by omega)
  | @blk X g w hb => simp at hrun
  | @w4 m X g w hG =>
    refine .inr ?_
    rcases Goes.cases hG with hstop | ⟨m', rfl, hstep⟩
    · obtain ⟨_, hx⟩ := hstop w (.refl w)
      obtain ⟨hq, e1, e2⟩ := hmode.fin_inv trivial
      rw [e1, e2] at hwg
      obtain ⟨a', hgo, m₂, hk⟩ := hx hwg
      exact h.book hgo (.refl Wg w) h.wg (bk bk_rd) (tag' := .ke) (e' := 0) (.ke hk) rfl (by rw [e1, e2]; exact .fin trivial hq) (.inl (by simp only [phi]; omega))
    · obtain ⟨a', w', es, hgo, ⟨rfl, rfl⟩, hk⟩ := hstep w (.refl w)
      exact h.idle hgo (.w4 hk) (Nat.lt_succ_self m')
  | @ke m X g w hG =>
    refine .inr ?_
    rcases Goes.cases hG with hstop | ⟨m', rfl, hstep⟩
    · obtain ⟨_, a', hgo, m₂, hk⟩ := hstop w (.refl w)
      obtain ⟨hq, e1, e2⟩ := hmode.fin_inv trivial
      exact h.book hgo (.refl Wg w) h.wg (bk bk_en) (tag' := .acq) (e' := 0) (.acq hk) rfl (by rw [e1, e2]; exact .fin trivial hq) (.inl (by simp only [phi]; omega))
    · obtain ⟨a', w', es, hgo, ⟨rfl, rfl⟩, hk⟩ := hstep w (.refl w)
      exact h.idle hgo (.ke hk) (Nat.lt_succ_self m')
  | @acq m X g w hG =>
    rcases Goes.cases hG with hstop | ⟨m', rfl, hstep⟩
    · obtain ⟨_, a', hgo, hk⟩ := hstop w (.refl w)
      obtain ⟨hq, e1, e2⟩ := hmode.fin_inv trivial
      have hrun' := runT_crowd_go (P := prg T FC) (sl := sl) (i := 0) h.ha (by simpa using hgo)
      have hcr := h.crew.step0 (a := a) (a' := a') (fn := a.frame.fn) (pos := a.frame.place) (es := #[mk (.acquire (stA Wg))]) (turn_same (w := w) (w' := w) rfl rfl rfl rfl) h.crew.pay h.crew.live (fun _ => rfl) (fun e he => by
        rw [Array.mem_singleton] at he
        subst he
        have e1 : MemAct.ofEvent (mk (.acquire (stA Wg))) = .mark (.acquire (stA Wg)) := ofEvent_mk _
        exact ⟨fun y hy => (by rw [e1] at hy; cases hy), by simp [mk], fun y hy => (by rw [e1] at hy; cases hy)⟩)
      rw [own'_same rfl] at hcr
      refine .inl ⟨_, by rw [hrun'], ?_⟩
      rw [hrun']
      dsimp only
      refine ⟨_, w, sl, own, rdS, D, X, a', rfl, get_map_set_same _ _ _ (by rw [h.crew.size]; omega), hk, hcr, fun p hp => hq p hp, ?_, h.fz, h.mu⟩
      have e1 : MemOp.ofEvents 0 a.frame.fn a.frame.place #[mk (.acquire (stA Wg))] = #[{ g := 0, fn := a.frame.fn, pos := a.frame.place, act := .mark (.acquire (stA Wg)) }] := by rw [ofEvents_eq]; simp [ofEvent_mk]
      have hy : (t ++ #[({ g := 0, fn := a.frame.fn, pos := a.frame.place, act := .mark (.acquire (stA Wg)) } : MemOp)])[t.size]? = some { g := 0, fn := a.frame.fn, pos := a.frame.place, act := .mark (.acquire (stA Wg)) } := by simp
      refine ⟨t.size, by rw [e1, act?_of hy], by rw [e1]; simp [Trace.g?], by rw [e1]; exact ⟨0, by simp [Trace.g?], by rw [deaf_old (Nat.le_refl _)]; exact h.crew.deaf0⟩, fun i hi => ?_⟩
      obtain ⟨r, hr⟩ := h.crew.rel (j0 + i) (by omega) (by omega) (by have := hq (j0 + i) (by omega); show (baseOf D (j0 + i)).stage ≤ 6; omega)
      rw [show j0 + i + 1 = j0 + 1 + i by omega] at hr
      exact ⟨r, hr.appOther (g := 0) g_of_ofEvents (by omega), lt_of_act? hr.act⟩
    · obtain ⟨a', w', es, hgo, ⟨rfl, rfl⟩, hk⟩ := hstep w (.refl w)
      exact .inr (h.idle hgo (.acq hk) (Nat.lt_succ_self m'))
end
end Go.Proofs.Ytgkakgibgfehaaa.Ph
