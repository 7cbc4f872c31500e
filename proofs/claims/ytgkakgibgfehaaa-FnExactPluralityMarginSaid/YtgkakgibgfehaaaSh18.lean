/-
  MANY WORKERS THAT MAKE THINGS: THE PHASE, ON EVERY TAPE ('phase'); what stands when it is over: goroutine 0 beside others that only leave ('over_team'). No condition but what each theorem says.
  MANY WORKERS THAT MAKE THINGS: SMALL LAWS: every order that the tape can pick for a region; single steps of memory as equations. No condition but what each theorem says.
  A WORKER OF countsOfParts, FROM ITS BIRTH TO ITS DEFERRED Done, whatever order its region's draw picks: it loads what was made over to it, calls partCounts (there the lone contract's tree goes with it), stores the row into its own cell. Conditions: what its boxes hold ('Boxes'); the contract of partCounts ('Begin').
  A WORKER OF countsOfParts, II: its whole script, for every order of its region. Conditions: what its boxes hold ('Boxes'); the contract of partCounts ('Begin').
  A WORKER OF countsOfParts, III: from its birth to its deferred Done, whatever order its region's draw picks. Conditions: what its boxes hold ('Boxes'); the contract of partCounts ('Begin'); as many workers as a group's counter can count.
  countsOfParts, GOROUTINE 0's OWN STEPS THAT LOOK AT NO MEMORY, each as an equation. No condition but what each theorem says.
-/
import Derived.Test.YtgkakgibgfehaaaSh17
import Derived.Conc.CompanyDraw
import Derived.RowKit
import Derived.Test.YtgkakgibgfehaaaSh2
namespace Go.Proofs.Ytgkakgibgfehaaa.Ph
open Go.Conc Go.ConcN Go.Proofs.Ytgkakgibgfehaaa.Sim
open Go.ConcR (KK wgBlock WgAt stA smA rd wr mk Payload DC0 Bk g_of_ofEvents)
variable [Payload]

section
variable {ok : Cx} {T : Tables} {FL FC : Array Func} {ty : TypeId} {Wg C n : Nat} {Q : Nat → Value → World → Prop} {PV : Nat → Value → Nat → Obj → Prop} {j0 : Nat} {Next Anch : Kn → Goroutine → World → Prop} {rdS : Nat → Nat → Prop}
  {Sb : Nat → Prop} {B0 t0 : Nat} {W0 : World} {own : Nat → Nat} {J : Nat} {D : Nat → Wk} {gs : Array Goroutine} {w w' : World} {t : Trace} {d0 : Nat} {tag : CTag} {e kM fM : Nat} {X : Kn} {a : Goroutine} {sl : Option (Nat × Nat)} {st sm : Int}

theorem Now.at (h : (Now ok T FL FC ty Wg C n Q PV j0 Next Anch Sb B0 t0 W0 own rdS tag e X d0 a st sm J D kM fM gs w t)) (d : Nat) : Now ok T FL FC ty Wg C n Q PV j0 Next Anch Sb B0 t0 W0 own rdS tag e X d0 a st sm J D kM fM gs (w.at d) t := by
  have c := h.crew
  exact ⟨h.ha, h.main.rely ⟨fun _ _ => rfl, Nat.le_refl _, id, rfl, rfl, rfl⟩, ⟨c.le, c.le', c.size, fun p hp => let ⟨g, hg, hs⟩ := c.wk p hp; ⟨g, hg, hs.rely (fun b hb => ⟨hb, rfl⟩) ⟨RW.at w d, fun _ _ => rfl, Nat.le_refl _⟩ rfl⟩, c.old, c.ti, c.deaf0, c.deafW, c.rel, c.has, c.res, c.pay, c.live, c.ownC, c.ownW, c.ownS, c.ownN, c.rdO, c.stand, c.acc, c.os, c.output, c.tape⟩, h.wg, h.mode, h.fz, h.mu⟩

omit [Payload] in
theorem exists_counted' {D : Nat → WD} : ∀ {j : Nat}, 1 ≤ Vc j D → ∃ i, i < j ∧ 5 ≤ (D i).stage := by
  intro j
  induction j with
  | zero => intro h; simp [Vc, sumTo] at h
  | succ j ih =>
    intro h
    by_cases hc : 5 ≤ (D j).stage
    · exact ⟨j, by omega, hc⟩
    · have e : Vc (j + 1) D = Vc j D + cnt (D j) := rfl
      have : cnt (D j) = 0 := by simp [cnt, hc]
      obtain ⟨i, hi, h5⟩ := ih (by omega)
      exact ⟨i, by omega, h5⟩
/-- NO DEADLOCK. -/
theorem Now.someone (hAr : ∀ X g w, Anch X g w → g.status = .running) (h : (Now ok T FL FC ty Wg C n Q PV j0 Next Anch Sb B0 t0 W0 own rdS tag e X d0 a st sm J D kM fM gs w t)) : ∃ (i : Nat) (g : Goroutine), gs[i]? = some g ∧ g.status = .running := by
  rcases h.main.status hAr with ⟨hs, _⟩ | ⟨_, rfl⟩
  · exact ⟨0, a, h.ha, hs⟩
  · have hm := h.mode
    cases hm with
    | opn h1 _ _ => exact h1.elim
    | reg _ _ h3 =>
      obtain ⟨i, hi, h5⟩ := exists_counted' h3
      obtain ⟨g, hg, hs⟩ := h.crew.wk i hi
      exact ⟨i + 1, g, hg, hs.runs (by have : (baseOf D i).stage = (D i).base.stage := rfl; omega)⟩
    | last L _ h2 h3 _ =>
      obtain ⟨g, hg, hs⟩ := h.crew.wk L h2
      exact ⟨L + 1, g, hg, hs.runs (by have : (baseOf D L).stage = (D L).base.stage := rfl; omega)⟩
    | fin h1 _ => exact h1.elim
theorem Now.awake (hAr : ∀ X g w, Anch X g w → g.status = .running) (h : (Now ok T FL FC ty Wg C n Q PV j0 Next Anch Sb B0 t0 W0 own rdS tag e X d0 a st sm J D kM fM gs w t)) : ∀ g ∈ gs, awake g := by
  intro g hg tm
  obtain ⟨i, hi⟩ := Array.mem_iff_getElem?.1 hg
  cases i with
  | zero =>
    rw [h.ha] at hi; cases hi
    rcases h.main.status hAr with ⟨hs, _⟩ | ⟨hs, _⟩ <;> rw [hs] <;> simp
  | succ i =>
    have hlt : i < J := by have := (Array.getElem?_eq_some_iff.1 hi).1; rw [h.crew.size] at this; omega
    obtain ⟨g', hg', hs⟩ := h.crew.wk i hlt
    rw [hi] at hg'; cases hg'
    rcases hs.status with h | h <;> rw [h] <;> simp

section
variable (hn : n < 2147483648) (hAr : ∀ X g w, Anch X g w → g.status = .running) (hP : ∀ Fz : Fr, Fz.lim = none → Fz.out = false → Progs ok T Fz FL FC) (hI : ∀ f, ok.ok f = true → T.inits.idxOf? f = none) (hord : ∀ f, ok.ok f = true → ok.rd f = true)
  (hAn : ∀ X g w, Anch X g w → To (prg T FC) (RMn ty Wg X) (Wt2 (prg T FC) ty Wg (RMn ty Wg X) (Next X) (Anch X)) g w)
include hn hAr hP hI hord hAn

/-- EVERY STEP OF THE MACHINE. -/
theorem one_step {N J : Nat} {D : Nat → Wk} {kM fM : Nat} {m : Machine} {t : Trace} (h : (Inv ok T FL FC ty Wg C n Q PV j0 Next Anch Sb B0 t0 W0) N J D kM fM m t) :
    (∃ m₁, (stepT (prg T FC) m).1 = .next m₁ ∧ (Over ok T FL FC ty Wg C n Q PV j0 Next Sb B0 t0 W0) m₁ (t ++ (stepT (prg T FC) m).2)) ∨ (On ok T FL FC ty Wg C n Q PV j0 Next Anch Sb B0 t0 W0) N J D kM fM t (stepT (prg T FC) m) := by
  obtain ⟨gs, w, sl, own, rdS, tag, e, X, d0, a, st, sm, rfl, ha, hM, hC, hwg, hmode, hfz, hmu, rfl⟩ := h
  have h0 : Now ok T FL FC ty Wg C n Q PV j0 Next Anch Sb B0 t0 W0 own rdS tag e X d0 a st sm J D kM fM gs w t := ⟨ha, hM, hC, hwg, hmode, hfz, hmu⟩
  obtain ⟨i, g, d, sl', hg, hrun, hstep⟩ := crowd_pick (P := prg T FC) (w := w) (sl := sl) (h0.awake hAr) (h0.someone hAr)
  rw [hstep]
  have h1 := h0.at d
  cases i with
  | zero =>
    rw [ha] at hg; cases hg
    exact main_step hn hAn h1 hrun
  | succ p =>
    have hp : p < J := by have := (Array.getElem?_eq_some_iff.1 hg).1; rw [hC.size] at this; omega
    exact .inr (others_step hn hAr hP hI hord h1 hp hg hrun)

/-- THE PHASE. -/
theorem phase : ∀ (N J : Nat) (D : Nat → Wk) (kM fM : Nat) (m : Machine) (t : Trace), (Inv ok T FL FC ty Wg C n Q PV j0 Next Anch Sb B0 t0 W0) N J D kM fM m t → ∃ K m' t', runNT (prg T FC) K m t = (.next m', t') ∧ (Over ok T FL FC ty Wg C n Q PV j0 Next Sb B0 t0 W0) m' t' := by
  intro N
  induction N using Nat.strongRecOn with
  | _ N ihN =>
    have key : ∀ (J : Nat) (v : Nat → Nd), Acc (OneDown (NdLt (prg T FL)) J) v → ∀ (D : Nat → Wk), (fun p => (D p).nd) = v → ∀ (kM fM : Nat) (m : Machine) (t : Trace), (Inv ok T FL FC ty Wg C n Q PV j0 Next Anch Sb B0 t0 W0) N J D kM fM m t → ∃ K m' t', runNT (prg T FC) K m t = (.next m', t') ∧ (Over ok T FL FC ty Wg C n Q PV j0 Next Sb B0 t0 W0) m' t' := by
      intro J v hv
      induction hv with
      | intro v _ ihv =>
        intro D hD kM
        induction kM using Nat.strongRecOn with
        | _ kM ihk =>
          intro fM
          induction fM using Nat.strongRecOn with
          | _ fM ihf =>
            intro m t hI0
            rcases hs : stepT (prg T FC) m with ⟨r, ops⟩
            have h1 := one_step hn hAr hP hI hord hAn hI0
            rw [hs] at h1
            rcases h1 with ⟨m₁, h1, h2⟩ | ⟨m₁, N', D', k', f', J', h1, h2, h3⟩
            · refine ⟨1, m₁, t ++ ops, ?_, h2⟩
              simp only at h1
              simp only [runNT, hs, h1]
            · simp only at h1 h3
              have go : ∃ K m' t', runNT (prg T FC) K m₁ (t ++ ops) = (.next m', t') ∧ (Over ok T FL FC ty Wg C n Q PV j0 Next Sb B0 t0 W0) m' t' := by
                rcases h2 with h2 | ⟨rfl, rfl, h2 | ⟨rfl, h2 | ⟨rfl, h2⟩⟩⟩
                · exact ihN N' h2 _ _ _ _ _ _ h3
                · exact ihv _ (hD ▸ h2) D' rfl k' f' _ _ h3
                · exact ihk k' h2 f' _ _ h3
                · exact ihf f' h2 _ _ h3
              obtain ⟨K, m', t', h4, h5⟩ := go
              refine ⟨K + 1, m', t', ?_, h5⟩
              simp only [runNT, hs, h1]
              exact h4
    intro J D kM fM m t hI0
    have hacc : ∀ p, p < J → Acc (NdLt (prg T FL)) (D p).nd := by
      obtain ⟨gs, w, sl, own, rdS, tag, e, X, d0, a, st, sm, _, _, _, hC, _⟩ := hI0
      exact hC.acc
    exact key J _ (oneDown_acc J _ hacc) D rfl kM fM m t hI0
end

/-! ### when it is over -/
theorem Sit.quits {p : Nat} {v : Value} {s e d : Nat} {nd : Nd} {g : Goroutine} (h : Sit ok T FL FC ty Wg C n Q PV j0 rdS own p v s e d nd g w) (hs : s = 1) : ∃ m, nd = .num 0 m ∧ QuitsD (prg T FC) m d g := by
  cases h with
  | pre h => cases hs
  | sim h => cases hs
  | post h => cases hs
  | lib h => exact ⟨_, rfl, h.quits hs⟩
  | old h1 h2 => exact ⟨_, rfl, h2⟩
theorem Sit.ex_le {p : Nat} {v : Value} {s e d : Nat} {nd : Nd} {g : Goroutine} (h : Sit ok T FL FC ty Wg C n Q PV j0 rdS own p v s e d nd g w) : e ≤ 3 := by
  cases h <;> omega
def fuelOf : Nd → Nat
  | .num _ m => m
  | _ => 0
theorem over_team {m : Machine} (h : (Over ok T FL FC ty Wg C n Q PV j0 Next Sb B0 t0 W0) m t) : ∃ gs w sl a q X, m = crowd gs w sl ∧ gs.size = j0 + n + 1 ∧ Team (prg T FC) (shun Sb) w.heap.size gs a t q ∧ To (prg T FC) (RMn ty Wg X) (Next X) a w ∧
    (∀ b, Sb b → b < w.heap.size) ∧ w.os = W0.os ∧ w.output = W0.output ∧ w.tape = W0.tape ∧ (∀ b, b < B0 → b ≠ Wg → b ≠ C → w.heap[b]? = W0.heap[b]?) ∧ PayAt C n w ∧ (∀ b, b < B0 → b < w.heap.size) ∧
    ∃ own : Nat → Nat, (∀ b, b < B0 → own b = 0) ∧ (∀ b, Sb b → own b = 0) ∧ own C = 0 ∧ ∀ i, i < n → ∃ v rb ro, Has C i v w ∧ own rb = j0 + 1 + i ∧ w.heap[rb]? = some ro ∧ PV i v rb ro := by
  obtain ⟨gs, w, sl, own, rdS, D, X, a, rfl, ha, hTo, hC, hq, hA, hfz, hmu⟩ := h
  have hle := hC.le
  have hti := hC.ti
  rw [show j0 + n - j0 = n by omega] at hti
  obtain ⟨p1, p2, p3⟩ := hti.past hA hC.deaf0
  refine ⟨gs, w, sl, a, fun i => fuelOf (D (i - 1)).nd, X, rfl, hC.size, ⟨ha, ⟨fun i g hi hg => ?_, fun j hj => ?_⟩, p1, hti.low, p2, p3, fun op hop => ?_⟩, hTo, fun b hb => (hC.ownS b hb).2, hC.os, hC.output, hC.tape, fun b h1 h2 h3 => (hC.stand b h1 h2 h3).2.1, hC.pay, fun b hb => ?_,
    own, fun b hb => ?_, fun b hb => (hC.ownS b hb).1, hC.ownC.1, fun i hi => ?_⟩
  · have hlt : i - 1 < j0 + n := by have := (Array.getElem?_eq_some_iff.1 hg).1; rw [hC.size] at this; omega
    obtain ⟨g', hg', hs⟩ := hC.wk (i - 1) hlt
    rw [show i - 1 + 1 = i by omega, hg] at hg'
    cases hg'
    obtain ⟨m, h1, h2⟩ := hs.quits (hq _ hlt)
    have hd := hC.deafW (i - 1) hlt
    rw [show i - 1 + 1 = i by omega] at hd
    rw [hd, h1]
    exact h2
  · refine Deaf_absent fun x op hx e => ?_
    have := hti.ct.gs x op hx
    rw [hC.size] at hj
    omega
  · obtain ⟨x, hx, rfl⟩ := Array.mem_iff_getElem.1 hop
    have := hti.ct.gs x _ (Array.getElem?_eq_getElem hx)
    rw [hC.size]
    omega
  · by_cases e1 : b = Wg
    · rw [e1]; exact (hC.ownS Wg hC.ownW).2
    · by_cases e2 : b = C
      · rw [e2]; exact payLow hC.pay
      · exact (hC.stand b hb e1 e2).2.2
  · by_cases e1 : b = Wg
    · rw [e1]; exact (hC.ownS Wg hC.ownW).1
    · by_cases e2 : b = C
      · rw [e2]; exact hC.ownC.1
      · exact (hC.stand b hb e1 e2).1
  · have hs1 := hq (j0 + i) (by omega)
    obtain ⟨x1, x2, x3⟩ := hC.res (j0 + i) (by omega) (by omega) (by
      obtain ⟨g, hg, hs⟩ := hC.wk (j0 + i) (by omega)
      have := hs.ex_le
      omega)
    have hh := hC.has (j0 + i) (by omega) (by omega) (by omega)
    rw [show j0 + i - j0 = i by omega] at hh x3
    exact ⟨_, _, _, hh, by omega, x2, x3⟩
omit [Payload] in
/-- Under the rely of draws alone. -/
theorem goes_at {P : Program} {main : Bool} {R : World → World → Prop} (hR : ∀ w d, R w (w.at d)) {Dd : World → World → Array Event → Prop} {S : Goroutine → World → Prop} : ∀ {m : Nat} {g : Goroutine} {w : World}, Goes P main R Dd S m g w → Goes P main AtRel Dd S m g w := by
  intro m
  induction m with
  | zero =>
    intro g w h w₁ h₁
    obtain ⟨d, rfl⟩ := h₁
    exact h _ (hR w d)
  | succ m ih =>
    intro g w h
    rcases h with h | ⟨hs, h⟩
    · exact .inl fun w₁ ⟨d, hd⟩ => by subst hd; exact h _ (hR w d)
    · refine .inr ⟨hs, fun w₁ ⟨d, hd⟩ => ?_⟩
      subst hd
      have := h _ (hR w d)
      revert this
      generalize stepG P main g (w.at d) = s
      intro this
      cases s with
      | go g' w' es => exact ⟨this.1, ih this.2⟩
      | _ => exact this.elim
end
end Go.Proofs.Ytgkakgibgfehaaa.Ph

namespace Go.Proofs.Ytgkakgibgfehaaa.Ph
open Go.Conc Go.ConcN Go.RowKit

/-- Whatever the tape picks: an induction on what has come up. -/
theorem lin_any {md : Region.Mode} {ops : Array Oper} (K : Nat → Array Bool → List Nat → Prop) (hz : ∀ listed, K 0 listed []) (h0 : ∀ f listed, Region.ready md ops listed = [] → K (f + 1) listed [])
    (h1 : ∀ f listed i rest, i ∈ Region.ready md ops listed → K f (listed.setIfInBounds i true) rest → K (f + 1) listed (i :: rest)) : ∀ (f t : Nat) (listed : Array Bool), K f listed (Region.linearise.go md ops f t listed []) := by
  intro f
  induction f with
  | zero => intro t listed; simpa [Region.linearise.go] using hz listed
  | succ f ih =>
    intro t listed
    simp only [Region.linearise.go]
    change K (f + 1) listed (match (Region.ready md ops listed)[t % (Region.ready md ops listed).length]? with
      | some i => Region.linearise.go md ops f (t / (Region.ready md ops listed).length) (listed.setIfInBounds i true) [i]
      | none => [].reverse)
    cases hi : (Region.ready md ops listed)[t % (Region.ready md ops listed).length]? with
    | none =>
      have hnil : Region.ready md ops listed = [] := by
        cases hr : Region.ready md ops listed with
        | nil => rfl
        | cons x xs =>
          rw [hr] at hi
          have hlt : t % (x :: xs).length < (x :: xs).length := Nat.mod_lt _ (by simp)
          rw [List.getElem?_eq_none_iff] at hi
          omega
      exact h0 f listed hnil
    | some i =>
      show K (f + 1) listed (Region.linearise.go md ops f (t / (Region.ready md ops listed).length) (listed.setIfInBounds i true) [i])
      rw [linearise_go_acc, List.reverse_singleton, List.singleton_append]
      exact h1 f listed i _ (List.mem_of_getElem? hi) (ih _ _)

section
variable {P : Program} {main : Bool} {b : Frame} {a : Act} {kk : List Item} {cs : List Frame} {w : World} {ops : Array Oper} {i : Nat} {rest : List Nat} {o : Oper}
/-- A plain load of one cell, as one step. -/
theorem step_load {t : TypeId} {x : Operand} {ad : Addr} {v : Value} (ho : ops[i]? = some o) (hw : Region.wanted o (yielded ops a.tmps) = true) (hk : b.kind ≠ .early) (hop : o.op = .load t x) (hx : a.eval x = .pointer (some ad)) (hc : w.cell? ad = some v)
    (hA : ∀ w, (isAgg t).run P w = .ok false w) (hE : ∀ w es, (isAgg t).events P w es = es) (hq : (P.funcs[b.fn]?).any (·.norace) = false) :
    stepG P main (G (b.at a (.inRegion ops (i :: rest) :: kk)) cs) w = .go (G (b.at (a.put o.dst v) (.inRegion ops rest :: kk)) cs) w #[⟨.cell ad, false, false⟩] := by
  have hr : (execOp a.eval o).run P w = .ok (.value v) w := by
    unfold execOp
    simp only [hop, hx]
    simp [go_sem, hc, hA]
  have he : (execOp a.eval o).events P w #[] = #[⟨.cell ad, false, false⟩] := by
    unfold execOp
    simp only [hop, hx]
    simp [go_sem, hc, hA, hE]
  rw [stepG_value ho hw hk hr]
  unfold listed
  rw [he, seen_eq hq (by simp)]
/-- A plain store of a slice into one cell, as one step. -/
theorem step_store {t : TypeId} {x y : Operand} {ad : Addr} {pa : Option Addr} {l c : Nat} {u : Value} (ho : ops[i]? = some o) (hw : Region.wanted o (yielded ops a.tmps) = true) (hk : b.kind ≠ .early) (hop : o.op = .store t x y) (hx : a.eval x = .pointer (some ad)) (hy : a.eval y = .slice pa l c)
    (hc : w.cell? ad = some u) (hz : w.frozen? ad = false) (hS : ∀ w, (sizeOf t).run P w = .ok 1 w) (hq : (P.funcs[b.fn]?).any (·.norace) = false) :
    stepG P main (G (b.at a (.inRegion ops (i :: rest) :: kk)) cs) w = .go (G (b.at (a.put o.dst undef) (.inRegion ops rest :: kk)) cs) (w.setCell ad (.slice pa l c)) #[⟨.cell ad, true, false⟩] := by
  have hr : (execOp a.eval o).run P w = .ok .skip (w.setCell ad (.slice pa l c)) := by
    unfold execOp
    simp only [hop, hx, hy]
    simp [go_sem, stored, hc, hz, hS]
  have he : (execOp a.eval o).events P w #[] = #[⟨.cell ad, true, false⟩] := by
    have hst : (store ad (.slice pa l c)).events P w #[] = storedEv P w #[] ad (.slice pa l c) .plain := events_store P w #[] ad _ .plain rfl
    unfold execOp
    simp only [hop, hx, hy]
    simp [go_sem, hst, storedEv, hc, hz, hS]
  rw [stepG_none ho hw hk hr]
  unfold listed
  rw [he, seen_eq hq (by simp)]
/-- A variable is made, as one step. -/
theorem step_alloc {t : TypeId} {z : Value} (ho : ops[i]? = some o) (hw : Region.wanted o (yielded ops a.tmps) = true) (hk : b.kind ≠ .early) (hop : o.op = .alloc t) (hz : ∀ w, (zeroValue t).run P w = .ok z w) :
    stepG P main (G (b.at a (.inRegion ops (i :: rest) :: kk)) cs) w = .go (G (b.at (a.put o.dst (.pointer (some ⟨w.heap.size, 0, none⟩))) (.inRegion ops rest :: kk)) cs) (w.alloc (.cells z.cells t)) #[] := by
  have hr : (execOp a.eval o).run P w = .ok (.value (.pointer (some ⟨w.heap.size, 0, none⟩))) (w.alloc (.cells z.cells t)) := by
    unfold execOp
    simp only [hop]
    simp [go_sem, hz]
  have he : (execOp a.eval o).events P w #[] = #[] := by
    unfold execOp
    simp only [hop]
    simp [go_sem, hz]
  rw [stepG_value ho hw hk hr]
  unfold listed
  rw [he, seen_none]
/-- A plain store of an int into one cell, as one step. -/
theorem step_store_int {t : TypeId} {x y : Operand} {ad : Addr} {k : IntKind} {n : Int} {u : Value} (ho : ops[i]? = some o) (hw : Region.wanted o (yielded ops a.tmps) = true) (hk : b.kind ≠ .early) (hop : o.op = .store t x y) (hx : a.eval x = .pointer (some ad)) (hy : a.eval y = .int k n)
    (hc : w.cell? ad = some u) (hz : w.frozen? ad = false) (hS : ∀ w, (sizeOf t).run P w = .ok 1 w) (hq : (P.funcs[b.fn]?).any (·.norace) = false) :
    stepG P main (G (b.at a (.inRegion ops (i :: rest) :: kk)) cs) w = .go (G (b.at (a.put o.dst undef) (.inRegion ops rest :: kk)) cs) (w.setCell ad (.int k n)) #[⟨.cell ad, true, false⟩] := by
  have hr : (execOp a.eval o).run P w = .ok .skip (w.setCell ad (.int k n)) := by
    unfold execOp
    simp only [hop, hx, hy]
    simp [go_sem, stored, hc, hz, hS]
  have he : (execOp a.eval o).events P w #[] = #[⟨.cell ad, true, false⟩] := by
    unfold execOp
    simp only [hop, hx, hy]
    simp [go_sem, storedEv, hc, hz, hS]
  rw [stepG_none ho hw hk hr]
  unfold listed
  rw [he, seen_eq hq (by simp)]
/-- An element's address, as one step. -/
theorem step_index {t : TypeId} {x y : Operand} {ad : Addr} {n c : Nat} {k : IntKind} {j : Int} {sz : Nat} (ho : ops[i]? = some o) (hw : Region.wanted o (yielded ops a.tmps) = true) (hk : b.kind ≠ .early) (hop : o.op = .indexAddr t x y) (hx : a.eval x = .slice (some ad) n c) (hy : a.eval y = .int k j)
    (hU : P.underlying t = some (.slice (P.elem t))) (hS : ∀ w, (sizeOf (P.elem t)).run P w = .ok sz w) (h0 : 0 ≤ j ∧ j < n) :
    stepG P main (G (b.at a (.inRegion ops (i :: rest) :: kk)) cs) w = .go (G (b.at (a.put o.dst (.pointer (some (ad.add (j.toNat * sz))))) (.inRegion ops rest :: kk)) cs) w #[] := by
  have hi := run_indexAt_slice (P := P) (w := w) t ad n c k j hU
  rw [if_pos h0, hS] at hi
  have he' := events_indexAt_slice (P := P) (w := w) (es := #[]) t ad n c k j hU h0
  have hr : (execOp a.eval o).run P w = .ok (.value (.pointer (some (ad.add (j.toNat * sz))))) w := by
    unfold execOp
    simp only [hop, hx, hy]
    simp [go_sem, hi]
  have he : (execOp a.eval o).events P w #[] = #[] := by
    unfold execOp
    simp only [hop, hx, hy]
    simp [go_sem, he']
  rw [stepG_value ho hw hk hr]
  unfold listed
  rw [he, seen_none]
/-- A call of a function with a body, as one step. -/
theorem step_call {f : FuncId} {fn : Func} {args : Array Operand} {ats : Array TypeId} (ho : ops[i]? = some o) (hw : Region.wanted o (yielded ops a.tmps) = true) (hk : b.kind ≠ .early) (hop : o.op = .call { callee := .value (.func f), args, argTypes := ats })
    (hf : P.funcs[f]? = some fn) (hname : (fn.name == "runtime.NumGoroutine") = false) (hb : fn.body.isNone = false) :
    stepG P main (G (b.at a (.inRegion ops (i :: rest) :: kk)) cs) w = .go (G (Frame.enter P f (args.map a.eval) .normal) (b.at a (.inRegion ops (i :: rest) :: kk) :: cs)) w #[] := by
  rw [stepG_enter ho hw hk (run_call_body hop hf hname hb)]
  have : listed P b.fn a o w = #[] := by unfold listed; rw [events_call_body hop hf hname hb]; exact seen_none P _
  rw [this]
end
end Go.Proofs.Ytgkakgibgfehaaa.Ph

namespace Go.Proofs.Ytgkakgibgfehaaa.Ph
open Go.Conc Go.ConcN Go.RowKit Go.Conc.Lib Go.ConcR.Gen Go.ConcN.Gen Go.Proofs.Ytgkakgibgfehaaa.Sim
open Go.ConcR (KK wgBlock WgAt stA smA rd wr mk Payload DC0)

noncomputable abbrev PP : Program := prg tabs fsC
theorem PP.link : WgLib PP Try.link := Try.wgLib
def bW : Frame := baseD 86
noncomputable def bot : Frame := { (default : Frame) with fn := PP.funcs.size, defers := [], mode := .panicking [goexitEntry] }
noncomputable def bodyW : Code := Try.f86.body.getD .skip
noncomputable def opsW : Array Oper := match Try.f86.body with | some (.seq _ (.region _ ops _)) => ops | _ => #[]
theorem PP.fW : PP.funcs[86]? = some Try.f86 := Try.func86
theorem PP.fPart : PP.funcs[88]? = some Try.f88 := Try.func88
abbrev ptr (b : Nat) : Value := .pointer (some ⟨b, 0, none⟩)
def callW (Wg bp bl ba bi : Nat) : Deferred := { target := .fn (.func 86) #[ptr Wg, ptr bp, ptr bl, ptr ba, ptr bi], args := #[] }
theorem loudW : (PP.funcs[bW.fn]?).any (·.norace) = false := by kernel_rfl
theorem nmPart : (Try.f88.name == "runtime.NumGoroutine") = false := by kernel_rfl
theorem bodyPart : Try.f88.body.isNone = false := by kernel_rfl

theorem born_step (Wg bp bl ba bi : Nat) (w : World) : stepG PP false (born PP (callW Wg bp bl ba bi)) w =
    .go (G (bW.at ⟨#[ptr Wg, ptr bp, ptr bl, ptr ba, ptr bi, undef, undef, undef, undef, undef, undef], []⟩ [.code bodyW]) [bot]) w #[] := by
  have h := PP.fW
  simp [born, callW, stepG, unwind, callDeferred, invoke, callFunc, h, Try.f86, seen, GStep.after, G, Frame.enter, Frame.at, bW, baseD, bot, bodyW]
theorem quitsTail (T : Array Value) : QuitsD PP 2 0 (G { bW.at ⟨T, []⟩ [] with mode := .returning } [bot]) := by
  have h := PP.fW
  refine QuitsD.ctl (g' := G bot []) rfl (fun w => ?_) ?_
  · simp [G, stepG, unwind, doReturn, results, Frame.at, bW, baseD, bot, h, Try.f86, seen, GStep.after, goexitEntry]
  refine QuitsD.ctl (g' := { G bot [] with status := .finished }) rfl (fun w => ?_) ⟨rfl, rfl⟩
  simp [G, stepG, unwind, bot, goexitEntry, Frame.catches]
  rfl

/-- What is known of the blocks that nobody writes. -/
def Kw (rdk : Nat → Prop) (W w : World) : Prop := ∀ b, rdk b → w.heap[b]? = W.heap[b]?
structure Boxes (Wg C n i bp bl ba bi : Nat) (rdk : Nat → Prop) (vp vl : Value) (W : World) : Prop where
  rp : rdk bp
  rl : rdk bl
  ra : rdk ba
  ri : rdk bi
  part : W.cell? ⟨bp, 0, none⟩ = some vp
  left : W.cell? ⟨bl, 0, none⟩ = some vl
  all : W.cell? ⟨ba, 0, none⟩ = some (.slice (some ⟨C, 0, none⟩) n n)
  idx : W.cell? ⟨bi, 0, none⟩ = some (.int .i64 i)
  lt : i < n
  nC : ¬ rdk C
  CW : C ≠ Wg
/-- The contract of partCounts, for this worker. -/
structure Begin (sh : Nat → Nat) (FL : Array Func) (Q : Nat → Value → World → Prop) (PV : Nat → Value → Nat → Obj → Prop) (i : Nat) (rdk : Nat → Prop) (W : World) (vp vl : Value) : Prop where
  start : ∀ w, Kw rdk W w → ∃ (Fz : Fr) (R : Ren) (w0 : World) (args0 : Array Value), Must (prg tabs FL) [junk] (Q i) (Frame.enter (prg tabs FL) 88 args0 .normal) [] w0 ∧
    FRel (okW sh) tabs R (Frame.enter (prg tabs FL) 88 args0 .normal) (Frame.enter PP 88 #[vp, vl] .normal) ∧ Near (okW sh) tabs Fz R w0 w ∧ Fz.lim = none ∧ Fz.out = false ∧ ∀ b b', R b b' → Fz b ∧ rdk b'
  fin : ∀ (Fz : Fr) (mine : Nat → Prop) (R : Ren) (w1 : World) (v v' : Value) (w' : World), Q i v w1 → VRel (okW sh) R v v' → Near (okW sh) tabs Fz R w1 w' → (∀ b b', R b b' → (Fz b ∧ rdk b') ∨ (¬ Fz b ∧ mine b')) →
    ∃ rb ro pa l c, v' = .slice pa l c ∧ mine rb ∧ w'.heap[rb]? = some ro ∧ PV i v' rb ro

/-- What an operation of the region leaves in its slot. -/
def valW (C n i : Nat) (vp vl v : Value) : Nat → Value
  | 0 => .slice (some ⟨C, 0, none⟩) n n
  | 1 => .int .i64 i
  | 2 => vp
  | 3 => vl
  | 4 => v
  | _ => .pointer (some ⟨C, i, none⟩)
structure Slots (Wg C n i bp bl ba bi : Nat) (vp vl v : Value) (T : Array Value) (L : Array Bool) : Prop where
  size : T.size = 11
  s0 : T.getD 0 undef = ptr Wg
  s1 : T.getD 1 undef = ptr bp
  s2 : T.getD 2 undef = ptr bl
  s3 : T.getD 3 undef = ptr ba
  s4 : T.getD 4 undef = ptr bi
  l : ∀ k, k < 6 → L.getD k false = true → T.getD (k + 5) undef = valW C n i vp vl v k
theorem getD_put (T : Array Value) (d k : Nat) (x : Value) (hd : d < T.size) : (T.setIfInBounds d x).getD k undef = if d = k then x else T.getD k undef := by
  rw [Array.getD_eq_getD_getElem?, Array.getD_eq_getD_getElem?, Array.getElem?_setIfInBounds]
  split
  · rename_i e
    subst e
    rfl
  · rfl
theorem getD_put' (L : Array Bool) (d k : Nat) (hd : d < L.size) : (L.setIfInBounds d true).getD k false = if d = k then true else L.getD k false := by
  rw [Array.getD_eq_getD_getElem?, Array.getD_eq_getD_getElem?, Array.getElem?_setIfInBounds]
  split
  · rename_i e
    subst e
    rfl
  · rfl
section
variable {Wg C n i bp bl ba bi : Nat} {vp vl u v : Value} {T : Array Value} {L : Array Bool}
theorem Slots.put (h : Slots Wg C n i bp bl ba bi vp vl u T L) (hL : L.size = 7) (hv : L.getD 4 false = true → u = v) {j : Nat} (hj : j < 6) : Slots Wg C n i bp bl ba bi vp vl v (T.setIfInBounds (j + 5) (valW C n i vp vl v j)) (L.setIfInBounds j true) := by
  have hs := h.size
  have low : ∀ k, k < 5 → (T.setIfInBounds (j + 5) (valW C n i vp vl v j)).getD k undef = T.getD k undef := fun k hk => by rw [getD_put _ _ _ _ (by omega), if_neg (by omega)]
  refine ⟨by simp [hs], (low 0 (by omega)).trans h.s0, (low 1 (by omega)).trans h.s1, (low 2 (by omega)).trans h.s2, (low 3 (by omega)).trans h.s3, (low 4 (by omega)).trans h.s4, fun k hk hl => ?_⟩
  rw [getD_put _ _ _ _ (by omega)]
  by_cases e : j = k
  · subst e; rw [if_pos rfl]
  · rw [if_neg (by omega)]
    rw [getD_put' _ _ _ (by omega), if_neg e] at hl
    rw [h.l k hk hl]
    by_cases e4 : k = 4
    · subst e4; rw [hv hl]
    · unfold valW
      split <;> first | rfl | omega
theorem Slots.put6 (h : Slots Wg C n i bp bl ba bi vp vl v T L) (hL : L.size = 7) : Slots Wg C n i bp bl ba bi vp vl v T (L.setIfInBounds 6 true) :=
  ⟨h.size, h.s0, h.s1, h.s2, h.s3, h.s4, fun k hk hl => by rw [getD_put' _ _ _ (by omega), if_neg (by omega)] at hl; exact h.l k hk hl⟩
end

theorem afterW (k : Nat) (hk : k < 4) : (opsW[k]?).map (·.after) = some #[] := by
  obtain rfl | rfl | rfl | rfl : k = 0 ∨ k = 1 ∨ k = 2 ∨ k = 3 := by omega
  all_goals rfl
theorem afterW4 : (opsW[4]?).map (·.after) = some #[⟨2, .data⟩, ⟨3, .data⟩] := rfl
theorem afterW5 : (opsW[5]?).map (·.after) = some #[⟨0, .data⟩, ⟨1, .data⟩, ⟨0, .phase⟩, ⟨1, .phase⟩, ⟨2, .phase⟩, ⟨3, .phase⟩, ⟨4, .phase⟩] := rfl
theorem afterW6 : (opsW[6]?).map (·.after) = some #[⟨5, .data⟩, ⟨4, .data⟩, ⟨4, .chain⟩, ⟨0, .phase⟩, ⟨1, .phase⟩, ⟨2, .phase⟩, ⟨3, .phase⟩, ⟨4, .phase⟩] := rfl
/-- Some operation may come up as long as one has not. -/
theorem ready_some {L : Array Bool} (hL : L.size = 7) (h : Region.ready .any opsW L = []) : ∀ k, k < 7 → L.getD k false = true := by
  have key : ∀ k af, (opsW[k]?).map (·.after) = some af → k < 7 → (∀ e ∈ af, L.getD e.on false = true) → L.getD k false = true := by
    intro k af ha hk he
    obtain ⟨o, ho, rfl⟩ := Option.map_eq_some_iff.1 ha
    cases hb : L.getD k true with
    | false =>
      have := (mem_ready (md := .any)).2 ⟨hb, o, ho, fun e h _ => he e h⟩
      rw [h] at this
      cases this
    | true =>
      have hlt : k < L.size := by omega
      rw [Array.getD_eq_getD_getElem?] at hb ⊢
      rw [Array.getElem?_eq_getElem hlt] at hb ⊢
      exact hb
  have k0 : ∀ k, k < 4 → L.getD k false = true := fun k hk => key k _ (afterW k hk) (by omega) (fun e he => by simp at he)
  have h0 := k0 0 (by omega)
  have h1 := k0 1 (by omega)
  have h2 := k0 2 (by omega)
  have h3 := k0 3 (by omega)
  have h4 := key 4 _ afterW4 (by omega) fun e he => by
    simp only [List.mem_toArray, List.mem_cons, List.not_mem_nil, or_false] at he
    rcases he with rfl | rfl <;> assumption
  have h5 := key 5 _ afterW5 (by omega) fun e he => by
    simp only [List.mem_toArray, List.mem_cons, List.not_mem_nil, or_false] at he
    rcases he with rfl | rfl | rfl | rfl | rfl | rfl | rfl <;> assumption
  have h6 := key 6 _ afterW6 (by omega) fun e he => by
    simp only [List.mem_toArray, List.mem_cons, List.not_mem_nil, or_false] at he
    rcases he with rfl | rfl | rfl | rfl | rfl | rfl | rfl | rfl <;> assumption
  intro k hk
  obtain rfl | rfl | rfl | rfl | rfl | rfl | rfl : k = 0 ∨ k = 1 ∨ k = 2 ∨ k = 3 ∨ k = 4 ∨ k = 5 ∨ k = 6 := by omega
  all_goals assumption
/-- What has come up ahead of it. -/
theorem ready_ahead {L : Array Bool} {j : Nat} (h : j ∈ Region.ready .any opsW L) : j < 7 ∧ L.getD j true = false ∧ (j = 4 → L.getD 2 false = true ∧ L.getD 3 false = true) ∧ (j = 5 → L.getD 0 false = true ∧ L.getD 1 false = true ∧ L.getD 4 false = true) ∧ (j = 6 → L.getD 4 false = true ∧ L.getD 5 false = true) := by
  obtain ⟨h1, o, ho, h2⟩ := mem_ready.1 h
  have hj : j < 7 := (Array.getElem?_eq_some_iff.1 ho).1
  have get : ∀ {af : Array Edge}, (opsW[j]?).map (·.after) = some af → ∀ e ∈ af, Region.binds .any e = true → L.getD e.on false = true := by
    intro af ha e he hb
    rw [ho] at ha
    have : o.after = af := Option.some.inj ha
    exact h2 e (this ▸ he) hb
  refine ⟨hj, h1, fun e => ?_, fun e => ?_, fun e => ?_⟩ <;> subst e
  · exact ⟨get afterW4 ⟨2, .data⟩ (by simp) rfl, get afterW4 ⟨3, .data⟩ (by simp) rfl⟩
  · exact ⟨get afterW5 ⟨0, .data⟩ (by simp) rfl, get afterW5 ⟨1, .data⟩ (by simp) rfl, get afterW5 ⟨4, .phase⟩ (by simp) rfl⟩
  · exact ⟨get afterW6 ⟨4, .data⟩ (by simp) rfl, get afterW6 ⟨5, .data⟩ (by simp) rfl⟩
theorem sched_any (P : Program) (t : Nat) : Region.schedule (P.follows .mixedOrders) opsW t = Region.linearise .any opsW t := by
  have : Region.departs opsW = false := by kernel_rfl
  simp [Region.schedule, this]
end Go.Proofs.Ytgkakgibgfehaaa.Ph

namespace Go.Proofs.Ytgkakgibgfehaaa.Ph
open Go.Conc Go.ConcN Go.RowKit Go.Conc.Lib Go.ConcR.Gen Go.ConcN.Gen Go.Proofs.Ytgkakgibgfehaaa.Sim
open Go.ConcR (KK wgBlock WgAt stA smA rd wr mk Payload DC0)

abbrev tyW : TypeId := 110
noncomputable abbrev dsW (Wg : Nat) : List Deferred := [dcall 87 #[ptr Wg]]
section
variable (sh : Nat → Nat) (FL : Array Func) (Q : Nat → Value → World → Prop) (PV : Nat → Value → Nat → Obj → Prop) (Wg C n i bp bl ba bi : Nat) (rdk : Nat → Prop) (vp vl : Value) (W : World)
def PreW (f : Nat) (L : Array Bool) (rest : List Nat) : Prop := ∃ k, k ≤ f ∧ ∀ T w u, Slots Wg C n i bp bl ba bi vp vl u T L → Kw rdk W w →
  TW PP tyW Wg C n i rdk k 0 (AtSim (okW sh) tabs FL fsC tyW Wg C n Q PV i rdk) (G (bW.at ⟨T, dsW Wg⟩ [.inRegion opsW rest]) [bot]) w
def PostW (v : Value) (L : Array Bool) (rest : List Nat) : Prop := ∃ k m, ∀ T w, Slots Wg C n i bp bl ba bi vp vl v T L → Kw rdk W w → WgLive tyW Wg w → PayAt C n w → (L.getD 6 false = true → Has C i v w) →
  TW PP tyW Wg C n i rdk k m (AtDone PP tyW Wg C n i v) (G (bW.at ⟨T, dsW Wg⟩ [.inRegion opsW rest]) [bot]) w
def missW (L : Array Bool) : Nat := cond (L.getD 0 false) 0 1 + cond (L.getD 1 false) 0 1 + cond (L.getD 2 false) 0 1 + cond (L.getD 3 false) 0 1 + cond (L.getD 4 false) 0 1 + cond (L.getD 5 false) 0 1 + cond (L.getD 6 false) 0 1
def KR (f : Nat) (L : Array Bool) (rest : List Nat) : Prop := L.size = 7 → missW L = f → (L.getD 6 false = true → L.getD 4 false = true) →
  (L.getD 4 false = false → PreW sh FL Q PV Wg C n i bp bl ba bi rdk vp vl W f L rest) ∧ (L.getD 4 false = true → ∀ v, (∃ pa l c, v = .slice pa l c) → PostW Wg C n i bp bl ba bi rdk vp vl W v L rest)
end

section
variable {sh : Nat → Nat} {FL : Array Func} {Q : Nat → Value → World → Prop} {PV : Nat → Value → Nat → Obj → Prop} {Wg C n i bp bl ba bi : Nat} {rdk : Nat → Prop} {vp vl u v : Value} {W w : World} {T : Array Value} {L : Array Bool} {rest : List Nat}

theorem missW_set (hL : L.size = 7) {j : Nat} (hj : j < 7) (h : L.getD j true = false) : missW L = missW (L.setIfInBounds j true) + 1 := by
  have hf : L.getD j false = false := by
    have hlt : j < L.size := by omega
    rw [Array.getD_eq_getD_getElem?, Array.getElem?_eq_getElem hlt] at h ⊢
    exact h
  have g : ∀ k, (L.setIfInBounds j true).getD k false = if j = k then true else L.getD k false := fun k => getD_put' L j k (by omega)
  unfold missW
  simp only [g]
  obtain rfl | rfl | rfl | rfl | rfl | rfl | rfl : j = 0 ∨ j = 1 ∨ j = 2 ∨ j = 3 ∨ j = 4 ∨ j = 5 ∨ j = 6 := by omega
  all_goals (simp only [hf, if_true, reduceIte, Nat.reduceEqDiff, cond_true, cond_false]; try omega)

noncomputable abbrev oW (k : Nat) : Oper := (opsW[k]?).getD { dst := none, op := .move (.tmp 0), type := 0, pos := "", after := #[], guard := none }
/-- One of the four loads. -/
theorem load_step (hB : Boxes Wg C n i bp bl ba bi rdk vp vl W) (hS : Slots Wg C n i bp bl ba bi vp vl u T L) (hK : Kw rdk W w) {j : Nat} (hj : j < 4) (ds : List Deferred) :
    ∃ b, rdk b ∧ stepG PP false (G (bW.at ⟨T, ds⟩ [.inRegion opsW (j :: rest)]) [bot]) w = .go (G (bW.at ⟨T.setIfInBounds (j + 5) (valW C n i vp vl u j), ds⟩ [.inRegion opsW rest]) [bot]) w #[⟨.cell ⟨b, 0, none⟩, false, false⟩] := by
  have cell : ∀ b, rdk b → w.cell? ⟨b, 0, none⟩ = W.cell? ⟨b, 0, none⟩ := fun b hb => cell_of_block (hK b hb) 0
  obtain rfl | rfl | rfl | rfl : j = 0 ∨ j = 1 ∨ j = 2 ∨ j = 3 := by omega
  · exact ⟨ba, hB.ra, step_load (P := PP) (main := false) (b := bW) (a := ⟨T, ds⟩) (kk := []) (cs := [bot]) (ops := opsW) (i := 0) (rest := rest) (o := oW 0) (t := 67) (x := .tmp 3) rfl rfl (by decide) rfl hS.s3 ((cell _ hB.ra).trans hB.all) Try.isAgg67 (fun w es => events_isAgg PP w es _) loudW⟩
  · exact ⟨bi, hB.ri, step_load (P := PP) (main := false) (b := bW) (a := ⟨T, ds⟩) (kk := []) (cs := [bot]) (ops := opsW) (i := 1) (rest := rest) (o := oW 1) (t := 3) (x := .tmp 4) rfl rfl (by decide) rfl hS.s4 ((cell _ hB.ri).trans hB.idx) Try.isAgg3 (fun w es => events_isAgg PP w es _) loudW⟩
  · exact ⟨bp, hB.rp, step_load (P := PP) (main := false) (b := bW) (a := ⟨T, ds⟩) (kk := []) (cs := [bot]) (ops := opsW) (i := 2) (rest := rest) (o := oW 2) (t := 23) (x := .tmp 1) rfl rfl (by decide) rfl hS.s1 ((cell _ hB.rp).trans hB.part) Try.isAgg23 (fun w es => events_isAgg PP w es _) loudW⟩
  · exact ⟨bl, hB.rl, step_load (P := PP) (main := false) (b := bW) (a := ⟨T, ds⟩) (kk := []) (cs := [bot]) (ops := opsW) (i := 3) (rest := rest) (o := oW 3) (t := 24) (x := .tmp 2) rfl rfl (by decide) rfl hS.s2 ((cell _ hB.rl).trans hB.left) Try.isAgg24 (fun w es => events_isAgg PP w es _) loudW⟩

theorem rowsElem : PP.elem 67 = 27 := by kernel_rfl
theorem rowsU : PP.underlying 67 = some (.slice (PP.elem 67)) := by kernel_rfl
theorem index_step (hlt : i < n) (hS : Slots Wg C n i bp bl ba bi vp vl v T L) (h0 : L.getD 0 false = true) (h1 : L.getD 1 false = true) (ds : List Deferred) :
    stepG PP false (G (bW.at ⟨T, ds⟩ [.inRegion opsW (5 :: rest)]) [bot]) w = .go (G (bW.at ⟨T.setIfInBounds 10 (.pointer (some ⟨C, i, none⟩)), ds⟩ [.inRegion opsW rest]) [bot]) w #[] := by
  have v5 : (⟨T, ds⟩ : Act).eval (.tmp 5) = .slice (some ⟨C, 0, none⟩) n n := hS.l 0 (by omega) h0
  have v6 : (⟨T, ds⟩ : Act).eval (.tmp 6) = .int .i64 i := hS.l 1 (by omega) h1
  have hSz : ∀ w, Sem.run PP (Go.sizeOf 27) w = .ok 1 w := Try.sizeOf27
  have c1 : (0 : Int) ≤ (i : Int) ∧ (i : Int) < (n : Int) := by omega
  have hi := run_indexAt_slice (P := PP) (w := w) 67 ⟨C, 0, none⟩ n n .i64 i rowsU
  rw [if_pos c1, rowsElem, hSz] at hi
  have he' := events_indexAt_slice (P := PP) (w := w) (es := #[]) 67 ⟨C, 0, none⟩ n n .i64 i rowsU c1
  have hop : (oW 5).op = .indexAddr 67 (.tmp 5) (.tmp 6) := rfl
  have hr : (execOp ((⟨T, ds⟩ : Act).eval) (oW 5)).run PP w = .ok (.value (.pointer (some ⟨C, i, none⟩))) w := by
    unfold execOp
    simp only [hop, v5, v6]
    simp [go_sem, hi]
    try simp [Addr.add]
  have he : listed PP bW.fn ⟨T, ds⟩ (oW 5) w = #[] := by
    unfold listed
    have : (execOp ((⟨T, ds⟩ : Act).eval) (oW 5)).events PP w #[] = #[] := by
      unfold execOp
      simp only [hop, v5, v6]
      simp [go_sem, he']
    rw [this]
    exact seen_none PP _
  have := stepG_value (main := false) (b := bW) (a := ⟨T, ds⟩) (k := []) (cs := [bot]) (rest := rest) (i := 5) (ops := opsW) (o := oW 5) rfl rfl (by decide) hr
  rw [this, he]
  rfl
end
end Go.Proofs.Ytgkakgibgfehaaa.Ph

namespace Go.Proofs.Ytgkakgibgfehaaa.Ph
open Go.Conc Go.ConcN Go.RowKit Go.Conc.Lib Go.ConcR.Gen Go.ConcN.Gen Go.Proofs.Ytgkakgibgfehaaa.Sim
open Go.ConcR (KK wgBlock WgAt stA smA rd wr mk Payload DC0)

section
variable {sh : Nat → Nat} {FL : Array Func} {Q : Nat → Value → World → Prop} {PV : Nat → Value → Nat → Obj → Prop} {Wg C n i bp bl ba bi : Nat} {rdk : Nat → Prop} {vp vl u v : Value} {W w : World} {T : Array Value} {L : Array Bool} {rest : List Nat}

theorem Kw.rely {w₁ : World} (h : Kw rdk W w) (r : RWk tyW Wg C n i rdk w w₁) : Kw rdk W w₁ := fun b hb => (r.keep b hb).trans (h b hb)

/-- All has come up: out of the region, into the deferred Done. -/
theorem post_end : PostW Wg C n i bp bl ba bi rdk vp vl W v L [] ∨ L.getD 6 false = false := by
  cases h6 : L.getD 6 false with
  | false => exact .inr rfl
  | true =>
    left
    refine ⟨0, 5, fun T w _ _ hlive _ hhas => ?_⟩
    have hh := hhas h6
    have keep : ∀ {w w₁ : World}, WgLive tyW Wg w ∧ Has C i v w → RWk tyW Wg C n i rdk w w₁ → WgLive tyW Wg w₁ ∧ Has C i v w₁ := fun h r => ⟨r.low.live h.1, r.low.cell.trans h.2⟩
    have hK : WgLive tyW Wg w ∧ Has C i v w := ⟨hlive, hh⟩
    clear hlive hh hhas
    refine Goes.step rfl fun w₁ h₁ => ?_
    replace hK := keep hK h₁
    clear h₁
    rw [stepG_region_end]
    refine ⟨⟨rfl, rfl⟩, ?_⟩
    refine Goes.step rfl fun w₂ h₂ => ?_
    replace hK := keep hK h₂
    clear h₂
    rw [stepG_end]
    refine ⟨⟨rfl, rfl⟩, ?_⟩
    refine Goes.step rfl fun w₃ h₃ => ?_
    replace hK := keep hK h₃
    clear h₃
    rw [stepG_unwind_enter rfl PP.link.f_done (nm_done Try.link) (show (doneFn Try.link).body = some (body_done Try.link) from rfl)]
    refine ⟨⟨rfl, rfl⟩, Goes.stop fun w₄ h₄ => ?_⟩
    replace hK := keep hK h₄
    refine ⟨23, .r0 ?_⟩
    have hA := doneN PP.link (Own := fun _ _ => False) (Rd := fun _ _ => False) (Wg := Wg) (C := C) (n := n) (Low := 0) (k := i + 1) (val := v) (c := { bW.at ⟨T, []⟩ [] with mode := .returning }) (cs := [bot]) rfl (quitsTail T) w₄ hK
    exact hA

/-- EVERY ORDER. -/
theorem orders (hB : Boxes Wg C n i bp bl ba bi rdk vp vl W) (hC : Begin sh FL Q PV i rdk W vp vl) : ∀ (f t : Nat) (L : Array Bool), KR sh FL Q PV Wg C n i bp bl ba bi rdk vp vl W f L (Region.linearise.go .any opsW f t L []) := by
  refine lin_any _ (fun L hL hm _ => ?_) (fun f L hr hL hm _ => ?_) (fun f L j rest hj ih hL hm h64 => ?_)
  · have h6 : L.getD 6 false = true := by
      cases h : L.getD 6 false with
      | true => rfl
      | false => unfold missW at hm; rw [h, cond_false] at hm; omega
    have h4 : L.getD 4 false = true := by
      cases h : L.getD 4 false with
      | true => rfl
      | false => unfold missW at hm; rw [h, cond_false] at hm; omega
    refine ⟨fun x => (by rw [h4] at x; cases x), fun _ v _ => ?_⟩
    rcases post_end (Wg := Wg) (C := C) (n := n) (i := i) (bp := bp) (bl := bl) (ba := ba) (bi := bi) (rdk := rdk) (vp := vp) (vl := vl) (v := v) (W := W) (L := L) with h | h
    · exact h
    · rw [h6] at h; cases h
  · have hall := ready_some hL hr
    unfold missW at hm
    rw [hall 0 (by omega), hall 1 (by omega), hall 2 (by omega), hall 3 (by omega), hall 4 (by omega), hall 5 (by omega), hall 6 (by omega)] at hm
    simp only [cond_true] at hm
    omega
  · obtain ⟨hj7, hjf, a4, a5, a6⟩ := ready_ahead hj
    have hms := missW_set hL hj7 hjf
    have hjf' : L.getD j false = false := by
      have hlt : j < L.size := by omega
      rw [Array.getD_eq_getD_getElem?, Array.getElem?_eq_getElem hlt] at hjf ⊢
      exact hjf
    have g : ∀ k, (L.setIfInBounds j true).getD k false = if j = k then true else L.getD k false := fun k => getD_put' L j k (by omega)
    obtain ⟨i1, i2⟩ := ih (by simpa using hL) (by omega) (fun h6 => by
      rw [g] at h6 ⊢
      by_cases e : j = 4
      · rw [if_pos e]
      · rw [if_neg e]
        by_cases e6 : j = 6
        · exact (a6 e6).1
        · rw [if_neg e6] at h6; exact h64 h6)
    have idle : ∀ w : World, MW C i rdk w w #[] := fun w => .inl ⟨w.drawn, rfl, by simp⟩
    rcases Nat.lt_or_ge j 4 with hj4 | hj4
    · -- a load
      have e4 : (L.setIfInBounds j true).getD 4 false = L.getD 4 false := by rw [g, if_neg (by omega)]
      have e6 : (L.setIfInBounds j true).getD 6 false = L.getD 6 false := by rw [g, if_neg (by omega)]
      refine ⟨fun h4 => ?_, fun h4 v hv => ?_⟩
      · obtain ⟨k, hk7, hk⟩ := i1 (by rw [e4]; exact h4)
        refine ⟨k + 1, by omega, fun T w u hS hK => Goes.stop fun w₁ h₁ => ?_⟩
        have hK1 := hK.rely h₁
        obtain ⟨b, hb, hst⟩ := load_step (rest := rest) hB hS hK1 hj4 (dsW Wg)
        exact .inr ⟨rfl, _, _, _, hst, .inl ⟨w₁.drawn, rfl, fun e he => ⟨⟨b, 0, none⟩, by simpa using he, hb⟩⟩, 0, hk _ _ u (hS.put hL (fun _ => rfl) (by omega)) hK1⟩
      · obtain ⟨k, m, hk⟩ := i2 (by rw [e4]; exact h4) v hv
        refine ⟨k + 1, 0, fun T w hS hK hl hp hh => Goes.stop fun w₁ h₁ => ?_⟩
        have hK1 := hK.rely h₁
        obtain ⟨b, hb, hst⟩ := load_step (rest := rest) hB hS hK1 hj4 (dsW Wg)
        exact .inr ⟨rfl, _, _, _, hst, .inl ⟨w₁.drawn, rfl, fun e he => ⟨⟨b, 0, none⟩, by simpa using he, hb⟩⟩, m, hk _ _ (hS.put hL (fun _ => rfl) (by omega)) hK1 (h₁.low.live hl) (h₁.low.pay hp) (fun x => h₁.low.cell.trans (hh (by rw [← e6]; exact x)))⟩
    · obtain rfl | rfl | rfl : j = 4 ∨ j = 5 ∨ j = 6 := by omega
      · -- the call
        obtain ⟨b2, b3⟩ := a4 rfl
        refine ⟨fun _ => ?_, fun h4 => (by rw [hjf'] at h4; cases h4)⟩
        refine ⟨1, by omega, fun T w u hS hK => Goes.stop fun w₁ h₁ => ?_⟩
        have hK1 := hK.rely h₁
        have v7 : (⟨T, dsW Wg⟩ : Act).eval (.tmp 7) = vp := hS.l 2 (by omega) b2
        have v8 : (⟨T, dsW Wg⟩ : Act).eval (.tmp 8) = vl := hS.l 3 (by omega) b3
        have hst := step_call (P := PP) (main := false) (b := bW) (a := ⟨T, dsW Wg⟩) (kk := []) (cs := [bot]) (w := w₁) (ops := opsW) (i := 4) (rest := rest) (o := oW 4) rfl rfl (by decide) rfl PP.fPart nmPart bodyPart
        have hargs : (#[Operand.tmp 7, Operand.tmp 8].map (⟨T, dsW Wg⟩ : Act).eval) = #[vp, vl] := by simp [v7, v8]
        rw [hargs] at hst
        refine .inr ⟨rfl, _, _, _, hst, idle w₁, 0, Goes.stop fun w₂ h₂ => ?_⟩
        have hK2 := hK1.rely h₂
        obtain ⟨Fz, R, w0, args0, hM, hF, hN, hl, ho, hR⟩ := hC.start w₂ hK2
        refine ⟨_, [], w0, Fz, R, _, [], _, [bot], W, rfl, hM, hF, .nil, hN, hl, ho, fun b b' x => .inl (hR b b' x), hK2, ?_⟩
        intro mine' R' w1 v v' w' hq hv hn hR' hlive hpay hKw
        obtain ⟨rb, ro, pa, l, c, hv', hm', hro, hpv⟩ := hC.fin Fz mine' R' w1 v v' w' hq hv hn hR'
        refine ⟨rb, ro, hm', hro, hpv, ?_⟩
        obtain ⟨k, m, hk⟩ := i2 (by rw [g, if_pos rfl]) v' ⟨pa, l, c, hv'⟩
        refine ⟨k, m, ?_⟩
        rw [Frame.finish_at]
        exact hk (T.setIfInBounds 9 v') w' (hS.put hL (fun x => by rw [hjf'] at x; cases x) (by omega)) hKw hlive hpay (fun x => by
          rw [g, if_neg (by omega)] at x
          rw [h64 x] at hjf'
          cases hjf')
      · -- the element's address
        obtain ⟨b0, b1, b4⟩ := a5 rfl
        refine ⟨fun h4 => (by rw [b4] at h4; cases h4), fun h4 v hv => ?_⟩
        obtain ⟨k, m, hk⟩ := i2 (by rw [g, if_neg (by omega)]; exact h4) v hv
        refine ⟨k + 1, 0, fun T w hS hK hl hp hh => Goes.stop fun w₁ h₁ => ?_⟩
        have hK1 := hK.rely h₁
        exact .inr ⟨rfl, _, _, _, index_step hB.lt hS b0 b1 (dsW Wg), idle w₁, m, hk _ _ (hS.put hL (fun _ => rfl) (by omega)) hK1 (h₁.low.live hl) (h₁.low.pay hp) (fun x => h₁.low.cell.trans (hh (by rw [g, if_neg (by omega)] at x; exact x)))⟩
      · -- the store
        obtain ⟨b4, b5⟩ := a6 rfl
        refine ⟨fun h4 => (by rw [b4] at h4; cases h4), fun h4 v hv => ?_⟩
        obtain ⟨k, m, hk⟩ := i2 (by rw [g, if_neg (by omega)]; exact h4) v hv
        obtain ⟨pa, l, c, rfl⟩ := hv
        refine ⟨k + 1, 0, fun T w hS hK hl hp hh => Goes.stop fun w₁ h₁ => ?_⟩
        have hK1 := hK.rely h₁
        have hp1 := h₁.low.pay hp
        have v9 : (⟨T, dsW Wg⟩ : Act).eval (.tmp 9) = .slice pa l c := hS.l 4 (by omega) b4
        have v10 : (⟨T, dsW Wg⟩ : Act).eval (.tmp 10) = .pointer (some ⟨C, i, none⟩) := hS.l 5 (by omega) b5
        have hlt := hB.lt
        obtain ⟨arr, q1, q2⟩ := hp1
        have hc : w₁.cell? ⟨C, i, none⟩ = some (arr[i]'(by omega)) := by simp [World.cell?, q1, q2, hlt]
        have hz : w₁.frozen? ⟨C, i, none⟩ = false := by simp [World.frozen?, q1]
        have hst := step_store (P := PP) (main := false) (b := bW) (a := ⟨T, dsW Wg⟩) (kk := []) (cs := [bot]) (w := w₁) (ops := opsW) (i := 6) (rest := rest) (o := oW 6) (t := 27) (x := .tmp 10) (y := .tmp 9) rfl rfl (by decide) rfl v10 v9 hc hz Try.sizeOf27 loudW
        have hA : Aside C w₁ (w₁.setCell ⟨C, i, none⟩ (.slice pa l c)) := aside_setCell w₁ ⟨C, i, none⟩ _
        have hb : (w₁.setCell ⟨C, i, none⟩ (.slice pa l c)).heap[C]? = some (.cells (arr.setIfInBounds i (.slice pa l c)) Payload.ety) := by simp [World.setCell, Array.getElem?_modify, q1]
        refine .inr ⟨rfl, _, _, _, hst, .inr ⟨.slice pa l c, rfl, rfl⟩, m, hk T _ (hS.put6 hL) (fun b hb' => (hA.block b fun e => hB.nC (e ▸ hb')).trans (hK1 b hb')) ?_ ⟨_, hb, by simpa using q2⟩ (fun _ => by simp [Has, World.cell?, hb, q2, hlt])⟩
        obtain ⟨st, sm, hx⟩ := h₁.low.live hl
        exact ⟨st, sm, hx.of_block (hA.block Wg (Ne.symm hB.CW))⟩

set_option maxHeartbeats 1600000 in
/-- THE WORKER's WHOLE SCRIPT. -/
theorem worker_script (hB : Boxes Wg C n i bp bl ba bi rdk vp vl W) (hC : Begin sh FL Q PV i rdk W vp vl) (hK : Kw rdk W w) :
    ∃ k m, TW PP tyW Wg C n i rdk k m (AtSim (okW sh) tabs FL fsC tyW Wg C n Q PV i rdk) (born PP (callW Wg bp bl ba bi)) w := by
  refine ⟨9, 6, ?_⟩
  have keep : ∀ {w w₁ : World}, Kw rdk W w → RWk tyW Wg C n i rdk w w₁ → Kw rdk W w₁ := fun h r => h.rely r
  refine Goes.step rfl fun w₁ h₁ => ?_
  replace hK := keep hK h₁
  clear h₁
  rw [born_step]
  refine ⟨⟨rfl, rfl⟩, ?_⟩
  simp only [bodyW, Try.f86, Option.getD_some]
  refine Goes.step rfl fun w₂ h₂ => ?_
  replace hK := keep hK h₂
  clear h₂
  rw [stepG_seq]
  refine ⟨⟨rfl, rfl⟩, ?_⟩
  refine Goes.step rfl fun w₃ h₃ => ?_
  replace hK := keep hK h₃
  clear h₃
  rw [stepG_region]
  refine ⟨⟨rfl, rfl⟩, ?_⟩
  simp only [List.size_toArray, List.length_cons, List.length_nil, Nat.zero_add, List.range, List.range.loop]
  refine Goes.step rfl fun w₄ h₄ => ?_
  replace hK := keep hK h₄
  clear h₄
  rw [stepG_defer rfl rfl (by decide) rfl]
  refine ⟨⟨rfl, rfl⟩, ?_⟩
  walk_nrm
  refine Goes.step rfl fun w₅ h₅ => ?_
  replace hK := keep hK h₅
  clear h₅
  rw [stepG_region_end]
  refine ⟨⟨rfl, rfl⟩, ?_⟩
  refine Goes.stop fun w₆ h₆ => .inr ?_
  replace hK := keep hK h₆
  refine ⟨rfl, _, _, _, stepG_region_draw, .inl ⟨w₆.drawn + 1, rfl, by simp⟩, 0, ?_⟩
  obtain ⟨i1, -⟩ := orders (W := W) hB hC 7 (w₆.tape w₆.drawn (.order bW.fn 1)) (Array.replicate 7 false) (by simp) (by simp [missW]) (by simp)
  obtain ⟨k, hk7, hk⟩ := i1 (by simp)
  have hsched : Region.schedule (PP.follows .mixedOrders) opsW (w₆.tape w₆.drawn (.order bW.fn 1)) = Region.linearise.go .any opsW 7 (w₆.tape w₆.drawn (.order bW.fn 1)) (Array.replicate 7 false) [] := sched_any PP _
  have := (hk #[ptr Wg, ptr bp, ptr bl, ptr ba, ptr bi, undef, undef, undef, undef, undef, undef] { w₆ with drawn := w₆.drawn + 1 } undef ⟨rfl, rfl, rfl, rfl, rfl, rfl, fun k hk hl => by
    have : (Array.replicate 7 false).getD k false = false := by
      rw [Array.getD_eq_getD_getElem?, Array.getElem?_replicate]
      split <;> rfl
    rw [this] at hl
    cases hl⟩ hK).upto (k' := 8) (by omega)
  rw [← hsched] at this
  exact this
end
end Go.Proofs.Ytgkakgibgfehaaa.Ph

namespace Go.Proofs.Ytgkakgibgfehaaa.Ph
open Go.Conc Go.ConcN Go.RowKit
section
variable {main : Bool} {b : Frame} {a : Act} {kk : List Item} {cs : List Frame} {w : World} {ops : Array Oper} {i : Nat} {rest : List Nat} {o : Oper}
theorem move_step {x : Operand} {v : Value} (ho : ops[i]? = some o) (hw : Region.wanted o (yielded ops a.tmps) = true) (hk : b.kind ≠ .early) (hop : o.op = .move x) (hx : a.eval x = v) :
    stepG PP main (G (b.at a (.inRegion ops (i :: rest) :: kk)) cs) w = .go (G (b.at (a.put o.dst v) (.inRegion ops rest :: kk)) cs) w #[] := by
  have hr : (execOp a.eval o).run PP w = .ok (.value v) w := by
    unfold execOp
    simp only [hop, hx]
    simp [go_sem]
  have he : (execOp a.eval o).events PP w #[] = #[] := by
    unfold execOp
    simp only [hop, hx]
    simp [go_sem]
  rw [stepG_value ho hw hk hr]
  unfold listed
  rw [he, seen_none]
theorem lss_step {x y : Operand} {m n : Int} (ho : ops[i]? = some o) (hw : Region.wanted o (yielded ops a.tmps) = true) (hk : b.kind ≠ .early) (hop : o.op = .binOp .lss 3 x y 3) (hx : a.eval x = .int .i64 m) (hy : a.eval y = .int .i64 n) :
    stepG PP main (G (b.at a (.inRegion ops (i :: rest) :: kk)) cs) w = .go (G (b.at (a.put o.dst (.bool (decide (m < n)))) (.inRegion ops rest :: kk)) cs) w #[] := by
  have hr : (execOp a.eval o).run PP w = .ok (.value (.bool (decide (m < n)))) w := by
    unfold execOp
    simp only [hop, hx, hy]
    simp [go_sem]
  have he : (execOp a.eval o).events PP w #[] = #[] := by
    unfold execOp
    simp only [hop, hx, hy]
    simp [go_sem]
  rw [stepG_value ho hw hk hr]
  unfold listed
  rw [he, seen_none]
theorem add_step {x y : Operand} {m n : Int} (ho : ops[i]? = some o) (hw : Region.wanted o (yielded ops a.tmps) = true) (hk : b.kind ≠ .early) (hop : o.op = .binOp .add 3 x y 3) (hx : a.eval x = .int .i64 m) (hy : a.eval y = .int .i64 n) :
    stepG PP main (G (b.at a (.inRegion ops (i :: rest) :: kk)) cs) w = .go (G (b.at (a.put o.dst (.int .i64 (IntKind.wrap .i64 (m + n)))) (.inRegion ops rest :: kk)) cs) w #[] := by
  have hr : (execOp a.eval o).run PP w = .ok (.value (.int .i64 (IntKind.wrap .i64 (m + n)))) w := by
    unfold execOp
    simp only [hop, hx, hy]
    simp [go_sem]
  have he : (execOp a.eval o).events PP w #[] = #[] := by
    unfold execOp
    simp only [hop, hx, hy]
    simp [go_sem]
  rw [stepG_value ho hw hk hr]
  unfold listed
  rw [he, seen_none]
theorem func_step {f : FuncId} {p q r s u : Operand} (ho : ops[i]? = some o) (hw : Region.wanted o (yielded ops a.tmps) = true) (hk : b.kind ≠ .early) (hop : o.op = .makeFunc (.func f) #[] #[p, q, r, s, u]) :
    stepG PP main (G (b.at a (.inRegion ops (i :: rest) :: kk)) cs) w = .go (G (b.at (a.put o.dst (.func (.func f) #[] #[a.eval p, a.eval q, a.eval r, a.eval s, a.eval u])) (.inRegion ops rest :: kk)) cs) w #[] := by
  have hr : (execOp a.eval o).run PP w = .ok (.value (.func (.func f) #[] #[a.eval p, a.eval q, a.eval r, a.eval s, a.eval u])) w := by
    unfold execOp
    simp only [hop]
    simp [go_sem, Instr.makeFunc]
    try rfl
  have he : (execOp a.eval o).events PP w #[] = #[] := by
    unfold execOp
    simp only [hop]
    simp [go_sem, Instr.makeFunc]
  rw [stepG_value ho hw hk hr]
  unfold listed
  rw [he, seen_none]
theorem spawn_step {f : FuncId} {x : Operand} {c : Array Value} (ho : ops[i]? = some o) (hw : Region.wanted o (yielded ops a.tmps) = true) (hk : b.kind ≠ .early) (hop : o.op = .go { callee := .value x, args := #[], argTypes := #[] }) (hx : a.eval x = .func (.func f) #[] c) :
    stepG PP main (G (b.at a (.inRegion ops (i :: rest) :: kk)) cs) w = .spawn (G (b.at (a.put o.dst undef) (.inRegion ops rest :: kk)) cs) (born PP { target := .fn (.func f) c, args := #[] }) w #[] := by
  have hr : (execOp a.eval o).run PP w = .ok (.spawn { target := .fn (.func f) c, args := #[] }) w := by
    unfold execOp
    simp only [hop, resolve, hx]
    simp [go_sem]
  have he : (execOp a.eval o).events PP w #[] = #[] := by
    unfold execOp
    simp only [hop, resolve, hx]
    simp [go_sem]
  rw [stepG_spawn ho hw hk hr rfl]
  unfold listed
  rw [he, seen_none]
end
end Go.Proofs.Ytgkakgibgfehaaa.Ph
