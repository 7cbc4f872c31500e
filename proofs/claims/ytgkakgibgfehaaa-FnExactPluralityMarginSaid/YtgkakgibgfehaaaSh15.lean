/-
  MANY WORKERS THAT MAKE THINGS, STARTED BY GOROUTINE 0 WHILE OLDER GOROUTINES ONLY LEAVE: THE TRACE. 'TI': what is held of the trace while the phase is under way; it grows by operations of goroutine 0's, of a worker's, of one that leaves, by a go statement; what it says at the end, when goroutine 0 has acquired what all have released. No condition but what each theorem says.
  MADE BY PROGRAM (gen_phb.py): sync.WaitGroup's Add(1) and Wait, as goroutine 0 goes through them while workers of its own, which make things, are at work: under whatever rely keeps the group's block one and keeps a fact 'F' of goroutine 0's own. What is said at each step that is told apart: 'Ad1' .. (Add), 'Wt1' .. (Wait). By the library's words for such steps. No condition but what each theorem says.
  MANY WORKERS THAT MAKE THINGS: WHERE EACH STANDS. A worker's script: its way to the call that is simulated (a lone contract's tree of steps goes with it), its way behind it to the deferred Done, then the library's words. Goroutine 0's script: rounds of making, the group's Add(1), the go statement; then Wait. 'Crew': what is held at every moment of the machine, the trace, the blocks and their owners. No condition but what each theorem says.
  MANY WORKERS THAT MAKE THINGS: 'Crew' IS KEPT: by a step of a worker's, or of one that leaves; by a step of goroutine 0's; by a go statement. No condition but what each theorem says.
-/
import Derived.Test.YtgkakgibgfehaaaSh14
import Derived.Conc.CrowdRun
import Derived.Conc.WgGenN3
namespace Go.Proofs.Ytgkakgibgfehaaa.Ph
open Go.Conc Go.ConcN Go.Proofs.Ytgkakgibgfehaaa.Sim
open Go.ConcR (stA smA rd wr mk Bk g_of_ofEvents loc_of_ofEvent)

/-- From operation t0 on nobody has said a release of this group's. -/
def NR (t0 Wg : Nat) (t : Trace) : Prop := ∀ i, t0 ≤ i → t.act? i ≠ some (.mark (.release (stA Wg)))
theorem NR.app {t0 Wg : Nat} {t u : Trace} (h : NR t0 Wg t) (hu : ∀ op ∈ u, op.act ≠ .mark (.release (stA Wg))) : NR t0 Wg (t ++ u) := by
  intro i hi e
  rcases Nat.lt_or_ge i t.size with hlt | hge
  · exact h i hi ((act?_old hlt).symm.trans e)
  · obtain ⟨op, ho, e'⟩ := Option.map_eq_some_iff.1 e
    rcases getElem?_append_cases ho with ⟨hx, _⟩ | ⟨_, hx⟩
    · omega
    · exact hu op hx e'
theorem low_any (act : MemAct) : ∃ B, act.low B := by
  cases act with
  | access ev =>
    obtain ⟨loc, wr, sy⟩ := ev
    cases loc with
    | cell a => exact ⟨a.block + 1, Nat.lt_succ_self _⟩
    | obj r => exact ⟨r + 1, Nat.lt_succ_self _⟩
    | _ => exact ⟨0, trivial⟩
  | mark m =>
    cases m with
    | acquire a | release a | releaseMerge a | read a | write a => exact ⟨a.block + 1, Nat.lt_succ_self _⟩
    | _ => exact ⟨0, trivial⟩
  | send c _ | sendDone c _ | recv c _ _ | recvDone c _ | close c | recvClosed c => exact ⟨c + 1, Nat.lt_succ_self _⟩
  | _ => exact ⟨0, trivial⟩
theorem seen_any (t : Trace) : ∃ B, ∀ op ∈ t, op.act.low B := by
  obtain ⟨l⟩ := t
  induction l with
  | nil => exact ⟨0, fun op h => by simp at h⟩
  | cons x l ih =>
    obtain ⟨B1, h1⟩ := ih
    obtain ⟨B2, h2⟩ := low_any x.act
    refine ⟨max B1 B2, fun op h => ?_⟩
    simp only [List.mem_toArray, List.mem_cons] at h
    rcases h with rfl | h
    · exact MemAct.low_mono (Nat.le_max_right _ _) h2
    · exact MemAct.low_mono (Nat.le_max_left _ _) (h1 op (by simpa using h))
theorem low_app {B B' : Nat} {t u : Trace} (h : ∀ op ∈ t, ∀ y, op.act.touch? = some y → y.loc.low B) (hB : B ≤ B') (hu : ∀ op ∈ u, ∀ y, op.act.touch? = some y → y.loc.low B') : ∀ op ∈ t ++ u, ∀ y, op.act.touch? = some y → y.loc.low B' :=
  fun op hop y hy => (Array.mem_append.1 hop).elim (fun x => Loc.low_mono hB (h op x y hy)) fun x => hu op x y hy

structure TI (Sb : Nat → Prop) (Wg : Nat) (Own Rd : Nat → Loc → Prop) (B j0 t0 j : Nat) (t : Trace) : Prop where
  ct : CT (shun Sb) Own Rd t (j0 + j)
  norel : NR t0 Wg t
  from0 : t0 ≤ t.size
  born : ∀ i g, i < t0 → t.g? i = some g → g ≤ j0
  known : ∀ i a, touchAt t i = some a → Knows t 0 i ∨ (shun Sb a.loc ∧ a.kind = .atomic) ∨ (∃ k, j0 < k ∧ t.g? i = some k ∧ a.kind = .plain ∧ a.loc.isMemory = true)
  over : ∀ i g, t.g? i = some g → g ≠ 0 → g ≤ j0 → t.counts i → ∃ j, t.g? j = some 0 ∧ HappensBefore t i j
  low : ∀ op ∈ t, ∀ y, op.act.touch? = some y → y.loc.low B

section
variable {Sb : Nat → Prop} {Wg : Nat} {Own Rd Own' : Nat → Loc → Prop} {B B' j0 t0 j : Nat} {t u : Trace}

theorem gq_of {t : Trace} {i g : Nat} (h : t.g? i = some g) : ∃ op, t[i]? = some op ∧ op.g = g := by
  unfold Trace.g? at h
  exact Option.map_eq_some_iff.1 h
theorem over_app (h : ∀ i g, t.g? i = some g → g ≠ 0 → g ≤ j0 → t.counts i → ∃ j, t.g? j = some 0 ∧ HappensBefore t i j) (hu : ∀ op ∈ u, op.g = 0 ∨ j0 < op.g ∨ op.act.touch? = none) :
    ∀ i g, (t ++ u).g? i = some g → g ≠ 0 → g ≤ j0 → (t ++ u).counts i → ∃ j, (t ++ u).g? j = some 0 ∧ HappensBefore (t ++ u) i j := by
  intro i g hg hne hle hc
  obtain ⟨x, hx, hxm⟩ := hc
  obtain ⟨op, hop, hox⟩ := touch_of hx
  rcases getElem?_append_cases hop with ⟨hi, hop'⟩ | ⟨_, hopu⟩
  · obtain ⟨j, hj, hb⟩ := h i g (by simpa [Trace.g?, getElem?_append_old hi] using hg) hne hle ((counts_old hi).1 ⟨x, hx, hxm⟩)
    obtain ⟨z, hz, -⟩ := gq_of hj
    exact ⟨j, by simpa [Trace.g?, getElem?_append_old (lt_size_of_getElem? hz)] using hj, hb_app u hb⟩
  · have hgo : op.g = g := by simpa [Trace.g?, hop] using hg
    rcases hu op hopu with h0 | h0 | h0
    · exact absurd (hgo.symm.trans h0) hne
    · omega
    · rw [h0] at hox; cases hox
theorem known_app (h : ∀ i a, touchAt t i = some a → Knows t 0 i ∨ (shun Sb a.loc ∧ a.kind = .atomic) ∨ (∃ k, j0 < k ∧ t.g? i = some k ∧ a.kind = .plain ∧ a.loc.isMemory = true))
    (hu : ∀ op ∈ u, ∀ x, op.act.touch? = some x → op.g = 0 ∨ (j0 < op.g ∧ ((shun Sb x.loc ∧ x.kind = .atomic) ∨ (x.kind = .plain ∧ x.loc.isMemory = true)))) :
    ∀ i a, touchAt (t ++ u) i = some a → Knows (t ++ u) 0 i ∨ (shun Sb a.loc ∧ a.kind = .atomic) ∨ (∃ k, j0 < k ∧ (t ++ u).g? i = some k ∧ a.kind = .plain ∧ a.loc.isMemory = true) := by
  intro i a ha
  obtain ⟨x, hx, hxa⟩ := touch_of ha
  rcases getElem?_append_cases hx with ⟨hi, hx'⟩ | ⟨_, hxu⟩
  · rcases h i a (by rw [touchAt_of hx']; exact hxa) with h | h | ⟨k, h1, h2, h3⟩
    · exact .inl (h.app u)
    · exact .inr (.inl h)
    · exact .inr (.inr ⟨k, h1, by rw [g?_old hi]; exact h2, h3⟩)
  · rcases hu x hxu a hxa with h0 | ⟨h1, h2 | h2⟩
    · have := knows_own hx
      rw [h0] at this
      exact .inl this
    · exact .inr (.inl h2)
    · exact .inr (.inr ⟨x.g, h1, by simp [Trace.g?, hx], h2.1, h2.2⟩)

theorem TI.app0 (A : Apart (shun Sb) Own Rd) (h : TI Sb Wg Own Rd B j0 t0 j t) (hu : ∀ op ∈ u, Ok0 (shun Sb) Own Rd (j0 + j) op) (hn : ∀ op ∈ u, op.act ≠ .mark (.release (stA Wg))) (hB : B ≤ B') (hl : ∀ op ∈ u, ∀ y, op.act.touch? = some y → y.loc.low B') : TI Sb Wg Own Rd B' j0 t0 j (t ++ u) :=
  ⟨h.ct.app0 A hu, h.norel.app hn, by have := h.from0; simp; omega, fun i g hi hg => h.born i g hi (by rw [← g?_old (u := u) (Nat.lt_of_lt_of_le hi h.from0)]; exact hg), known_app h.known fun op hop _ _ => .inl (hu op hop).1, over_app h.over fun op hop => .inl (hu op hop).1, low_app h.low hB hl⟩
theorem TI.appW (A : Apart (shun Sb) Own Rd) (h : TI Sb Wg Own Rd B j0 t0 j t) {k : Nat} (k1 : 1 ≤ k) (kj : k ≤ j0 + j) (hu : ∀ op ∈ u, OkW (shun Sb) Own Rd k op)
    (hp : ∀ op ∈ u, ∀ x, op.act.touch? = some x → j0 < k ∧ ((shun Sb x.loc ∧ x.kind = .atomic) ∨ (x.kind = .plain ∧ x.loc.isMemory = true))) (hn : ∀ op ∈ u, op.act ≠ .mark (.release (stA Wg))) (hB : B ≤ B') (hl : ∀ op ∈ u, ∀ y, op.act.touch? = some y → y.loc.low B') : TI Sb Wg Own Rd B' j0 t0 j (t ++ u) := by
  refine ⟨h.ct.appW A k1 kj hu, h.norel.app hn, by have := h.from0; simp; omega, fun i g hi hg => h.born i g hi (by rw [← g?_old (u := u) (Nat.lt_of_lt_of_le hi h.from0)]; exact hg), known_app h.known fun op hop x hx => ?_, over_app h.over fun op hop => ?_, low_app h.low hB hl⟩
  · obtain ⟨h1, h2⟩ := hp op hop x hx
    exact .inr ⟨by rw [(hu op hop).1]; exact h1, h2⟩
  · cases hx : op.act.touch? with
    | none => exact .inr (.inr rfl)
    | some x => exact .inr (.inl (by rw [(hu op hop).1]; exact (hp op hop x hx).1))
/-- New blocks are given to one who makes them. -/
theorem TI.grow (h : TI Sb Wg Own Rd B j0 t0 j t) (hO : ∀ k l, Own k l → Own' k l) (hf : ∀ k l, Own' k l → Own k l ∨ ∃ b, B ≤ b ∧ ((∃ a, l = .cell a ∧ a.block = b) ∨ l = .obj b)) : TI Sb Wg Own' Rd B j0 t0 j t := by
  refine ⟨ct_grow h.ct hO fun k l hl => (hf k l hl).imp id ?_, h.norel, h.from0, h.born, h.known, h.over, h.low⟩
  rintro ⟨b, hb, hl⟩ i a ha e
  obtain ⟨op, ho, hx⟩ := touch_of ha
  obtain ⟨hi, rfl⟩ := Array.getElem?_eq_some_iff.1 ho
  have key := h.low _ (Array.getElem_mem hi) a hx
  rw [e] at key
  rcases hl with ⟨x, rfl, rfl⟩ | rfl
  · exact absurd key (Nat.not_lt.2 hb)
  · exact absurd key (Nat.not_lt.2 hb)
theorem TI.turn {Rd' : Nat → Loc → Prop} (h : TI Sb Wg Own Rd B j0 t0 j t) (hO : ∀ k l, 1 ≤ k → k ≤ j0 + j → (Own' k l ↔ Own k l)) (hR : ∀ k l, 1 ≤ k → k ≤ j0 + j → (Rd' k l ↔ Rd k l)) : TI Sb Wg Own' Rd' B j0 t0 j t :=
  ⟨ct_turn h.ct hO hR, h.norel, h.from0, h.born, h.known, h.over, h.low⟩
theorem TI.fork (A : Apart (shun Sb) Own Rd) (h : TI Sb Wg Own Rd B j0 t0 j t) {x y : MemOp} (hx : x.g = 0 ∧ x.act = .go (j0 + j + 1)) (hy : y.g = j0 + j + 1 ∧ y.act = .start) (h0 : Deaf t 0 = 0) : TI Sb Wg Own Rd B j0 t0 (j + 1) (t ++ #[x, y]) := by
  have hm : ∀ op ∈ #[x, y], op = x ∨ op = y := by intro op hop; simpa using hop
  have hnt : ∀ op ∈ #[x, y], op.act.touch? = none := by
    intro op hop
    rcases hm op hop with rfl | rfl
    · rw [hx.2]; rfl
    · rw [hy.2]; rfl
  refine ⟨by have := h.ct.fork A hx hy h0; rwa [Nat.add_assoc] at this, h.norel.app fun op hop => ?_, by have := h.from0; simp; omega, fun i g hi hg => h.born i g hi (by rw [← g?_old (u := #[x, y]) (Nat.lt_of_lt_of_le hi h.from0)]; exact hg), known_app h.known (fun op hop z hz => by rw [hnt op hop] at hz; cases hz), over_app h.over fun op hop => .inr (.inr (hnt op hop)), low_app h.low (Nat.le_refl _) fun op hop z hz => by rw [hnt op hop] at hz; cases hz⟩
  · rcases hm op hop with rfl | rfl
    · rw [hx.2]; simp
    · rw [hy.2]; simp

/-- Goroutine 0 has said 'acquire', hearing, behind every worker's release. -/
def Acq (Wg j0 j : Nat) (t : Trace) : Prop := ∃ q, t.act? q = some (.mark (.acquire (stA Wg))) ∧ t.g? q = some 0 ∧ t.heard q ∧ ∀ i, i < j → ∃ r, RelBy (stA Wg) t (j0 + 1 + i) r ∧ r < q
theorem TI.told (h : TI Sb Wg Own Rd B j0 t0 j t) (hA : Acq Wg j0 j t) {i k : Nat} (hk : j0 < k) (hg : t.g? i = some k) (hc : t.counts i) : ∃ q, t.g? q = some 0 ∧ HappensBefore t i q := by
  obtain ⟨q, h1, h2, h3, h4⟩ := hA
  obtain ⟨op, ho, rfl⟩ := gq_of hg
  have := h.ct.gs i op ho
  obtain ⟨r, hr, hrq⟩ := h4 (op.g - (j0 + 1)) (by omega)
  rw [show j0 + 1 + (op.g - (j0 + 1)) = op.g by omega] at hr
  have hr0 : t0 ≤ r := Nat.le_of_not_lt fun x => by have := h.born r _ x hr.g; omega
  have edge : HappensBefore t r q := .single (.inr ⟨.marked hrq (.inr hr.act) h1 (fun k hk _ => h.norel k (by omega)), hr.heard, h3⟩)
  have hle : i ≤ r := Nat.le_of_not_lt fun hlt => hr.after i hlt hg hc
  rcases Nat.lt_or_ge i r with hlt | hge
  · exact ⟨q, h2, .trans (.single (.inl ⟨hlt, op.g, hg, hr.g⟩)) edge⟩
  · obtain rfl : i = r := by omega
    exact ⟨q, h2, edge⟩
/-- THE END: goroutine 0 knows all but atomic touches of shunned places. -/
theorem TI.all (h : TI Sb Wg Own Rd B j0 t0 j t) (hA : Acq Wg j0 j t) : ∀ i a, touchAt t i = some a → Knows t 0 i ∨ (shun Sb a.loc ∧ a.kind = .atomic) := by
  intro i a ha
  rcases h.known i a ha with k | k | ⟨k, k1, k2, k3, k4⟩
  · exact .inl k
  · exact .inr k
  · have ha' : (t.act? i).bind (·.touch?) = some a := ha
    obtain ⟨q, hq, hb⟩ := h.told hA k1 k2 ⟨a, ha', k4, .inl (by rw [k3]; simp)⟩
    obtain ⟨z, hz, hz0⟩ := gq_of hq
    exact .inl ⟨q, z, hz, hz0, .inr hb⟩
theorem shun_mem {l : Loc} (h : shun Sb l) : l.isMemory = true := by
  cases l with
  | cell a => rfl
  | _ => exact h.elim
theorem TI.past (h : TI Sb Wg Own Rd B j0 t0 j t) (hA : Acq Wg j0 j t) (hd : Deaf t 0 = 0) : (∃ B', Past (shun Sb) B' t) ∧ Quiet (shun Sb) t ∧ ∀ i a, touchAt t i = some a → a.loc.isMemory = false → Knows t 0 i := by
  obtain ⟨B1, hB1⟩ := seen_any t
  refine ⟨⟨B1, h.ct.nr, fun i a ha _ => h.all hA i a ha, fun i g hg hne hc => ?_, hd, hB1⟩, h.ct.quiet, fun i a ha hm => ?_⟩
  · rcases Nat.lt_or_ge j0 g with hlt | hge
    · exact h.told hA hlt hg hc
    · exact h.over i g hg hne hge hc
  · rcases h.all hA i a ha with k | k
    · exact k
    · rw [shun_mem k.1] at hm; cases hm

/-- Where a phase begins. -/
theorem ti_start {P : Program} {gs : Array Goroutine} {g : Goroutine} {q : Nat → Nat} (h : Team P (shun Sb) B gs g t q) (hW : B ≤ Wg) (hj : gs.size = j0 + 1) : TI (fun b => Sb b ∨ b = Wg) Wg (fun _ _ => False) (fun _ _ => False) B j0 t.size 0 t := by
  have hs : (fun l => shun Sb l ∨ ∃ a, l = .cell a ∧ a.block = Wg) = shun fun b => Sb b ∨ b = Wg := by
    funext l
    cases l with
    | cell a =>
      refine propext ⟨?_, ?_⟩
      · rintro (h | ⟨x, e, h⟩)
        · exact .inl h
        · cases e; exact .inr h
      · rintro (h | h)
        · exact .inl h
        · exact .inr ⟨a, rfl, h⟩
    | _ => exact propext ⟨fun h => h.elim id (fun ⟨_, e, _⟩ => nomatch e), fun h => False.elim h⟩
  have hct := ct_start h hW (Wg := Wg) (j := j0) (by omega)
  rw [hs] at hct
  obtain ⟨B1, hp1⟩ := h.past
  refine ⟨hct, fun i hi e => ?_, Nat.le_refl _, fun i g _ hg => ?_, fun i a ha => ?_, fun i g hg hne _ hc => hp1.over i g hg hne hc, h.low⟩
  · have := lt_of_act? e
    omega
  · obtain ⟨op, ho, rfl⟩ := gq_of hg
    obtain ⟨hi', rfl⟩ := Array.getElem?_eq_some_iff.1 ho
    have := h.ids _ (Array.getElem_mem hi')
    omega
  · cases hm : a.loc.isMemory with
    | false => exact .inl (h.rest i a ha hm)
    | true =>
      rcases hp1.known i a ha hm with x | ⟨x, y⟩
      · exact .inl x
      · refine .inr (.inl ⟨?_, y⟩)
        revert x
        generalize a.loc = l
        intro x
        cases l with
        | cell a => exact .inl x
        | _ => exact x.elim
end
end Go.Proofs.Ytgkakgibgfehaaa.Ph

namespace Go.Proofs.Ytgkakgibgfehaaa.Ph
open Go.Conc Go.ConcN Go.RowKit Go.Conc.Lib Go.ConcR.Gen Go.ConcN.Gen
open Go.ConcR (KK wgBlock WgAt stA smA rd wr mk Payload DC0)

section
variable (P : Program) (ty : TypeId) (Wg : Nat) (R : World → World → Prop)
/-- Under the rely, within some number of idle steps, at a stop. -/
def To (S : Goroutine → World → Prop) (g : Goroutine) (w : World) : Prop := ∃ m, Goes P true R DC0 S m g w
/-- A step that says a read, or a write, of the group's. -/
def Said (wr : Bool) (K : Goroutine → World → Prop) (g : Goroutine) (w : World) : Prop := g.status = .running ∧ ∃ g' a, a.block = Wg ∧ stepG P true g w = .go g' w #[mk (if wr then .write a else .read a)] ∧ K g' w
variable (Next : Goroutine → World → Prop)
/-! Add(1), from its end backwards -/
def Ad3 (g : Goroutine) (w : World) : Prop := g.status = .running ∧ ∃ g', stepG P true g w = .go g' w #[mk .enable] ∧ To P R Next g' w
def Ad2 (g : Goroutine) (w : World) : Prop :=
  g.status = .running ∧ ∀ v : Nat, v < 2147483647 → WgAt ty Wg w (v * KK) 0 → ∃ g', stepG P true g w = .go g' (w.setCell (stA Wg) (.int .u64 ((v + 1) * KK))) #[rd (stA Wg), wr (stA Wg)] ∧ (To P R (Ad3 P R Next) g' (w.setCell (stA Wg) (.int .u64 ((v + 1) * KK))) ∨ To P R (Said P Wg false (To P R (Ad3 P R Next))) g' (w.setCell (stA Wg) (.int .u64 ((v + 1) * KK))))
def Ad1 (g : Goroutine) (w : World) : Prop := g.status = .running ∧ ∃ g', stepG P true g w = .go g' w #[mk .disable] ∧ To P R (Ad2 P ty Wg R Next) g' w
/-! Wait, from its end backwards -/
def Wt7 (g : Goroutine) (w : World) : Prop := g.status = .running ∧ ∃ g', stepG P true g w = .go g' w #[mk (.acquire (stA Wg))] ∧ To P R Next g' w
def Wt6 (g : Goroutine) (w : World) : Prop := g.status = .running ∧ ∃ g', stepG P true g w = .go g' w #[mk .enable] ∧ To P R (Wt7 P Wg R Next) g' w
def Wt5 (g : Goroutine) (w : World) : Prop := g.status = .running ∧ (WgAt ty Wg w 0 0 → ∃ g', stepG P true g w = .go g' w #[rd (stA Wg)] ∧ To P R (Wt6 P Wg R Next) g' w)
def Wt4 (g : Goroutine) (w : World) : Prop :=
  g.status = .running ∧ g.offers = none ∧ ((∃ st, WgAt ty Wg w st 0) → stepG P true g w = .go { g with status := .blocked } w #[]) ∧
    (WgAt ty Wg w 0 1 → ∃ g', stepG P true g w = .go g' (w.setCell (smA Wg) (.int .u32 0)) (semEvents (smA Wg)) ∧ To P R (Wt5 P ty Wg R Next) g' (w.setCell (smA Wg) (.int .u32 0)))
variable (Anch : Goroutine → World → Prop)
def Wt3 (vs : Nat) (g : Goroutine) (w : World) : Prop :=
  g.status = .running ∧ ∀ v : Nat, v < 2147483648 → WgAt ty Wg w (v * KK) 0 →
    (v = vs → ∃ g', stepG P true g w = .go g' (w.setCell (stA Wg) (.int .u64 (v * KK + 1))) #[rd (stA Wg), wr (stA Wg)] ∧ To P R (Said P Wg true (To P R (Wt4 P ty Wg R Next))) g' (w.setCell (stA Wg) (.int .u64 (v * KK + 1)))) ∧
    (v ≠ vs → ∃ g', stepG P true g w = .go g' w #[rd (stA Wg)] ∧ To P R Anch g' w)
def Wt2 (g : Goroutine) (w : World) : Prop :=
  g.status = .running ∧ ∀ v : Nat, v < 2147483648 → WgAt ty Wg w (v * KK) 0 → ∃ g', stepG P true g w = .go g' w #[rd (stA Wg)] ∧
    (v = 0 → To P R (Wt6 P Wg R Next) g' w) ∧ (v ≠ 0 → To P R (Wt3 P ty Wg R Next Anch v) g' w)
def Wt1 (g : Goroutine) (w : World) : Prop := g.status = .running ∧ ∃ g', stepG P true g w = .go g' w #[mk .disable] ∧ To P R Anch g' w
end

theorem goes_up {P : Program} {main : Bool} {R : World → World → Prop} {D : World → World → Array Event → Prop} {S : Goroutine → World → Prop} {n n' : Nat} {g : Goroutine} {w : World} (h : n ≤ n') (x : Goes P main R D S n g w) : Goes P main R D S n' g w := by
  induction h with
  | refl => exact x
  | step _ ih => exact ih.more
/-- At the head of Wait's loop. -/
def Head (L : WgLink) (F : World → Prop) (Wg : Nat) (c : Frame) (cs : List Frame) (g : Goroutine) (w : World) : Prop :=
  ∃ T : Array Value, g = G ((base L.wait).at ⟨T, []⟩ [.code (L7 L), .inLoop (L7 L), .inBlock 0]) (c :: cs) ∧ T.size = 84 ∧ T[0]? = some (.pointer (some ⟨Wg, 0, none⟩)) ∧ F w

end Go.Proofs.Ytgkakgibgfehaaa.Ph

namespace Go.Proofs.Ytgkakgibgfehaaa.Ph
open Go.Conc Go.ConcN Go.Proofs.Ytgkakgibgfehaaa.Sim
open Go.ConcR (KK wgBlock WgAt stA smA rd wr mk Payload DC0 Bk g_of_ofEvents)
variable [Payload]

/-! ### goroutine 0 -/
/-- Which blocks goroutine 0 knows: those that nobody writes any more; those of its own. -/
structure Kn where
  fz : Nat → Prop
  mu : Nat → Prop
def Kn.on (X : Kn) (b : Nat) : Prop := X.fz b ∨ X.mu b
def Kn.ice (X : Kn) : Kn := ⟨X.on, fun _ => False⟩

structure RMn (ty : TypeId) (Wg : Nat) (X : Kn) (w w₁ : World) : Prop where
  keep : ∀ b, X.on b → w₁.heap[b]? = w.heap[b]?
  size : w.heap.size ≤ w₁.heap.size
  live : WgLive ty Wg w → WgLive ty Wg w₁
  os : w₁.os = w.os
  output : w₁.output = w.output
  tape : w₁.tape = w.tape
omit [Payload] in
theorem RMn.refl {ty : TypeId} {Wg : Nat} {X : Kn} (w : World) : RMn ty Wg X w w := ⟨fun _ _ => rfl, Nat.le_refl _, id, rfl, rfl, rfl⟩
omit [Payload] in
theorem RMn.trans {ty : TypeId} {Wg : Nat} {X : Kn} {a b c : World} (h : RMn ty Wg X a b) (k : RMn ty Wg X b c) : RMn ty Wg X a c :=
  ⟨fun x hx => (k.keep x hx).trans (h.keep x hx), Nat.le_trans h.size k.size, k.live ∘ h.live, k.os.trans h.os, k.output.trans h.output, k.tape.trans h.tape⟩

/-- A step of goroutine 0's that looks at memory, or makes or writes a block of its own. -/
structure MemOk (Wg C : Nat) (X X' : Kn) (w w' : World) (es : Array Event) : Prop where
  size : w.heap.size ≤ w'.heap.size
  keep : ∀ b, b < w.heap.size → ¬ X.mu b → w'.heap[b]? = w.heap[b]?
  os : w'.os = w.os
  output : w'.output = w.output
  tape : w'.tape = w.tape
  fz : ∀ b, X'.fz b → X.fz b
  mu : ∀ b, X'.mu b → X.mu b ∨ (w.heap.size ≤ b ∧ b < w'.heap.size)
  ev : ∀ e ∈ es, ∃ a wr, e = ⟨.cell a, wr, false⟩ ∧ X'.on a.block ∧ (wr = true → X'.mu a.block)

section
variable (P : Program) (ty : TypeId) (Wg C : Nat)
def Mem (X : Kn) (K : Kn → Goroutine → World → Prop) (g : Goroutine) (w : World) : Prop :=
  g.status = .running ∧ ∃ g' w' es X', stepG P true g w = .go g' w' es ∧ MemOk Wg C X X' w w' es ∧ K X' g' w'
/-- At most so many steps of memory, and so many idle ones ahead of the next, to a stop. -/
def TM : Nat → Nat → (Kn → Goroutine → World → Prop) → Kn → Goroutine → World → Prop
  | 0, m, S, X, g, w => Goes P true (RMn ty Wg X) DC0 (S X) m g w
  | n + 1, m, S, X, g, w => Goes P true (RMn ty Wg X) DC0 (Mem P Wg C X fun X g w => ∃ m', TM n m' S X g w) m g w
end

/-! ### a worker -/
structure RWk (ty : TypeId) (Wg C n i : Nat) (rdk : Nat → Prop) (w w₁ : World) : Prop where
  low : RW ty Wg C n 0 i w w₁
  keep : ∀ b, rdk b → w₁.heap[b]? = w.heap[b]?
  size : w.heap.size ≤ w₁.heap.size
theorem RWk.refl {ty : TypeId} {Wg C n i : Nat} {rdk : Nat → Prop} (w : World) : RWk ty Wg C n i rdk w w := ⟨RW.refl w, fun _ _ => rfl, Nat.le_refl _⟩
theorem RWk.trans {ty : TypeId} {Wg C n i : Nat} {rdk : Nat → Prop} {a b c : World} (h : RWk ty Wg C n i rdk a b) (k : RWk ty Wg C n i rdk b c) : RWk ty Wg C n i rdk a c :=
  ⟨h.low.trans k.low, fun x hx => (k.keep x hx).trans (h.keep x hx), Nat.le_trans h.size k.size⟩
/-- A step that looks at what nobody writes, or stores into the worker's own cell. -/
def MW (C i : Nat) (rdk : Nat → Prop) (w w' : World) (es : Array Event) : Prop :=
  (∃ d, w' = w.at d ∧ ∀ e ∈ es, ∃ a, e = ⟨.cell a, false, false⟩ ∧ rdk a.block) ∨ ∃ v, w' = w.setCell ⟨C, i, none⟩ v ∧ es = #[⟨.cell ⟨C, i, none⟩, true, false⟩]
section
variable (P : Program) (ty : TypeId) (Wg C n : Nat)
def MemW (i : Nat) (rdk : Nat → Prop) (K : Goroutine → World → Prop) (g : Goroutine) (w : World) : Prop :=
  g.status = .running ∧ ∃ g' w' es, stepG P false g w = .go g' w' es ∧ MW C i rdk w w' es ∧ K g' w'
def TW (i : Nat) (rdk : Nat → Prop) : Nat → Nat → (Goroutine → World → Prop) → Goroutine → World → Prop
  | 0, m, S, g, w => Goes P false (RWk ty Wg C n i rdk) DC0 S m g w
  | k + 1, m, S, g, w => Goes P false (RWk ty Wg C n i rdk) DC0 (fun g w => S g w ∨ MemW P C i rdk (fun g w => ∃ m', TW i rdk k m' S g w) g w) m g w
/-- At the deferred Done. -/
def AtDone (i : Nat) (v : Value) (g : Goroutine) (w : World) : Prop := ∃ m, WSit P ty Wg C n (fun _ _ => False) (fun _ _ => False) 0 (i + 1) v 7 m 0 g w
end

section
variable (ok : Cx) (T : Tables) (FL FC : Array Func) (ty : TypeId) (Wg C n : Nat) (Q : Nat → Value → World → Prop) (PV : Nat → Value → Nat → Obj → Prop)
/-- Beside the lone contract's tree. -/
def SimS (i : Nat) (rdk mine : Nat → Prop) (fr : Frame) (cs : List Frame) (w0 : World) (g : Goroutine) (w : World) : Prop :=
  ∃ (Fz : Fr) (R : Ren) (fr' : Frame) (cs' : List Frame) (c0 : Frame) (cb : List Frame) (W : World), g = G fr' (cs' ++ c0 :: cb) ∧ Must (prg T FL) [junk] (Q i) fr cs w0 ∧ FRel ok T R fr fr' ∧ LRel (FRel ok T R) cs cs' ∧ Near ok T Fz R w0 w ∧ Fz.lim = none ∧ Fz.out = false ∧
    (∀ b b', R b b' → (Fz b ∧ rdk b') ∨ (¬ Fz b ∧ mine b')) ∧ (∀ b, rdk b → w.heap[b]? = W.heap[b]?) ∧
    ∀ (mine' : Nat → Prop) (R' : Ren) (w1 : World) (v v' : Value) (w' : World), Q i v w1 → VRel ok R' v v' → Near ok T Fz R' w1 w' → (∀ b b', R' b b' → (Fz b ∧ rdk b') ∨ (¬ Fz b ∧ mine' b')) → WgLive ty Wg w' → PayAt C n w' → (∀ b, rdk b → w'.heap[b]? = W.heap[b]?) →
      ∃ rb ro, mine' rb ∧ w'.heap[rb]? = some ro ∧ PV i v' rb ro ∧ ∃ k m, TW (prg T FC) ty Wg C n i rdk k m (AtDone (prg T FC) ty Wg C n i v') (G (c0.finish v') cb) w'
/-- Where the call that is simulated begins. -/
def AtSim (i : Nat) (rdk : Nat → Prop) (g : Goroutine) (w : World) : Prop := ∃ fr cs w0, SimS ok T FL FC ty Wg C n Q PV i rdk (fun _ => False) fr cs w0 g w

inductive Nd where
  | num (a b : Nat)
  | node (fr : Frame) (cs : List Frame) (w : World)
inductive NdLt (P : Program) : Nd → Nd → Prop
  | far {a a' b b' : Nat} : a' < a → NdLt P (.num a' b') (.num a b)
  | near {a b b' : Nat} : b' < b → NdLt P (.num a b') (.num a b)
  | down {fr fr' : Frame} {cs cs' : List Frame} {w w' : World} : Down P fr cs w fr' cs' w' → NdLt P (.node fr' cs' w') (.node fr cs w)
omit [Payload] in
theorem acc_num {P : Program} : ∀ a b, Acc (NdLt P) (.num a b) := by
  intro a
  induction a using Nat.strongRecOn with
  | _ a iha =>
    intro b
    induction b using Nat.strongRecOn with
    | _ b ihb =>
      refine ⟨_, fun y hy => ?_⟩
      cases hy with
      | far h => exact iha _ h _
      | near h => exact ihb _ h
omit [Payload] in
theorem acc_node {P : Program} {Q : Value → World → Prop} {fr : Frame} {cs : List Frame} {w : World} (h : Must P [junk] Q fr cs w) : Acc (NdLt P) (.node fr cs w) := by
  refine must_ind (X := fun fr cs w => Acc (NdLt P) (.node fr cs w)) (fun fr cs w _ ih => ⟨_, fun y hy => ?_⟩) h
  cases hy with
  | down h => exact ih _ _ _ h

/-- What goes with each goroutine but 0: the library's stage (capped) and deafness; what is ahead of it; where it stands; a worker's answer and its block. -/
structure Wk where
  base : WD
  ex : Nat
  nd : Nd
  v : Value
  rb : Nat
  ro : Obj
variable (j0 : Nat) (rdS : Nat → Nat → Prop)
inductive Sit (own : Nat → Nat) (p : Nat) (v : Value) : Nat → Nat → Nat → Nd → Goroutine → World → Prop
  | pre {k m : Nat} {g : Goroutine} {w : World} : TW (prg T FC) ty Wg C n (p - j0) (rdS p) k m (AtSim ok T FL FC ty Wg C n Q PV (p - j0) (rdS p)) g w → Sit own p v 7 3 0 (.num k m) g w
  | sim {fr : Frame} {cs : List Frame} {w0 : World} {g : Goroutine} {w : World} : SimS ok T FL FC ty Wg C n Q PV (p - j0) (rdS p) (fun b => own b = p + 1) fr cs w0 g w → Sit own p v 7 2 0 (.node fr cs w0) g w
  | post {k m : Nat} {g : Goroutine} {w : World} : TW (prg T FC) ty Wg C n (p - j0) (rdS p) k m (AtDone (prg T FC) ty Wg C n (p - j0) v) g w → Sit own p v 7 1 0 (.num k m) g w
  | lib {s m d : Nat} {g : Goroutine} {w : World} : WSit (prg T FC) ty Wg C n (fun _ _ => False) (fun _ _ => False) 0 (p - j0 + 1) v s m d g w → Sit own p v s 0 d (.num 0 m) g w
  | old {m d : Nat} {g : Goroutine} {w : World} : p < j0 → QuitsD (prg T FC) m d g → Sit own p v 1 0 d (.num 0 m) g w

/-! ### the blocks' owners -/
/-- Whoever takes a step: what it leaves as it was. k: its mark as an owner. -/
structure Turn (own : Nat → Nat) (k : Nat) (w w' : World) : Prop where
  size : w.heap.size ≤ w'.heap.size
  keep : ∀ b, b < w.heap.size → b ≠ Wg → b ≠ C → own b ≠ k → w'.heap[b]? = w.heap[b]?
  os : w'.os = w.os
  output : w'.output = w.output
  tape : w'.tape = w.tape
def own' (own : Nat → Nat) (k : Nat) (w w' : World) (b : Nat) : Nat := if w.heap.size ≤ b ∧ b < w'.heap.size then k else own b
/-- The block of a place of memory. -/
def blockOf : Loc → Option Nat
  | .cell a => some a.block
  | .obj r => some r
  | _ => none
def OwnF (own : Nat → Nat) (k : Nat) (l : Loc) : Prop := j0 < k ∧ ((∃ b, blockOf l = some b ∧ own b = k) ∨ l = .cell ⟨C, k - (j0 + 1), none⟩)
def RdF (k : Nat) (l : Loc) : Prop := j0 < k ∧ ∃ b, blockOf l = some b ∧ rdS (k - 1) b

variable (Sb : Nat → Prop) (B0 t0 : Nat) (W0 : World)
structure Crew (own : Nat → Nat) (J : Nat) (D : Nat → Wk) (gs : Array Goroutine) (w : World) (t : Trace) (d0 : Nat) : Prop where
  le : j0 ≤ J
  le' : J ≤ j0 + n
  size : gs.size = J + 1
  wk : ∀ p, p < J → ∃ g, gs[p + 1]? = some g ∧ Sit ok T FL FC ty Wg C n Q PV j0 rdS own p (D p).v (D p).base.stage (D p).ex (D p).base.deaf (D p).nd g w
  old : ∀ p, p < j0 → (D p).base.stage = 1
  ti : TI Sb Wg (OwnF C j0 own) (RdF j0 rdS) w.heap.size j0 t0 (J - j0) t
  deaf0 : Deaf t 0 = d0
  deafW : ∀ p, p < J → Deaf t (p + 1) = (D p).base.deaf
  rel : ∀ p, j0 ≤ p → p < J → (D p).base.stage ≤ 6 → ∃ r, RelBy (stA Wg) t (p + 1) r
  has : ∀ p, j0 ≤ p → p < J → (D p).base.stage ≤ 6 → Has C (p - j0) (D p).v w
  res : ∀ p, j0 ≤ p → p < J → (D p).base.stage + (D p).ex ≤ 8 → own (D p).rb = p + 1 ∧ w.heap[(D p).rb]? = some (D p).ro ∧ PV (p - j0) (D p).v (D p).rb (D p).ro
  pay : PayAt C n w
  live : WgLive ty Wg w
  ownC : own C = 0 ∧ ¬ Sb C
  ownW : Sb Wg
  ownS : ∀ b, Sb b → own b = 0 ∧ b < w.heap.size
  ownN : ∀ b, w.heap.size ≤ b → own b = 0
  rdO : ∀ p b, rdS p b → p < J ∧ own b = 0 ∧ b ≠ C ∧ ¬ Sb b ∧ b < w.heap.size
  stand : ∀ b, b < B0 → b ≠ Wg → b ≠ C → own b = 0 ∧ w.heap[b]? = W0.heap[b]? ∧ b < w.heap.size
  acc : ∀ p, p < J → Acc (NdLt (prg T FL)) (D p).nd
  os : w.os = W0.os
  output : w.output = W0.output
  tape : w.tape = W0.tape
end

/-! ### how these are kept -/
section
variable {ok : Cx} {T : Tables} {FL FC : Array Func} {ty : TypeId} {Wg C n : Nat} {Q : Nat → Value → World → Prop} {PV : Nat → Value → Nat → Obj → Prop} {j0 : Nat} {rdS : Nat → Nat → Prop}
  {Sb : Nat → Prop} {B0 t0 : Nat} {W0 : World} {own : Nat → Nat} {J : Nat} {D : Nat → Wk} {gs : Array Goroutine} {w w' : World} {t : Trace} {d0 : Nat}

theorem TW.rely {P : Program} {i : Nat} {rdk : Nat → Prop} {S : Goroutine → World → Prop} {k m : Nat} {g : Goroutine} (h : TW P ty Wg C n i rdk k m S g w) (r : RWk ty Wg C n i rdk w w') : TW P ty Wg C n i rdk k m S g w' := by
  have tr : ∀ a b c, RWk ty Wg C n i rdk a b → RWk ty Wg C n i rdk b c → RWk ty Wg C n i rdk a c := fun _ _ _ h1 h2 => h1.trans h2
  cases k with
  | zero => exact Goes.rely tr h r
  | succ k => exact Goes.rely tr h r
theorem SimS.rely {i : Nat} {rdk mine mine' : Nat → Prop} {fr : Frame} {cs : List Frame} {w0 : World} {g : Goroutine} (h : SimS ok T FL FC ty Wg C n Q PV i rdk mine fr cs w0 g w) (hm : ∀ b, mine b → mine' b ∧ w'.heap[b]? = w.heap[b]?) (hr : ∀ b, rdk b → w'.heap[b]? = w.heap[b]?) (hs : w.heap.size ≤ w'.heap.size) (ho : w'.os = w.os) :
    SimS ok T FL FC ty Wg C n Q PV i rdk mine' fr cs w0 g w' := by
  obtain ⟨Fz, R, fr', cs', c0, cb, W, h1, h2, h3, h4, h5, h6, h7, h8, h9, h10⟩ := h
  refine ⟨Fz, R, fr', cs', c0, cb, W, h1, h2, h3, h4, h5.rely (fun b b' x => ?_) hs ho, h6, h7, fun b b' x => (h8 b b' x).imp id fun x => ⟨x.1, (hm _ x.2).1⟩, fun b hb => (hr b hb).trans (h9 b hb), h10⟩
  rcases h8 b b' x with x | x
  · exact hr _ x.2
  · exact (hm _ x.2).2
theorem Sit.rely {p : Nat} {v : Value} {s e d : Nat} {nd : Nd} {g : Goroutine} {own₁ : Nat → Nat} (h : Sit ok T FL FC ty Wg C n Q PV j0 rdS own p v s e d nd g w) (hm : ∀ b, own b = p + 1 → own₁ b = p + 1 ∧ w'.heap[b]? = w.heap[b]?) (r : RWk ty Wg C n (p - j0) (rdS p) w w') (ho : w'.os = w.os) :
    Sit ok T FL FC ty Wg C n Q PV j0 rdS own₁ p v s e d nd g w' := by
  cases h with
  | pre h => exact .pre (h.rely r)
  | sim h => exact .sim (h.rely hm r.keep r.size ho)
  | post h => exact .post (h.rely r)
  | lib h => exact .lib (h.rely (by simpa using r.low))
  | old h1 h2 => exact .old h1 h2
omit [Payload] in
theorem goes_imp {P : Program} {main : Bool} {R : World → World → Prop} {Dd : World → World → Array Event → Prop} {S S' : Goroutine → World → Prop} (hS : ∀ g w, S g w → S' g w) : ∀ {m : Nat} {g : Goroutine} {w : World}, Goes P main R Dd S m g w → Goes P main R Dd S' m g w := by
  intro m
  induction m with
  | zero => exact fun h w₁ h₁ => hS _ _ (h w₁ h₁)
  | succ m ih =>
    intro g w h
    rcases h with h | ⟨hs, h⟩
    · exact .inl fun w₁ h₁ => hS _ _ (h w₁ h₁)
    · refine .inr ⟨hs, fun w₁ h₁ => ?_⟩
      have := h w₁ h₁
      revert this
      generalize stepG P main g w₁ = s
      intro this
      cases s with
      | go g' w' es => exact ⟨this.1, ih this.2⟩
      | _ => exact this.elim
theorem TW.up {P : Program} {i : Nat} {rdk : Nat → Prop} {S : Goroutine → World → Prop} : ∀ {k m : Nat} {g : Goroutine} {w : World}, TW P ty Wg C n i rdk k m S g w → TW P ty Wg C n i rdk (k + 1) m S g w := by
  intro k
  induction k with
  | zero => exact fun h => goes_imp (fun _ _ x => .inl x) h
  | succ k ih => exact fun h => goes_imp (fun _ _ x => x.imp id fun ⟨y1, g', w', es, y2, y3, m', y4⟩ => ⟨y1, g', w', es, y2, y3, m', ih y4⟩) h
theorem TW.upto {P : Program} {i : Nat} {rdk : Nat → Prop} {S : Goroutine → World → Prop} {k k' m : Nat} (hk : k ≤ k') {g : Goroutine} {w : World} (h : TW P ty Wg C n i rdk k m S g w) : TW P ty Wg C n i rdk k' m S g w := by
  induction hk with
  | refl => exact h
  | step _ ih => exact ih.up
theorem TW.status {P : Program} {i : Nat} {rdk : Nat → Prop} {S : Goroutine → World → Prop} (hS : ∀ g w, S g w → g.status = .running) {k m : Nat} {g : Goroutine} (h : TW P ty Wg C n i rdk k m S g w) : g.status = .running := by
  cases k with
  | zero => exact Goes.running hS w (RWk.refl w) h
  | succ k => exact Goes.running (fun _ _ x => x.elim (hS _ _) fun y => y.1) w (RWk.refl w) h
theorem SimS.status {i : Nat} {rdk mine : Nat → Prop} {fr : Frame} {cs : List Frame} {w0 : World} {g : Goroutine} (h : SimS ok T FL FC ty Wg C n Q PV i rdk mine fr cs w0 g w) : g.status = .running := by
  obtain ⟨Fz, R, fr', cs', c0, cb, W, h1, _⟩ := h
  rw [h1]; rfl
theorem AtDone.status {P : Program} {i : Nat} {v : Value} {g : Goroutine} (h : AtDone P ty Wg C n i v g w) : g.status = .running := by
  obtain ⟨m, h⟩ := h
  cases h with
  | r0 h => exact Goes.running (fun _ _ x => x.1) w (RW.refl w) h
theorem Sit.status {p : Nat} {v : Value} {s e d : Nat} {nd : Nd} {g : Goroutine} (h : Sit ok T FL FC ty Wg C n Q PV j0 rdS own p v s e d nd g w) : g.status = .running ∨ g.status = .finished := by
  cases h with
  | pre h => exact .inl (h.status fun _ _ ⟨_, _, _, x⟩ => x.status)
  | sim h => exact .inl h.status
  | post h => exact .inl (h.status fun _ _ x => x.status)
  | lib h => exact h.status
  | old _ h => exact h.status
theorem Sit.woken {p : Nat} {v : Value} {s e d : Nat} {nd : Nd} {g : Goroutine} (h : Sit ok T FL FC ty Wg C n Q PV j0 rdS own p v s e d nd g w) (P : Program) (a a' : Goroutine) (w' : World) : woken P a a' w' g = g := by
  unfold Go.Conc.woken
  split
  · exact again_running _ h.status
  · rfl
/-- Counted, it runs. -/
theorem Sit.runs {p : Nat} {v : Value} {s e d : Nat} {nd : Nd} {g : Goroutine} (h : Sit ok T FL FC ty Wg C n Q PV j0 rdS own p v s e d nd g w) (hs : s ≠ 1) : g.status = .running := by
  cases h with
  | pre h => exact h.status fun _ _ ⟨_, _, _, x⟩ => x.status
  | sim h => exact h.status
  | post h => exact h.status fun _ _ x => x.status
  | lib h => exact h.running_of hs
  | old _ h => exact absurd rfl hs

omit [Payload] in
theorem apart (hW : own C = 0) (hS : ∀ b, Sb b → own b = 0) (hr : ∀ k b, rdS k b → own b = 0 ∧ b ≠ C ∧ ¬ Sb b) (hC : ¬ Sb C) : Apart (shun Sb) (OwnF C j0 own) (RdF j0 rdS) := by
  have sh : ∀ l b, blockOf l = some b → shun Sb l → Sb b := by
    intro l b h1 h2
    cases l with
    | cell a => cases h1; exact h2
    | _ => exact h2.elim
  refine ⟨fun k k' l h h' => ?_, fun k k' l h h' => ?_, fun k l h h' => ?_, fun k l h h' => ?_⟩
  · obtain ⟨h1, h2⟩ := h
    obtain ⟨h3, h4⟩ := h'
    rcases h2 with ⟨b, hb, ho⟩ | rfl
    · rcases h4 with ⟨b', hb', ho'⟩ | rfl
      · rw [hb] at hb'; cases hb'; exact ho.symm.trans ho'
      · cases hb
        simp only at ho
        omega
    · rcases h4 with ⟨b', hb', ho'⟩ | e
      · cases hb'
        simp only at ho'
        omega
      · simp only [Loc.cell.injEq, Addr.mk.injEq, true_and, and_true] at e
        omega
  · obtain ⟨h1, h2⟩ := h
    obtain ⟨h3, b', hb', hr'⟩ := h'
    have := hr _ _ hr'
    rcases h2 with ⟨b, hb, ho⟩ | rfl
    · rw [hb] at hb'; cases hb'
      omega
    · cases hb'
      exact this.2.1 rfl
  · obtain ⟨h1, h2⟩ := h
    rcases h2 with ⟨b, hb, ho⟩ | rfl
    · have := hS _ (sh _ _ hb h')
      omega
    · exact hC h'
  · obtain ⟨h1, b, hb, hr'⟩ := h
    exact (hr _ _ hr').2.2 (sh _ _ hb h')
end
end Go.Proofs.Ytgkakgibgfehaaa.Ph

namespace Go.Proofs.Ytgkakgibgfehaaa.Ph
open Go.Conc Go.ConcN Go.Proofs.Ytgkakgibgfehaaa.Sim
open Go.ConcR (KK wgBlock WgAt stA smA rd wr mk Payload DC0 Bk g_of_ofEvents)
variable [Payload]

section
variable {own : Nat → Nat} {k b : Nat} {w w' : World}
omit [Payload] in
theorem own'_low (h : b < w.heap.size) : own' own k w w' b = own b := by unfold own'; rw [if_neg (by omega)]
omit [Payload] in
theorem own'_same (h : w'.heap.size = w.heap.size) : own' own k w w' = own := by funext b; unfold own'; rw [if_neg (by omega)]
omit [Payload] in
theorem blockOf_cases {l : Loc} {b : Nat} (h : blockOf l = some b) : (∃ a, l = .cell a ∧ a.block = b) ∨ l = .obj b := by
  cases l with
  | cell a => cases h; exact .inl ⟨a, rfl, rfl⟩
  | obj r => cases h; exact .inr rfl
  | _ => cases h
end

section
variable {ok : Cx} {T : Tables} {FL FC : Array Func} {ty : TypeId} {Wg C n : Nat} {Q : Nat → Value → World → Prop} {PV : Nat → Value → Nat → Obj → Prop} {j0 : Nat} {rdS : Nat → Nat → Prop}
  {Sb : Nat → Prop} {B0 t0 : Nat} {W0 : World} {own : Nat → Nat} {J : Nat} {D : Nat → Wk} {gs : Array Goroutine} {w w' : World} {t : Trace} {d0 : Nat}

theorem Sit.leaving {p : Nat} {v : Value} {s e d : Nat} {nd : Nd} {g : Goroutine} (h : Sit ok T FL FC ty Wg C n Q PV j0 rdS own p v s e d nd g w) (hs : s = 1) {rdS' : Nat → Nat → Prop} {own₁ : Nat → Nat} {w₁ : World} :
    Sit ok T FL FC ty Wg C n Q PV j0 rdS' own₁ p v s e d nd g w₁ := by
  cases h with
  | pre h => cases hs
  | sim h => cases hs
  | post h => cases hs
  | lib h => exact .lib (by cases h <;> first | (cases hs; done) | exact .quit ‹_›)
  | old h1 h2 => exact .old h1 h2

theorem Crew.low (h : Crew ok T FL FC ty Wg C n Q PV j0 rdS Sb B0 t0 W0 own J D gs w t d0) {b : Nat} (hb : own b ≠ 0) : b < w.heap.size := Nat.lt_of_not_le fun x => hb (h.ownN b x)
theorem payLow {w : World} (h : PayAt C n w) : C < w.heap.size := by obtain ⟨cs, h, _⟩ := h; exact (Array.getElem?_eq_some_iff.1 h).1

theorem Crew.sit_keep (h : Crew ok T FL FC ty Wg C n Q PV j0 rdS Sb B0 t0 W0 own J D gs w t d0) {k : Nat} (hT : Turn Wg C own k w w') (hk0 : k ≠ 0) (hpay : PayAt C n w') (hlive : WgLive ty Wg w') {p : Nat} (hp : p < J) (hk : p + 1 ≠ k)
    (hcell : j0 ≤ p → w'.cell? ⟨C, p - j0, none⟩ = w.cell? ⟨C, p - j0, none⟩) :
    ∃ g, gs[p + 1]? = some g ∧ Sit ok T FL FC ty Wg C n Q PV j0 rdS (own' own k w w') p (D p).v (D p).base.stage (D p).ex (D p).base.deaf (D p).nd g w' := by
  obtain ⟨g, hg, hs⟩ := h.wk p hp
  refine ⟨g, hg, ?_⟩
  rcases Nat.lt_or_ge p j0 with hlt | hge
  · exact hs.leaving (h.old p hlt)
  · have hW := (h.ownS Wg h.ownW).1
    refine hs.rely (fun b hb => ?_) ⟨⟨fun b hb => absurd hb (Nat.not_lt_zero b), fun _ => hlive, fun _ => hpay, hcell hge⟩, fun b hb => ?_, hT.size⟩ hT.os
    · have hl := h.low (b := b) (by omega)
      exact ⟨by rw [own'_low hl]; exact hb, hT.keep b hl (fun e => by rw [e] at hb; omega) (fun e => by rw [e] at hb; have := h.ownC.1; omega) (by omega)⟩
    · obtain ⟨_, h1, h2, h3, h4⟩ := h.rdO p b hb
      exact hT.keep b h4 (fun e => h3 (e ▸ h.ownW)) h2 (by omega)
theorem Crew.grown (h : Crew ok T FL FC ty Wg C n Q PV j0 rdS Sb B0 t0 W0 own J D gs w t d0) (k : Nat) (w' : World) : TI Sb Wg (OwnF C j0 (own' own k w w')) (RdF j0 rdS) w.heap.size j0 t0 (J - j0) t := by
  refine h.ti.grow (fun k' l hl => ?_) fun k' l hl => ?_
  · obtain ⟨h1, h2⟩ := hl
    refine ⟨h1, h2.imp (fun ⟨b, hb, ho⟩ => ⟨b, hb, ?_⟩) id⟩
    rw [own'_low (h.low (by omega))]; exact ho
  · obtain ⟨h1, h2⟩ := hl
    rcases h2 with ⟨b, hb, ho⟩ | h2
    · rcases Nat.lt_or_ge b w.heap.size with hlt | hge
      · rw [own'_low hlt] at ho
        exact .inl ⟨h1, .inl ⟨b, hb, ho⟩⟩
      · exact .inr ⟨b, hge, blockOf_cases hb⟩
    · exact .inl ⟨h1, .inr h2⟩
theorem Crew.apart' (h : Crew ok T FL FC ty Wg C n Q PV j0 rdS Sb B0 t0 W0 own J D gs w t d0) (k : Nat) (w' : World) : Apart (shun Sb) (OwnF C j0 (own' own k w w')) (RdF j0 rdS) :=
  apart (by rw [own'_low (payLow h.pay)]; exact h.ownC.1) (fun b hb => by rw [own'_low (h.ownS b hb).2]; exact (h.ownS b hb).1) (fun p b hb => by obtain ⟨_, h1, h2, h3, h4⟩ := h.rdO p b hb; exact ⟨by rw [own'_low h4]; exact h1, h2, h3⟩) h.ownC.2

/-- What of it no step turns. -/
theorem Crew.rest (h : Crew ok T FL FC ty Wg C n Q PV j0 rdS Sb B0 t0 W0 own J D gs w t d0) {k : Nat} (hT : Turn Wg C own k w w') (hk0 : k ≠ 0) :
    (own' own k w w' C = 0 ∧ ¬ Sb C) ∧ (∀ b, Sb b → own' own k w w' b = 0 ∧ b < w'.heap.size) ∧ (∀ b, w'.heap.size ≤ b → own' own k w w' b = 0) ∧ (∀ p b, rdS p b → p < J ∧ own' own k w w' b = 0 ∧ b ≠ C ∧ ¬ Sb b ∧ b < w'.heap.size) ∧
      (∀ b, b < B0 → b ≠ Wg → b ≠ C → own' own k w w' b = 0 ∧ w'.heap[b]? = W0.heap[b]? ∧ b < w'.heap.size) := by
  have hs := hT.size
  refine ⟨⟨by rw [own'_low (payLow h.pay)]; exact h.ownC.1, h.ownC.2⟩, fun b hb => ?_, fun b hb => ?_, fun p b hb => ?_, fun b h1 h2 h3 => ?_⟩
  · obtain ⟨x, y⟩ := h.ownS b hb
    exact ⟨by rw [own'_low y]; exact x, by omega⟩
  · unfold own'
    rw [if_neg (by omega)]
    exact h.ownN b (by omega)
  · obtain ⟨a, x, y, z, u⟩ := h.rdO p b hb
    exact ⟨a, by rw [own'_low u]; exact x, y, z, by omega⟩
  · obtain ⟨x, y, z⟩ := h.stand b h1 h2 h3
    exact ⟨by rw [own'_low z]; exact x, (hT.keep b z h2 h3 (by omega)).trans y, by omega⟩

/-- What a step of goroutine p + 1's may list. -/
def EvK (Sb : Nat → Prop) (Wg C j0 : Nat) (own : Nat → Nat) (rdS : Nat → Nat → Prop) (p B : Nat) (e : Event) : Prop :=
  (∀ y, (MemAct.ofEvent e).touch? = some y → j0 < p + 1 ∧ ((shun Sb y.loc ∧ y.kind = .atomic) ∨ (y.kind = .plain ∧ y.loc.isMemory = true ∧ (OwnF C j0 own (p + 1) y.loc ∨ (RdF j0 rdS (p + 1) y.loc ∧ y.write = false))))) ∧
    e.loc ≠ .mark (.release (stA Wg)) ∧ ∀ y, (MemAct.ofEvent e).touch? = some y → y.loc.low B

theorem Crew.stepW (h : Crew ok T FL FC ty Wg C n Q PV j0 rdS Sb B0 t0 W0 own J D gs w t d0) {p : Nat} (hp : p < J) {g g' : Goroutine} {fn : FuncId} {pos : String} {es : Array Event} {x : Wk} (hT : Turn Wg C own (p + 1) w w')
    (hpay : PayAt C n w') (hlive : WgLive ty Wg w') (hcell : ∀ i, (j0 ≤ p → i ≠ p - j0) → w'.cell? ⟨C, i, none⟩ = w.cell? ⟨C, i, none⟩)
    (hs : Sit ok T FL FC ty Wg C n Q PV j0 rdS (own' own (p + 1) w w') p x.v x.base.stage x.ex x.base.deaf x.nd g' w') (hev : ∀ e ∈ es, EvK Sb Wg C j0 (own' own (p + 1) w w') rdS p w'.heap.size e)
    (hold : p < j0 → x.base.stage = 1) (hdeaf : deafBehind (D p).base.deaf es = x.base.deaf)
    (hrel : j0 ≤ p → x.base.stage ≤ 6 → ∃ r, RelBy (stA Wg) (t ++ MemOp.ofEvents (p + 1) fn pos es) (p + 1) r) (hhas : j0 ≤ p → x.base.stage ≤ 6 → Has C (p - j0) x.v w')
    (hres : j0 ≤ p → x.base.stage + x.ex ≤ 8 → own' own (p + 1) w w' x.rb = p + 1 ∧ w'.heap[x.rb]? = some x.ro ∧ PV (p - j0) x.v x.rb x.ro) (hacc : Acc (NdLt (prg T FL)) x.nd) :
    Crew ok T FL FC ty Wg C n Q PV j0 rdS Sb B0 t0 W0 (own' own (p + 1) w w') J (upd D p x) ((gs.map (woken (prg T FC) g g' w')).setIfInBounds (p + 1) g') w' (t ++ MemOp.ofEvents (p + 1) fn pos es) d0 := by
  obtain ⟨r1, r2, r3, r4, r5⟩ := h.rest hT (Nat.succ_ne_zero p)
  have hle := h.le
  refine ⟨h.le, h.le', by simp [h.size], fun p' hp' => ?_, fun p' hp' => ?_, ?_, by rw [Deaf_other t (by omega) _ g_of_ofEvents, h.deaf0], fun p' hp' => ?_, fun p' h1 hp' hst => ?_, fun p' h1 hp' hst => ?_, fun p' h1 hp' hst => ?_, hpay, hlive, r1, h.ownW, r2, r3, r4, r5, fun p' hp' => ?_,
    hT.os.trans h.os, hT.output.trans h.output, hT.tape.trans h.tape⟩
  · by_cases e : p' = p
    · subst e
      exact ⟨g', get_map_set_same _ _ _ (by rw [h.size]; omega), by rw [upd_same]; exact hs⟩
    · obtain ⟨y, hy, hsy⟩ := h.sit_keep hT (Nat.succ_ne_zero p) hpay hlive hp' (by omega) (fun _ => hcell _ (by omega))
      exact ⟨y, by rw [get_map_set _ _ _ _ (by omega), hy, Option.map_some, hsy.woken], by rw [upd_ne D _ e]; exact hsy⟩
  · by_cases e : p' = p
    · subst e; rw [upd_same]; exact hold hp'
    · rw [upd_ne D _ e]; exact h.old p' hp'
  · refine (h.grown (p + 1) w').appW (h.apart' (p + 1) w') (k := p + 1) (by omega) (by omega) (fun op hop => ?_) (fun op hop y hy => ?_) (fun op hop => ?_) hT.size (fun op hop => ?_)
    · obtain ⟨e, he, rfl⟩ := Go.Conc.mem_ofEvents hop
      refine ⟨rfl, fun y hy => ?_⟩
      rcases (hev e he).1 y hy with ⟨_, ⟨h1, h2⟩ | ⟨h1, h2, h3⟩⟩
      · exact .inl ⟨h1, by rw [h2]; simp, by rw [h2]; simp⟩
      · exact .inr h3
    · obtain ⟨e, he, rfl⟩ := Go.Conc.mem_ofEvents hop
      obtain ⟨h0, h1⟩ := (hev e he).1 y hy
      exact ⟨h0, h1.imp id fun x => ⟨x.1, x.2.1⟩⟩
    · exact norel_of (fun e he => (hev e he).2.1) op hop
    · obtain ⟨e, he, rfl⟩ := Go.Conc.mem_ofEvents hop
      exact (hev e he).2.2
  · by_cases e : p' = p
    · subst e; rw [Deaf_own, h.deafW p' hp', upd_same]; exact hdeaf
    · rw [Deaf_other t (by omega) _ g_of_ofEvents, h.deafW p' hp', upd_ne D _ e]
  · by_cases e : p' = p
    · subst e; rw [upd_same] at hst; exact hrel h1 hst
    · rw [upd_ne D _ e] at hst
      obtain ⟨r, hr⟩ := h.rel p' h1 hp' hst
      exact ⟨r, hr.appOther g_of_ofEvents (by omega)⟩
  · by_cases e : p' = p
    · subst e; rw [upd_same] at hst ⊢; exact hhas h1 hst
    · rw [upd_ne D _ e] at hst ⊢
      exact (hcell _ (by omega)).trans (h.has p' h1 hp' hst)
  · by_cases e : p' = p
    · subst e; rw [upd_same] at hst ⊢; exact hres h1 hst
    · rw [upd_ne D _ e] at hst ⊢
      obtain ⟨x1, x2, x3⟩ := h.res p' h1 hp' hst
      have hl := h.low (b := (D p').rb) (by omega)
      exact ⟨by rw [own'_low hl]; exact x1, (hT.keep _ hl (fun e => by have := (h.ownS Wg h.ownW).1; rw [e] at x1; omega) (fun e => by have := h.ownC.1; rw [e] at x1; omega) (by omega)).trans x2, x3⟩
  · by_cases e : p' = p
    · subst e; rw [upd_same]; exact hacc
    · rw [upd_ne D _ e]; exact h.acc p' hp'

/-- What a step of goroutine 0's may list. -/
def EvM (Sb : Nat → Prop) (Wg C j0 : Nat) (own : Nat → Nat) (rdS : Nat → Nat → Prop) (J B : Nat) (e : Event) : Prop :=
  (∀ y, (MemAct.ofEvent e).touch? = some y → (shun Sb y.loc ∧ y.kind ≠ .plain) ∨ (¬ shun Sb y.loc ∧ (∀ k, 1 ≤ k → k ≤ J → ¬ OwnF C j0 own k y.loc) ∧ (y.write = true → ∀ k, 1 ≤ k → k ≤ J → ¬ RdF j0 rdS k y.loc))) ∧
    e.loc ≠ .mark (.release (stA Wg)) ∧ ∀ y, (MemAct.ofEvent e).touch? = some y → y.loc.low B
theorem Crew.step0 (h : Crew ok T FL FC ty Wg C n Q PV j0 rdS Sb B0 t0 W0 own J D gs w t d0) {a a' : Goroutine} {fn : FuncId} {pos : String} {es : Array Event} (hT : Turn Wg C own (j0 + n + 1) w w')
    (hpay : PayAt C n w') (hlive : WgLive ty Wg w') (hcell : ∀ i, w'.cell? ⟨C, i, none⟩ = w.cell? ⟨C, i, none⟩) (hev : ∀ e ∈ es, EvM Sb Wg C j0 (own' own (j0 + n + 1) w w') rdS J w'.heap.size e) :
    Crew ok T FL FC ty Wg C n Q PV j0 rdS Sb B0 t0 W0 (own' own (j0 + n + 1) w w') J D ((gs.map (woken (prg T FC) a a' w')).setIfInBounds 0 a') w' (t ++ MemOp.ofEvents 0 fn pos es) (deafBehind d0 es) := by
  obtain ⟨r1, r2, r3, r4, r5⟩ := h.rest hT (Nat.succ_ne_zero _)
  have hle := h.le
  have hle' := h.le'
  refine ⟨h.le, h.le', by simp [h.size], fun p' hp' => ?_, h.old, ?_, by rw [Deaf_own, h.deaf0], fun p' hp' => by rw [Deaf_other t (by omega) _ g_of_ofEvents, h.deafW p' hp'], fun p' h1 hp' hst => ?_, fun p' h1 hp' hst => (hcell _).trans (h.has p' h1 hp' hst), fun p' h1 hp' hst => ?_, hpay, hlive, r1, h.ownW, r2, r3, r4, r5, h.acc,
    hT.os.trans h.os, hT.output.trans h.output, hT.tape.trans h.tape⟩
  · obtain ⟨y, hy, hsy⟩ := h.sit_keep hT (Nat.succ_ne_zero _) hpay hlive hp' (by omega) (fun _ => hcell _)
    exact ⟨y, by rw [get_map_set _ _ _ _ (by omega), hy, Option.map_some, hsy.woken], hsy⟩
  · refine (h.grown (j0 + n + 1) w').app0 (h.apart' (j0 + n + 1) w') (fun op hop => ?_) (fun op hop => ?_) hT.size (fun op hop => ?_)
    · obtain ⟨e, he, rfl⟩ := Go.Conc.mem_ofEvents hop
      rw [show j0 + (J - j0) = J by omega]
      exact ⟨rfl, fun y hy => (hev e he).1 y hy⟩
    · exact norel_of (fun e he => (hev e he).2.1) op hop
    · obtain ⟨e, he, rfl⟩ := Go.Conc.mem_ofEvents hop
      exact (hev e he).2.2
  · obtain ⟨r, hr⟩ := h.rel p' h1 hp' hst
    exact ⟨r, hr.appOther g_of_ofEvents (by omega)⟩
  · obtain ⟨x1, x2, x3⟩ := h.res p' h1 hp' hst
    have hl := h.low (b := (D p').rb) (by omega)
    exact ⟨by rw [own'_low hl]; exact x1, (hT.keep _ hl (fun e => by have := (h.ownS Wg h.ownW).1; rw [e] at x1; omega) (fun e => by have := h.ownC.1; rw [e] at x1; omega) (by omega)).trans x2, x3⟩

/-- Goroutine 0's blocks are given away: nobody writes them any more. -/
def iced (own : Nat → Nat) (m : Nat) (b : Nat) : Nat := if own b = m then 0 else own b
def rdN (rdS : Nat → Nat → Prop) (J : Nat) (on : Nat → Prop) (p b : Nat) : Prop := if p = J then on b else rdS p b
theorem Sit.turn {p : Nat} {v : Value} {s e d : Nat} {nd : Nd} {g : Goroutine} {rdS' : Nat → Nat → Prop} {own₁ : Nat → Nat} (h : Sit ok T FL FC ty Wg C n Q PV j0 rdS own p v s e d nd g w) (hr : rdS' p = rdS p) (ho : ∀ b, own b = p + 1 → own₁ b = p + 1) : Sit ok T FL FC ty Wg C n Q PV j0 rdS' own₁ p v s e d nd g w := by
  cases h with
  | pre h => exact .pre (by rw [hr]; exact h)
  | sim h => exact .sim (by rw [hr]; exact h.rely (fun b hb => ⟨ho b hb, rfl⟩) (fun _ _ => rfl) (Nat.le_refl _) rfl)
  | post h => exact .post (by rw [hr]; exact h)
  | lib h => exact .lib h
  | old h1 h2 => exact .old h1 h2
/-- THE go STATEMENT. -/
theorem Crew.spawn (h : Crew ok T FL FC ty Wg C n Q PV j0 rdS Sb B0 t0 W0 own J D gs w t 0) {a' child : Goroutine} {x y : MemOp} {on : Nat → Prop} {k m : Nat} (hJ : J < j0 + n) (hx : x.g = 0 ∧ x.act = .go (J + 1)) (hy : y.g = J + 1 ∧ y.act = .start)
    (hon : ∀ b, on b → (own b = 0 ∨ own b = j0 + n + 1) ∧ b ≠ C ∧ ¬ Sb b ∧ b < w.heap.size)
    (hc : TW (prg T FC) ty Wg C n (J - j0) on k m (AtSim ok T FL FC ty Wg C n Q PV (J - j0) on) child w) :
    Crew ok T FL FC ty Wg C n Q PV j0 (rdN rdS J on) Sb B0 t0 W0 (iced own (j0 + n + 1)) (J + 1) (upd D J ⟨⟨7, 0, 0⟩, 3, .num k m, undef, 0, .cells #[] 0⟩) ((gs.setIfInBounds 0 a').push child) w (t ++ #[x, y]) 0 := by
  have hle := h.le
  have hm : ∀ op ∈ #[x, y], op = x ∨ op = y := by intro op hop; simpa using hop
  have hst : ∀ op ∈ #[x, y], op.act ≠ .mark .disable ∧ op.act ≠ .mark .enable := by
    intro op hop
    rcases hm op hop with rfl | rfl
    · rw [hx.2]; exact ⟨by simp, by simp⟩
    · rw [hy.2]; exact ⟨by simp, by simp⟩
  have i1 : ∀ {b z : Nat}, z ≤ J → own b = z → iced own (j0 + n + 1) b = z := by
    intro b z hz hb
    unfold iced
    rw [if_neg (by omega)]; exact hb
  have i2 : ∀ {b : Nat}, own b = 0 → iced own (j0 + n + 1) b = 0 := fun hb => i1 (Nat.zero_le _) hb
  have hOl : ∀ k l, 1 ≤ k → k ≤ J + 1 → (OwnF C j0 (iced own (j0 + n + 1)) k l ↔ OwnF C j0 own k l) := by
    intro k l h1 h2
    unfold OwnF
    have : ∀ b, iced own (j0 + n + 1) b = k ↔ own b = k := by
      intro b
      unfold iced
      split <;> omega
    simp only [this]
  have hRl : ∀ k l, 1 ≤ k → k ≤ J → (RdF j0 (rdN rdS J on) k l ↔ RdF j0 rdS k l) := by
    intro k l h1 h2
    have : rdN rdS J on (k - 1) = rdS (k - 1) := by funext b; unfold rdN; rw [if_neg (by omega)]
    unfold RdF
    rw [this]
  have hA : Apart (shun Sb) (OwnF C j0 (iced own (j0 + n + 1))) (RdF j0 (rdN rdS J on)) := by
    refine apart (i2 h.ownC.1) (fun b hb => i2 (h.ownS b hb).1) (fun p b hb => ?_) h.ownC.2
    unfold rdN at hb
    split at hb
    · obtain ⟨h1, h2, h3, _⟩ := hon b hb
      exact ⟨by unfold iced; split <;> omega, h2, h3⟩
    · obtain ⟨_, h1, h2, h3, _⟩ := h.rdO p b hb
      exact ⟨i2 h1, h2, h3⟩
  have hti : TI Sb Wg (OwnF C j0 (iced own (j0 + n + 1))) (RdF j0 (rdN rdS J on)) w.heap.size j0 t0 (J - j0) t :=
    h.ti.turn (fun k l h1 h2 => hOl k l h1 (by omega)) (fun k l h1 h2 => hRl k l h1 (by omega))
  refine ⟨by omega, by omega, by simp [h.size], fun p hp => ?_, fun p hp => ?_, ?_, by rw [Deaf_still t 0 _ hst, h.deaf0], fun p hp => ?_, fun p h1 hp hs => ?_, fun p h1 hp hs => ?_, fun p h1 hp hs => ?_, h.pay, h.live, ⟨i2 h.ownC.1, h.ownC.2⟩, h.ownW, fun b hb => ⟨i2 (h.ownS b hb).1, (h.ownS b hb).2⟩,
    fun b hb => i2 (h.ownN b hb), fun p b hb => ?_, fun b h1 h2 h3 => ?_, fun p hp => ?_, h.os, h.output, h.tape⟩
  · rcases Nat.lt_or_ge p J with hlt | hge
    · obtain ⟨g, hg, hsg⟩ := h.wk p hlt
      refine ⟨g, ?_, ?_⟩
      · rw [Array.getElem?_push_lt (by simp [h.size]; omega), ← Array.getElem?_eq_getElem, Array.getElem?_setIfInBounds_ne (by omega)]
        exact hg
      · rw [upd_ne D _ (by omega)]
        exact hsg.turn (by funext b; unfold rdN; rw [if_neg (by omega)]) fun b hb => i1 (by omega) hb
    · obtain rfl : p = J := by omega
      refine ⟨child, ?_, ?_⟩
      · rw [show p + 1 = (gs.setIfInBounds 0 a').size by simp [h.size], Array.getElem?_push_size]
      · rw [upd_same]
        have e : rdN rdS p on p = on := by funext b; unfold rdN; rw [if_pos rfl]
        exact .pre (by rw [e]; exact hc)
  · rw [upd_ne D _ (by omega)]; exact h.old p hp
  · have := hti.fork hA (x := x) (y := y) ⟨hx.1, by rw [hx.2, show j0 + (J - j0) + 1 = J + 1 by omega]⟩ ⟨by rw [hy.1]; omega, hy.2⟩ h.deaf0
    rwa [show J - j0 + 1 = J + 1 - j0 by omega] at this
  · rw [Deaf_still t _ _ hst]
    rcases Nat.lt_or_ge p J with hlt | hge
    · rw [h.deafW p hlt, upd_ne D _ (by omega)]
    · obtain rfl : p = J := by omega
      rw [upd_same]
      exact Deaf_absent fun a op ha e => by have := h.ti.ct.gs a op ha; omega
  · have hne : p ≠ J := fun e => by subst e; rw [upd_same] at hs; simp at hs
    rw [upd_ne D _ hne] at hs
    obtain ⟨r, hr⟩ := h.rel p h1 (by omega) hs
    refine ⟨r, hr.appNot fun op hop => ?_⟩
    rcases hm op hop with rfl | rfl
    · rw [hx.1]; omega
    · rw [hy.1]; omega
  · have hne : p ≠ J := fun e => by subst e; rw [upd_same] at hs; simp at hs
    rw [upd_ne D _ hne] at hs ⊢
    exact h.has p h1 (by omega) hs
  · have hne : p ≠ J := fun e => by subst e; rw [upd_same] at hs; simp at hs
    rw [upd_ne D _ hne] at hs ⊢
    obtain ⟨x1, x2, x3⟩ := h.res p h1 (by omega) hs
    exact ⟨i1 (by omega) x1, x2, x3⟩
  · unfold rdN at hb
    split at hb
    · obtain ⟨h1, h2, h3, h4⟩ := hon b hb
      exact ⟨by omega, by unfold iced; split <;> omega, h2, h3, h4⟩
    · obtain ⟨h0, h1, h2, h3, h4⟩ := h.rdO p b hb
      exact ⟨by omega, i2 h1, h2, h3, h4⟩
  · obtain ⟨x, y, z⟩ := h.stand b h1 h2 h3
    exact ⟨i2 x, y, z⟩
  · by_cases e : p = J
    · subst e; rw [upd_same]; exact acc_num _ _
    · rw [upd_ne D _ e]; exact h.acc p (by omega)
end
end Go.Proofs.Ytgkakgibgfehaaa.Ph
