/-
  MADE BY PROGRAM (gen_wgl.py): under which numbers this seat's program holds the library's functions and types of sync.WaitGroup; that it does. No condition.
  MADE BY PROGRAM (gen_ok.py): the two programs keep to what the simulation asks.
  MADE BY PROGRAM (gen_okw.py): what a worker's call reaches: the same bodies in both programs; none says 'panic'. No condition.
  A LONE CONTRACT OVER THE PROGRAM WITH OUR OWN FUNCTION GIVES A GOOD RUN OF THE GIVEN PROGRAM, if the given function (which starts goroutines) keeps to 'Jump'. The two may begin in worlds of their own, if these are near: blocks of the lone run may be parts of blocks of the other, for good.
  THE PROGRAM WHOSE countsOfParts IS STUCK AT ONCE: the simulation serves it; what is entered there can't come back, so 'Jump' holds of it.
-/
import Derived.Test.YtgkakgibgfehaaaProg
import Derived.Conc.WgGenN3
import Derived.KernelRfl
import Derived.Test.YtgkakgibgfehaaaTqChk
import Derived.Test.YtgkakgibgfehaaaSh14
import Derived.Test.YtgkakgibgfehaaaCoA
import Derived.Test.YtgkakgibgfehaaaSh31
import Derived.Test.YtgkakgibgfehaaaMuA
namespace Go.Proofs
abbrev Try.link : Go.Conc.Lib.WgLink := { add := 85, done := 87, wait := 89, relMerge := 106, disable := 107, enable := 108, inBubble := 109, associate := 110, fatal := 111, uOr := 112, uAdd := 113, raceRead := 114, uLoad := 115, uStore := 116, disassociate := 117, semrelease := 118, acquire := 120, isAssociated := 121, uCas := 122, raceWrite := 123, semacquire := 124, orU64 := 134, addU64 := 135, loadU64 := 136, storeU64 := 137, casU64 := 138, tWgP := 127, tUP := 129, tAssoc := 130, tWg := 110, tAU := 107, tU64 := 105, tUint := 134, tU32 := 108, tPU32 := 135, tPAU := 148, tPU64 := 150, tNoCopy := 102, tANoCopy := 103, tAlign64 := 104 }
theorem Try.wgLib : Go.Conc.Lib.WgLib Try.prog Try.link :=
  ⟨Try.func85, Try.func87, Try.func89, Try.func106, Try.func107, Try.func108, Try.func109, Try.func110, Try.func111, Try.func112, Try.func113, Try.func114, Try.func115, Try.func116, Try.func117, Try.func118, Try.func120, Try.func121, Try.func122, Try.func123, Try.func124, Try.func134, Try.func135, Try.func136, Try.func137, Try.func138, Try.underlying127, Try.runUnderlying127, Try.sizeOf127, Try.isAgg127, Try.zeroValue127, Try.underlying129, Try.runUnderlying129, Try.sizeOf129, Try.isAgg129, Try.zeroValue129, Try.underlying130, Try.runUnderlying130, Try.sizeOf130, Try.isAgg130, Try.zeroValue130, Try.underlying110, Try.runUnderlying110, Try.sizeOf110, Try.isAgg110, Try.zeroValue110, Try.underlying107, Try.runUnderlying107, Try.sizeOf107, Try.isAgg107, Try.zeroValue107, Try.underlying105, Try.runUnderlying105, Try.sizeOf105, Try.isAgg105, Try.zeroValue105, Try.underlying134, Try.runUnderlying134, Try.sizeOf134, Try.isAgg134, Try.zeroValue134, Try.underlying108, Try.runUnderlying108, Try.sizeOf108, Try.isAgg108, Try.zeroValue108, Try.underlying135, Try.runUnderlying135, Try.sizeOf135, Try.isAgg135, Try.zeroValue135, Try.underlying148, Try.runUnderlying148, Try.sizeOf148, Try.isAgg148, Try.zeroValue148, Try.underlying150, Try.runUnderlying150, Try.sizeOf150, Try.isAgg150, Try.zeroValue150, Try.underlying0, Try.runUnderlying0, Try.sizeOf0, Try.isAgg0, Try.zeroValue0, Try.underlying3, Try.runUnderlying3, Try.sizeOf3, Try.isAgg3, Try.zeroValue3, Try.underlying4, Try.runUnderlying4, Try.sizeOf4, Try.isAgg4, Try.zeroValue4, Try.underlying9, Try.runUnderlying9, Try.sizeOf9, Try.isAgg9, Try.zeroValue9, Try.underlying20, Try.runUnderlying20, Try.sizeOf20, Try.isAgg20, Try.zeroValue20, Try.underlying21, Try.runUnderlying21, Try.sizeOf21, Try.isAgg21, Try.zeroValue21, (by kernel_rfl), (by kernel_rfl)⟩
namespace Ytgkakgibgfehaaa.Ph
/-- The payload's cells are rows of ints. -/
instance : Go.ConcR.Payload := ⟨27⟩
end Ytgkakgibgfehaaa.Ph
end Go.Proofs

namespace Go.Proofs.Ytgkakgibgfehaaa.Sim
/-- Which blocks of the lone run are parts of blocks, for good. -/
abbrev fzB (Z : Nat → Prop) : Fr := ⟨Z, none, true⟩
theorem same_fn {f : Nat} (h : f ≠ 52) : fsL[f]? = fsC[f]? := Array.getElem?_setIfInBounds_ne (Ne.symm h)
theorem cmp_fn : ∃ fn, fsC[141]? = some fn ∧ (fn.name == "runtime.NumGoroutine") = false ∧ fn.body.isNone = true ∧ Extern.findNext fn = none ∧ Extern.find fn = some Go.Extern.BytealgCompare.compare := ⟨Try.f141, by kernel_rfl, by kernel_rfl, by kernel_rfl, by kernel_rfl, by kernel_rfl⟩
theorem chk_get {ok : Cx} {T : Tables} {F F' : Array Func} {f : Nat} (h : chkP ok T F F' f = true) : ∃ fn fn', F[f]? = some fn ∧ F'[f]? = some fn' ∧ fn.body.isSome = true ∧ fn'.body.isSome = true ∧ (fn.name == "runtime.NumGoroutine") = false ∧ (fn'.name == "runtime.NumGoroutine") = false ∧ ∀ b, fn.body = some b → okCode ok T b = true := by
  unfold chkP at h
  cases h1 : F[f]? with
  | none => rw [h1] at h; cases h
  | some fn =>
    cases h2 : F'[f]? with
    | none => rw [h1, h2] at h; cases h
    | some fn' =>
      rw [h1, h2] at h
      simp only [Bool.and_eq_true, Bool.not_eq_true'] at h
      obtain ⟨⟨⟨⟨a, b⟩, c⟩, d⟩, e⟩ := h
      refine ⟨fn, fn', rfl, rfl, a, b, c, d, fun x hx => ?_⟩
      rw [hx] at e
      exact e
theorem progsS {sh : Nat → Nat} {Fz : Fr} (ho : Fz.out = true) : Progs (okS sh) tabs Fz fsL fsC := by
  refine ⟨fun _ => ho, fun f hf => ?_⟩
  have hm : f ∈ goodL := by simpa [okS] using hf
  have hc := List.all_eq_true.1 (allS sh) f hm
  by_cases e : f = 141
  · obtain ⟨fn, h1, h2, h3, h4, h5⟩ := cmp_fn
    rw [← e] at h1
    have h1' : fsL[f]? = some fn := (same_fn (by omega)).trans h1
    refine ⟨fn, fn, h1', h1, .inr ⟨by simp [okS, e], rfl, ?_⟩⟩
    intro R args args' h
    exact @Sim.cmpstring (okS sh) tabs Fz fsL fsC R f fn h1' h1 h2 h3 h4 h5 args args' h
  · have hc : chkP (okS sh) tabs fsL fsC f = true := (Bool.or_eq_true_iff.1 hc).resolve_left fun x => e (eq_of_beq x)
    obtain ⟨fn, fn', h1, h2, a, b, c, d, x⟩ := chk_get hc
    refine ⟨fn, fn', h1, h2, .inl ⟨by simp [okS, e], a, b, c, d, fun hr => ⟨?_, x⟩⟩⟩
    have hn : f ≠ 52 := by simpa [okS] using hr
    rw [same_fn hn, h2] at h1
    exact Option.some.inj h1
theorem soundT : Sound okT tabs fsL := by
  refine ⟨fun l => ⟨fun _ => rfl, fun f hf => ?_⟩, fun f hf => ?_, fun _ => rfl, fun _ _ => rfl⟩
  · have hm : f ∈ goodL := by simpa [okT] using hf
    have hc := List.all_eq_true.1 allT f hm
    by_cases e : f = 141
    · obtain ⟨fn, h1, h2, h3, h4, h5⟩ := cmp_fn
      rw [← e] at h1
      have h1' : fsL[f]? = some fn := (same_fn (by omega)).trans h1
      refine ⟨fn, fn, h1', h1', .inr ⟨by simp [okT, e], rfl, ?_⟩⟩
      intro R args args' h
      exact @Sim.cmpstring okT tabs (noFz l) fsL fsL R f fn h1' h1' h2 h3 h4 h5 args args' h
    · have hc : chkP okT tabs fsL fsL f = true := (Bool.or_eq_true_iff.1 hc).resolve_left fun x => e (eq_of_beq x)
      obtain ⟨fn, fn', h1, h2, a, b, c, d, x⟩ := chk_get hc
      refine ⟨fn, fn', h1, h2, .inl ⟨by simp [okT, e], a, b, c, d, fun _ => ⟨?_, x⟩⟩⟩
      rw [h1] at h2
      exact (Option.some.inj h2).symm
  · have hm : f ∈ goodL := by simpa [okT] using hf
    have := List.all_eq_true.1 allI f hm
    simpa using this
theorem initsS {sh : Nat → Nat} : ∀ f, (okS sh).ok f = true → tabs.inits.idxOf? f = none := fun f hf => soundT.inits f hf
end Go.Proofs.Ytgkakgibgfehaaa.Sim

namespace Go.Proofs.Ytgkakgibgfehaaa.Sim
def goodW : List Nat := [81, 82, 88, 101, 102, 103, 119, 131, 132, 133, 140]
def okW (sh : Nat → Nat) : Cx := ⟨fun f => goodW.contains f, fun f => f == 141, fun _ => true, sh, false⟩
theorem allW (sh : Nat → Nat) : goodW.all (fun f => f == 141 || chkP (okW sh) tabs fsL fsC f) = true := by kernel_rfl
theorem sameW : goodW.all (fun f => !(f == 52)) = true := by kernel_rfl
theorem allIW : goodW.all (fun f => (tabs.inits.idxOf? f).isNone) = true := by kernel_rfl
theorem progsW (sh : Nat → Nat) (Fz : Fr) : Progs (okW sh) tabs Fz fsL fsC := by
  refine ⟨fun h => by simp [okW] at h, fun f hf => ?_⟩
  have hm : f ∈ goodW := by simpa [okW] using hf
  have hc := List.all_eq_true.1 (allW sh) f hm
  have hs := List.all_eq_true.1 sameW f hm
  have hn : f ≠ 52 := by simpa using hs
  by_cases e : f = 141
  · obtain ⟨fn, h1, h2, h3, h4, h5⟩ := cmp_fn
    rw [← e] at h1
    have h1' : fsL[f]? = some fn := (same_fn hn).trans h1
    refine ⟨fn, fn, h1', h1, .inr ⟨by simp [okW, e], rfl, ?_⟩⟩
    intro R args args' h
    exact @Sim.cmpstring (okW sh) tabs Fz fsL fsC R f fn h1' h1 h2 h3 h4 h5 args args' h
  · have hc : chkP (okW sh) tabs fsL fsC f = true := (Bool.or_eq_true_iff.1 hc).resolve_left fun x => e (eq_of_beq x)
    obtain ⟨fn, fn', h1, h2, a, b, c, d, x⟩ := chk_get hc
    refine ⟨fn, fn', h1, h2, .inl ⟨by simp [okW, e], a, b, c, d, fun _ => ⟨?_, x⟩⟩⟩
    rw [same_fn hn, h2] at h1
    exact Option.some.inj h1
theorem initsW (sh : Nat → Nat) : ∀ f, (okW sh).ok f = true → tabs.inits.idxOf? f = none := fun f hf => by
  have hm : f ∈ goodW := by simpa [okW] using hf
  simpa using List.all_eq_true.1 allIW f hm
end Go.Proofs.Ytgkakgibgfehaaa.Sim

namespace Go.Proofs.Ytgkakgibgfehaaa.Sim
open Go.Conc
theorem tq_run {sh : Nat → Nat} {Z : Nat → Prop} (hJ : Jump (okS sh) tabs fsL fsC (fzB Z) 52) {R : Ren} {args args' : Array Value} {w W : World} (hR : Rows (okS sh) R args args') (hN : Near (okS sh) tabs (fzB Z) R w W)
    {f : Nat} (hf : goodL.contains f = true) (he : (f == 141) = false) (hr : (f != 52) = true)
    {Q : Value → World → Prop} (hQ : ∀ v w t d, Q v w → Q v (on w t d)) (hC : ∀ t d, Calls Tq.prog f args (on w t d) fun e w' => ∃ v, e = .returned v ∧ Q v w') {Post : Value → World → Prop}
    (hp : ∀ R₁ w₁ w₁' d v v', Kept (fzB Z) R W R₁ w₁' → Q v w₁ → VRel (okS sh) R₁ v v' → Near (okS sh) tabs (fzB Z) R₁ w₁ w₁' → Post v' (w₁'.at d)) :
    ∃ M last o w' t', runNT Try.prog (M + 1) (solo (G (Frame.enter Try.prog f args' .normal) []) W) #[] = (.ended o w', t') ∧ runN Try.prog M (solo (G (Frame.enter Try.prog f args' .normal) []) W) = .next last ∧ step Try.prog last = .ended o w' ∧ Good Try.prog Post last o w' t' := by
  have hM : Must (prg tabs fsL) [junk] Q (Frame.enter (prg tabs fsL) f args .normal) [] w :=
    must_call soundT hQ (R := dg R) ⟨dg_diag, enter_rel (soundT.progs none) (ok := okT) hf he rfl (Rows.left (ok1 := okT) (ok := okS sh) rfl (fun _ => rfl) hR), .nil, Near.self (ok1 := okT) (ok := okS sh) (Fz := fzB Z) rfl rfl (fun _ => rfl) (fun _ => rfl) hN⟩ hC
  refine solo_good (ok := okS sh) (T := tabs) (FL := fsL) (FC := fsC) (Fz := fzB Z) (progsS (sh := sh) (Fz := fzB Z) rfl) initsS rfl (fun g hg hrd => ?_) (enter_rel (progsS (sh := sh) (Fz := fzB Z) rfl) hf he hr hR) hN hM fun R₁ w₁ w₁' d v v' hk hq hv hn => ?_
  · have : g = 52 := by simpa [okS] using hrd
    rw [this]
    exact @hJ
  · exact hp R₁ w₁ w₁' d v v' hk (by have := hQ _ _ w₁.tape w₁.drawn hq; exact this) hv hn
end Go.Proofs.Ytgkakgibgfehaaa.Sim

namespace Go.Proofs.Ytgkakgibgfehaaa.Sim
open Go.Conc
noncomputable def fsR : Array Func := Try.funcs.setIfInBounds 52 Tr.f52
theorem allSR (sh : Nat → Nat) : goodL.all (fun f => f == 141 || chkP (okS sh) tabs fsR fsC f) = true := by kernel_rfl
theorem allTR : goodL.all (fun f => f == 141 || chkP okT tabs fsR fsR f) = true := by kernel_rfl
theorem same_fnR {f : Nat} (h : f ≠ 52) : fsR[f]? = fsC[f]? := Array.getElem?_setIfInBounds_ne (Ne.symm h)
theorem progsR {sh : Nat → Nat} {Fz : Fr} (ho : Fz.out = true) : Progs (okS sh) tabs Fz fsR fsC := by
  refine ⟨fun _ => ho, fun f hf => ?_⟩
  have hm : f ∈ goodL := by simpa [okS] using hf
  have hc := List.all_eq_true.1 (allSR sh) f hm
  by_cases e : f = 141
  · obtain ⟨fn, h1, h2, h3, h4, h5⟩ := cmp_fn
    rw [← e] at h1
    have h1' : fsR[f]? = some fn := (same_fnR (by omega)).trans h1
    refine ⟨fn, fn, h1', h1, .inr ⟨by simp [okS, e], rfl, ?_⟩⟩
    intro R args args' h
    exact @Sim.cmpstring (okS sh) tabs Fz fsR fsC R f fn h1' h1 h2 h3 h4 h5 args args' h
  · have hc : chkP (okS sh) tabs fsR fsC f = true := (Bool.or_eq_true_iff.1 hc).resolve_left fun x => e (eq_of_beq x)
    obtain ⟨fn, fn', h1, h2, a, b, c, d, x⟩ := chk_get hc
    refine ⟨fn, fn', h1, h2, .inl ⟨by simp [okS, e], a, b, c, d, fun hr => ⟨?_, x⟩⟩⟩
    have hn : f ≠ 52 := by simpa [okS] using hr
    rw [same_fnR hn, h2] at h1
    exact Option.some.inj h1
theorem soundR : Sound okT tabs fsR := by
  refine ⟨fun l => ⟨fun _ => rfl, fun f hf => ?_⟩, fun f hf => ?_, fun _ => rfl, fun _ _ => rfl⟩
  · have hm : f ∈ goodL := by simpa [okT] using hf
    have hc := List.all_eq_true.1 allTR f hm
    by_cases e : f = 141
    · obtain ⟨fn, h1, h2, h3, h4, h5⟩ := cmp_fn
      rw [← e] at h1
      have h1' : fsR[f]? = some fn := (same_fnR (by omega)).trans h1
      refine ⟨fn, fn, h1', h1', .inr ⟨by simp [okT, e], rfl, ?_⟩⟩
      intro R args args' h
      exact @Sim.cmpstring okT tabs (noFz l) fsR fsR R f fn h1' h1' h2 h3 h4 h5 args args' h
    · have hc : chkP okT tabs fsR fsR f = true := (Bool.or_eq_true_iff.1 hc).resolve_left fun x => e (eq_of_beq x)
      obtain ⟨fn, fn', h1, h2, a, b, c, d, x⟩ := chk_get hc
      refine ⟨fn, fn', h1, h2, .inl ⟨by simp [okT, e], a, b, c, d, fun _ => ⟨?_, x⟩⟩⟩
      rw [h1] at h2
      exact (Option.some.inj h2).symm
  · have hm : f ∈ goodL := by simpa [okT] using hf
    have := List.all_eq_true.1 allI f hm
    simpa using this
/-- Nobody comes to countsOfParts there. -/
theorem jumpR {sh : Nat → Nat} {Fz : Fr} : ∀ f, (okS sh).ok f = true → (okS sh).rd f = false → Jump (okS sh) tabs fsR fsC Fz f := by
  intro f hf hr
  have e : f = 52 := by simpa [okS] using hr
  subst e
  intro Q R c c' w w' Sb gs t q sl c1 cs c1' bs hM
  exfalso
  have hfn : (prg tabs fsR).funcs[52]? = some Tr.f52 := by kernel_rfl
  rw [enter_at c hfn rfl] at hM
  obtain ⟨u, hu, -⟩ := hM.cond
  exact absurd hu (by show Value.int .i64 0 ≠ .bool u; intro h; cases h)
end Go.Proofs.Ytgkakgibgfehaaa.Sim
