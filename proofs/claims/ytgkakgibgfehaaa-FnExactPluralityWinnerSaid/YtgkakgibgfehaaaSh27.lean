/-
  COMPANY: a function is called beside goroutines that only leave, by a lone contract; it comes back to the caller.
  COMPANY: goroutine 0's plain steps beside others that only leave ('Walk'); the operations ahead of countsOfParts' loop.
  COMPANY: countsOfParts' code ahead of its loop, in two walks (to the call of Chunk, and from behind Collect to the loop's head).
  WHAT IS RELATED TO ONE VALUE IS ONE VALUE: so a call that leaves the lone start's blocks as they were leaves the related ones as they were.
-/
import Derived.Test.YtgkakgibgfehaaaCoA
import Derived.Test.YtgkakgibgfehaaaSh14
import Derived.Test.YtgkakgibgfehaaaSh2
import Derived.Test.YtgkakgibgfehaaaSh20
import Derived.Test.YtgkakgibgfehaaaSh21
import Derived.Laws.MakeOwn
import Derived.Room.Make
namespace Go.Proofs.Ytgkakgibgfehaaa.Sim
open Go.Conc
section
variable {ok : Cx} {T : Tables} {FL FC : Array Func} {Fz : Fr} {Q : Value → World → Prop} {Sb : Nat → Prop} {R : Ren} {fr fr' c1' : Frame} {bs : List Frame} {w w' : World} {gs : Array Goroutine} {t : Trace} {q : Nat → Nat} {sl : Option (Nat × Nat)}
/-- A callee that has come to its return goes back to the caller. -/
theorem beside_return (P : Progs ok T Fz FL FC) (hl : Fz.lim = none) (A : At ok T FC Fz (c1' :: bs) Sb R fr [] w fr' [] w' gs t q)
    (hs : ∀ t d, ∃ v, fr.leaving (prg T FL) (on w t d) (.returned v) ∧ Q v (on w t d)) :
    ∃ N gs' sl' t' q' d v v', runNT (prg T FC) N (crowd gs w' sl) t = (.next (crowd gs' (w'.at d) sl'), t') ∧ Team (prg T FC) (shun Sb) w'.heap.size gs' (G (c1'.finish v') bs) t' q' ∧ Q v (on w w'.tape d) ∧ VRel ok R v v' := by
  obtain ⟨N, gs', a', w2, sl', t', q', hr, -, hT, hK⟩ := beside_go' (sl := sl) (Nat.le_refl _) A.team rfl (K := fun a' w2 => ∃ d v v', w2 = w'.at d ∧ a' = G (c1'.finish v') bs ∧ Q v (on w w'.tape d) ∧ VRel ok R v v') fun d => by
    obtain ⟨v, ⟨hm, hd, hk, fn, hf, hr⟩, hq⟩ := hs w'.tape d
    have hw : Near ok T Fz R w (w'.at d) := A.near.draw w'.tape d
    have h1 := results_sim (Fz := Fz) (FL := FL) (FC := FC) (fn := fn) A.frame.tmps R (Le.refl R) (on w w'.tape d) (w'.at d) hw #[]
    rw [hr] at h1
    obtain ⟨R₂, v', w₁', new, e, hx, hw2, hv, hev⟩ := h1 (fun m h => by rw [hl] at h; cases h)
    have e2 : (results fn fr'.tmps).run (prg T FC) (w'.at d) = .ok v' w₁' := by
      rw [← Sem.runT_fst _ _ _ #[], e]
    obtain rfl := Still.results fn fr'.tmps _ _ _ _ e2
    have hR2 : ∀ b b', R₂ b b' → R b b' := by
      intro b b' x
      rcases hx.new b b' x with x1 | ⟨x1, x2, -⟩
      · exact x1
      · have := hw2.below x
        omega
    have hmode : fr'.mode = .returning := by
      have := A.frame.mode
      rw [hm] at this
      revert this
      generalize fr'.mode = x
      intro h
      cases h
      rfl
    have hdef : fr'.defers = [] := by
      have := A.frame.defers
      rw [hd] at this
      revert this
      generalize fr'.defers = x
      intro h
      cases h
      rfl
    have hf' : (prg T FC).funcs[fr'.fn]? = some fn := by
      obtain ⟨g, g', f1, f2, f3⟩ := P.2 fr.fn A.frame.okf
      have : g' = g := by
        rcases f3 with ⟨_, _, _, _, _, f3⟩ | ⟨_, f3, _⟩
        · exact (f3 A.frame.ord).1
        · exact f3
      subst this
      rw [show (prg T FL).funcs[fr.fn]? = some g' from f1] at hf
      cases hf
      rw [A.frame.fn]
      exact f2
    have hgo : stepG (prg T FC) true (G fr' ([] ++ c1' :: bs)) (w'.at d) = .go (G (c1'.finish v') bs) (w'.at d) (seen (prg T FC) fr'.fn new) := by
      rw [List.nil_append, stepG_unw (by rw [hmode]; intro h; cases h)]
      unfold unwind
      simp only [hdef, hmode, hf', e]
      unfold doReturn
      simp only [A.frame.kind']
      simp [GStep.after, G]
    refine ⟨_, _, _, hgo, fun e he => ?_, d, v, v', rfl, rfl, hq, hv.mono hR2⟩
    exact evIm_evL hw2 (fun b b' x => A.safe b b' (hR2 b b' x)) (hev e (by simpa using seen_sub he))
  obtain ⟨d, v, v', rfl, rfl, k1, k2⟩ := hK
  exact ⟨N, gs', sl', t', q', d, v, v', hr, hT, k1, k2⟩
end
section
variable {sh : Nat → Nat} {Z : Nat → Prop} {Q : Value → World → Prop} {Sb : Nat → Prop} {R : Ren} {c1' : Frame} {bs : List Frame} {w w' : World} {gs : Array Goroutine} {t : Trace} {q : Nat → Nat} {sl : Option (Nat × Nat)}
/-- A call beside goroutines that only leave, by a lone contract over the program whose countsOfParts is stuck. -/
theorem call_beside {f : Nat} (hf : (okS sh).ok f = true) (he : (okS sh).ext f = false) (hrd : (okS sh).rd f = true) {args args' : Array Value} (hr : Rows (okS sh) R args args') (hN : Near (okS sh) tabs (fzB Z) R w w') (hQ : ∀ v w t d, Q v w → Q v (on w t d))
    (hC : ∀ t d, Calls Tr.prog f args (on w t d) fun e w1 => ∃ v, e = .returned v ∧ Q v w1) (hT : Team (prg tabs fsC) (shun Sb) w'.heap.size gs (G (Frame.enter (prg tabs fsC) f args' .normal) (c1' :: bs)) t q)
    (hsafe : ∀ b b', R b b' → ¬ Sb b') (hold : ∀ b, Sb b → b < w'.heap.size) :
    ∃ N gs' sl' t' q' Sb' R₁ w₁ w₁' v v', runNT (prg tabs fsC) N (crowd gs w' sl) t = (.next (crowd gs' w₁' sl'), t') ∧ Team (prg tabs fsC) (shun Sb') w₁'.heap.size gs' (G (c1'.finish v') bs) t' q' ∧ Near (okS sh) tabs (fzB Z) R₁ w₁ w₁' ∧ VRel (okS sh) R₁ v v' ∧ Q v w₁ ∧
      Kept (fzB Z) R w' R₁ w₁' ∧ (∀ b b', R₁ b b' → ¬ Sb' b') ∧ ∀ b, Sb' b → b < w₁'.heap.size := by
  have hM : Must (prg tabs fsR) [junk] Q (Frame.enter (prg tabs fsR) f args .normal) [] w :=
    must_call soundR hQ (R := dg R) ⟨dg_diag, enter_rel (soundR.progs none) (ok := okT) hf he rfl (Rows.left (ok1 := okT) (ok := (okS sh)) rfl (fun _ => rfl) hr), .nil, Near.self (ok1 := okT) (ok := (okS sh)) (Fz := fzB Z) rfl rfl (fun _ => rfl) (fun _ => rfl) hN⟩ hC
  obtain ⟨N, gs1, sl1, t1, q1, Sb1, R1, fr1, w1, fr1', w1', r1, A1, hs, hk⟩ := beside_must (progsR (Fz := fzB Z) rfl) initsS rfl jumpR hM (bC := c1' :: bs) (sl := sl) ⟨enter_rel (progsR (Fz := fzB Z) rfl) hf he hrd hr, .nil, hN, hT, hsafe, hold⟩
  obtain ⟨N2, gs2, sl2, t2, q2, d, v, v', r2, hT2, hq, hv⟩ := beside_return (progsR (Fz := fzB Z) rfl) rfl (sl := sl1) A1 hs
  exact ⟨N + N2, gs2, sl2, t2, q2, Sb1, R1, on w1 w1'.tape d, w1'.at d, v, v', (runNT_add N N2 _ _ r1).trans r2, hT2, A1.near.draw w1'.tape d, hv, hq, ⟨hk.le, hk.new, hk.size, hk.keep, hk.os, hk.output, hk.tape⟩, A1.safe, A1.old⟩
end
end Go.Proofs.Ytgkakgibgfehaaa.Sim

namespace Go.Proofs.Ytgkakgibgfehaaa.Ph
open Go.Conc Go.ConcN Go.RowKit Go.ConcR.Gen Go.ConcN.Gen Go.Proofs.Ytgkakgibgfehaaa.Sim
/-- Steps of goroutine 0, the same however the others are timed; what they touch lies below B. -/
inductive Walk (P : Program) (Sb : Nat → Prop) (B : Nat) : Goroutine → World → Goroutine → World → Prop
  | nil (g : Goroutine) (w : World) : Walk P Sb B g w g w
  | cons {g g₁ g₂ : Goroutine} {w w₁ w₂ : World} : g.status = .running → (∀ d, ∃ es, stepG P true g (w.at d) = .go g₁ (w₁.at d) es ∧ ∀ e ∈ es, EvL (shun Sb) B e) → Walk P Sb B g₁ w₁ g₂ w₂ → Walk P Sb B g w g₂ w₂
section
variable {P : Program} {Sb : Nat → Prop} {B B' : Nat} {g g₁ g₂ : Goroutine} {w w₁ w₂ : World}
theorem Walk.idle (hr : g.status = .running) (h : ∀ d, stepG P true g (w.at d) = .go g₁ (w₁.at d) #[]) (k : Walk P Sb B g₁ w₁ g₂ w₂) : Walk P Sb B g w g₂ w₂ :=
  .cons hr (fun d => ⟨_, h d, fun e he => by simp at he⟩) k
theorem beside_walk (hW : Walk P Sb B' g w g₁ w₁) (hB : B ≤ B') : ∀ {gs : Array Goroutine} {sl : Option (Nat × Nat)} {t : Trace} {q : Nat → Nat} (d0 : Nat), Team P (shun Sb) B gs g t q →
    ∃ N gs' sl' t' q' d, runNT P N (crowd gs (w.at d0) sl) t = (.next (crowd gs' (w₁.at d) sl'), t') ∧ gs'.size = gs.size ∧ Team P (shun Sb) B' gs' g₁ t' q' := by
  induction hW generalizing B with
  | nil g w =>
    intro gs sl t q d0 hT
    exact ⟨0, gs, sl, t, q, d0, rfl, rfl, ⟨hT.zero, hT.others, hT.past, fun op ho y hy => Loc.low_mono hB (hT.low op ho y hy), hT.quiet, hT.rest, hT.ids⟩⟩
  | cons hr h k ih =>
    intro gs sl t q d0 hT
    obtain ⟨N, gs1, a1, w1, sl1, t1, q1, r1, s1, hT1, ⟨rfl, d, rfl⟩⟩ := beside_go' (sl := sl) (w := World.at _ d0) hB hT hr (K := fun a' w' => a' = _ ∧ ∃ d, w' = World.at _ d) fun d => by
      obtain ⟨es, h1, h2⟩ := h d
      exact ⟨_, _, es, h1, h2, rfl, d, rfl⟩
    obtain ⟨N2, gs2, sl2, t2, q2, d2, r2, s2, hT2⟩ := ih (Nat.le_refl _) (sl := sl1) d hT1
    exact ⟨N + N2, gs2, sl2, t2, q2, d2, (Sim.runNT_add N N2 _ _ r1).trans r2, s2.trans s1, hT2⟩
end
section
variable {P : Program} {main : Bool} {b : Frame} {a : Act} {kk : List Item} {cs : List Frame} {w : World} {ops : Array Oper} {i : Nat} {rest : List Nat} {o : Oper}
/-- An assignment, as one step. -/
theorem step_assign {x : Operand} {v : Value} (ho : ops[i]? = some o) (hw : Region.wanted o (yielded ops a.tmps) = true) (hk : b.kind ≠ .early) (hop : o.op = .assign x) (hx : a.eval x = v) :
    stepG P main (G (b.at a (.inRegion ops (i :: rest) :: kk)) cs) w = .go (G (b.at (a.put o.dst v) (.inRegion ops rest :: kk)) cs) w #[] := by
  have hr : (execOp a.eval o).run P w = .ok (.value v) w := by
    unfold execOp
    simp only [hop, hx]
    simp [go_sem]
  have he : (execOp a.eval o).events P w #[] = #[] := by
    unfold execOp
    simp only [hop, hx]
    simp [go_sem]
  rw [stepG_value ho hw hk hr, listed_nil he]
/-- A slice is boxed, as one step. -/
theorem step_box {t : TypeId} {x : Operand} {pa : Option Addr} {l c : Nat} (ho : ops[i]? = some o) (hw : Region.wanted o (yielded ops a.tmps) = true) (hk : b.kind ≠ .early) (hop : o.op = .box t x) (hx : a.eval x = .slice pa l c) :
    stepG P main (G (b.at a (.inRegion ops (i :: rest) :: kk)) cs) w = .go (G (b.at (a.put o.dst (.pointer (some ⟨w.heap.size, 0, none⟩))) (.inRegion ops rest :: kk)) cs) (w.alloc (.cells #[.slice pa l c] t)) #[] := by
  have hr : (execOp a.eval o).run P w = .ok (.value (.pointer (some ⟨w.heap.size, 0, none⟩))) (w.alloc (.cells #[.slice pa l c] t)) := by
    unfold execOp
    simp only [hop, hx]
    simp [go_sem]
  have he : (execOp a.eval o).events P w #[] = #[] := by
    unfold execOp
    simp only [hop, hx]
    simp [go_sem]
  rw [stepG_value ho hw hk hr, listed_nil he]
/-- A slice's length, as one step. -/
theorem step_len {t e : TypeId} {x : Operand} {pa : Option Addr} {l c : Nat} (ho : ops[i]? = some o) (hw : Region.wanted o (yielded ops a.tmps) = true) (hk : b.kind ≠ .early) (hop : o.op = .call { callee := .builtin .len, args := #[x], argTypes := #[t] }) (hU : P.underlying t = some (.slice e)) (hx : a.eval x = .slice pa l c) :
    stepG P main (G (b.at a (.inRegion ops (i :: rest) :: kk)) cs) w = .go (G (b.at (a.put o.dst (.int .i64 (l : Nat))) (.inRegion ops rest :: kk)) cs) w #[] := by
  have hm : (#[x] : Array Operand).map a.eval = #[.slice pa l c] := by simp only [List.map_toArray, List.map, hx]
  have hr : (execOp a.eval o).run P w = .ok (.value (.int .i64 (l : Nat))) w := by
    unfold execOp
    simp only [hop, resolve, hm]
    simp [go_sem, invoke, builtin, Builtin.len_, run_underlying hU, goInt]
  have he : (execOp a.eval o).events P w #[] = #[] := by
    unfold execOp
    simp only [hop, resolve, hm]
    simp [go_sem, invoke, builtin, Builtin.len_, run_underlying hU, goInt]
  rw [stepG_value ho hw hk hr, listed_nil he]
theorem make_events {t e : TypeId} {n : Nat} {inf : TypeInfo} {z : Value} (hU : P.underlying t = some (.slice e)) (hi : P.info? e = some inf) (hz : inf.zero = some z) (hb24 : inf.bytes ≤ 24) (hn : n ≤ 1048600) : (Instr.makeSlice t (.int .i64 (n : Nat)) (.int .i64 (n : Nat))).events P w #[] = #[] := by
  have hbytes : (inf.bytes : Int) * (n : Int) ≤ 281474976710656 ∧ ¬ roomBytes < n * inf.bytes := by
    have h1 : inf.bytes * n ≤ 24 * 1048600 := Nat.mul_le_mul hb24 hn
    have h2 : ((inf.bytes * n : Nat) : Int) = (inf.bytes : Int) * (n : Int) := Int.natCast_mul _ _
    have h3 : n * inf.bytes = inf.bytes * n := Nat.mul_comm _ _
    unfold roomBytes
    refine ⟨by omega, ?_⟩
    rw [h3]
    have : (2 : Nat) ^ 47 = 140737488355328 := by decide
    omega
  obtain ⟨hbytes, hroom⟩ := hbytes
  have wl : IntKind.i64.wrap (n : Int) = n := by rw [IntKind.wrap_i64]; omega
  have n2 : ¬ (281474976710656 < (inf.bytes : Int) * n) := by omega
  have n3 : ¬ ((n : Int) < 0) := by omega
  unfold Sem.events
  by_cases h0 : n * inf.size = 0
  · simp [-Sem.runT_eq, Instr.makeSlice, Room.Sem.bind_def, Room.Sem.pure_def', underlying, typeInfo, sizeOf, program, asInt, asIntOf, askRoom, newRow, newObj, Sem.bind, Sem.runT, hU, hi, wl, n2, n3, h0, hroom]
  · simp [-Sem.runT_eq, Instr.makeSlice, Room.Sem.bind_def, Room.Sem.pure_def', underlying, typeInfo, sizeOf, zeroValue, program, asInt, asIntOf, askRoom, newRow, newObj, Sem.bind, Sem.runT, hU, hi, hz, wl, n2, n3, h0, hroom]
/-- A slice is made, as one step. -/
theorem step_make {t e : TypeId} {x y : Operand} {n : Nat} {inf : TypeInfo} {z : Value} (ho : ops[i]? = some o) (hw : Region.wanted o (yielded ops a.tmps) = true) (hk : b.kind ≠ .early)
    (hop : o.op = .makeSlice t x y) (hx : a.eval x = .int .i64 (n : Nat)) (hy : a.eval y = .int .i64 (n : Nat)) (hU : P.underlying t = some (.slice e)) (hi : P.info? e = some inf) (hz : inf.zero = some z) (hb24 : inf.bytes ≤ 24) (hn : n ≤ 1048600) :
    stepG P main (G (b.at a (.inRegion ops (i :: rest) :: kk)) cs) w = .go (G (b.at (a.put o.dst (.slice (some ⟨w.heap.size, 0, none⟩) n n)) (.inRegion ops rest :: kk)) cs) (w.alloc (.cells (madeCells z.cells (n * inf.size)) e)) #[] := by
  have hbytes : (inf.bytes : Int) * (n : Int) ≤ 281474976710656 := by
    have h1 : inf.bytes * n ≤ 24 * 1048600 := Nat.mul_le_mul hb24 hn
    have h2 : ((inf.bytes * n : Nat) : Int) = (inf.bytes : Int) * (n : Int) := Int.natCast_mul _ _
    omega
  have hr0 := run_make (P := P) w t e inf z hU hi hz .i64 .i64 (n : Int) (n : Int) (by omega) (Int.le_refl _) hbytes (by omega)
  simp only [Int.toNat_natCast] at hr0
  have hr : (execOp a.eval o).run P w = .ok (.value (.slice (some ⟨w.heap.size, 0, none⟩) n n)) (w.alloc (.cells (madeCells z.cells (n * inf.size)) e)) := by
    unfold execOp
    simp only [hop, hx, hy]
    simp [go_sem, hr0]
  have he : (execOp a.eval o).events P w #[] = #[] := by
    unfold execOp
    simp only [hop, hx, hy]
    simp [go_sem, make_events hU hi hz hb24 hn]
  rw [stepG_value ho hw hk hr, listed_nil he]
end
end Go.Proofs.Ytgkakgibgfehaaa.Ph

namespace Go.Proofs.Ytgkakgibgfehaaa.Ph
open Go.Conc Go.ConcN Go.RowKit Go.ConcR.Gen Go.ConcN.Gen Go.Proofs.Ytgkakgibgfehaaa.Sim
noncomputable def opsM0 : Array Oper := opsC (fstC bodyM)
noncomputable def codeM1 : Code := sndC bodyM
noncomputable def opsM1 : Array Oper := opsC (fstC codeM1)
noncomputable def codeM2 : Code := sndC codeM1
noncomputable def opsM2 : Array Oper := opsC (fstC codeM2)
noncomputable def codeM3 : Code := sndC codeM2
noncomputable def opsM3 : Array Oper := opsC (fstC codeM3)
noncomputable def opsM4 : Array Oper := opsC (fstC (fstC codeM))
theorem bodyM_eq : bodyM = .seq (.region 0 opsM0 false) codeM1 := rfl
theorem codeM1_eq : codeM1 = .seq (.region 1 opsM1 false) codeM2 := rfl
theorem codeM2_eq : codeM2 = .seq (.region 2 opsM2 false) codeM3 := rfl
theorem codeM3_eq : codeM3 = .seq (.region 3 opsM3 false) codeM := rfl
theorem codeM_eq : codeM = .seq (.seq (.region 4 opsM4 false) (.block 0 (.loop LM))) restM := rfl
theorem nmChunk' : (Try.f84.name == "runtime.NumGoroutine") = false := by kernel_rfl
theorem nmColl' : (Try.f83.name == "runtime.NumGoroutine") = false := by kernel_rfl
theorem enterM (c : Array Value) : Frame.enter PP 52 c .normal = bM.at ⟨c ++ Array.replicate (28 - c.size) undef, []⟩ [.code bodyM] := by
  have h : PP.funcs[52]? = some Try.f52 := Try.func52
  simp [Frame.enter, h, bM, base, Frame.at, bodyM, Try.f52]
section
variable {Sb : Nat → Prop} {B : Nat} {a : Act} {cs : List Frame} {w : World}
/-- To the call of Chunk. -/
theorem head_chunk {pa : Option Addr} {l ca m cb : Nat} {pb : Addr} (hs : 28 ≤ a.tmps.size) (h0 : a.eval (.tmp 0) = .slice pa l ca) (h1 : a.eval (.tmp 1) = .slice (some pb) m cb) :
    ∃ a1, a1.defers = a.defers ∧ 28 ≤ a1.tmps.size ∧ a1.eval (.tmp 3) = ptr w.heap.size ∧
      Walk PP Sb B (G (bM.at a [.code bodyM]) cs) w (G (Frame.enter PP 84 #[.slice pa l ca, .int .i64 4] .normal) (bM.at a1 (.inRegion opsM1 [1, 2, 3] :: [.code codeM2]) :: cs)) (w.alloc (.cells #[.slice (some pb) m cb] 24)) := by
  have lt : ∀ d, d < 28 → d < a.tmps.size := fun d h => by omega
  refine ⟨((a.put (some 3) (ptr w.heap.size)).put (some 4) (.slice none 0 0)).put (some 10) (.slice pa l ca), rfl, by simp only [put_size]; exact hs, by simp [eval_put, put_size, lt], ?_⟩
  rw [bodyM_eq, codeM1_eq]
  refine Walk.idle rfl (fun d => stepG_seq) (Walk.idle rfl (fun d => stepG_region) ?_)
  rw [show List.range opsM0.size = [0, 1] from rfl]
  have e1 : ∀ d, stepG PP true (G (bM.at a (.inRegion opsM0 [0, 1] :: [.code (.seq (.region 1 opsM1 false) codeM2)])) cs) (w.at d) = .go (G (bM.at (a.put (some 3) (ptr w.heap.size)) (.inRegion opsM0 [1] :: [.code (.seq (.region 1 opsM1 false) codeM2)])) cs) (World.at (w.alloc (.cells #[.slice (some pb) m cb] 24)) d) #[] :=
    fun d => step_box (b := bM) (o := oAt opsM0 0) (w := w.at d) rfl rfl (by decide) rfl h1
  refine Walk.idle rfl e1 ?_
  refine Walk.idle rfl (fun d => step_assign (b := bM) (o := oAt opsM0 1) (v := .slice none 0 0) rfl rfl (by decide) rfl rfl) ?_
  refine Walk.idle rfl (fun d => stepG_region_end) (Walk.idle rfl (fun d => stepG_seq) (Walk.idle rfl (fun d => stepG_region) ?_))
  rw [show List.range opsM1.size = [0, 1, 2, 3] from rfl]
  refine Walk.idle rfl (fun d => move_step (b := bM) (o := oAt opsM1 0) (v := .slice pa l ca) rfl rfl (by decide) rfl (by
    show ((a.put (some 3) (ptr w.heap.size)).put (some 4) (.slice none 0 0)).eval (.tmp 0) = _
    simpa [eval_put, put_size, lt] using h0)) ?_
  refine Walk.idle (g₁ := G (Frame.enter PP 84 #[.slice pa l ca, .int .i64 4] .normal) (bM.at (((a.put (some 3) (ptr w.heap.size)).put (some 4) (.slice none 0 0)).put (some 10) (.slice pa l ca)) (.inRegion opsM1 [1, 2, 3] :: [.code codeM2]) :: cs)) rfl (fun d => ?_) (Walk.nil _ _)
  have hst := step_call (P := PP) (main := true) (b := bM) (a := ((a.put (some 3) (ptr w.heap.size)).put (some 4) (.slice none 0 0)).put (some 10) (.slice pa l ca)) (kk := [.code codeM2]) (cs := cs) (w := World.at (w.alloc (.cells #[.slice (some pb) m cb] 24)) d) (ops := opsM1) (i := 1) (rest := [2, 3]) (o := oAt opsM1 1) rfl rfl (by decide) rfl Try.func84 nmChunk' rfl
  have hargs : (#[Operand.tmp 10, .const (.int .i64 4)].map (((a.put (some 3) (ptr w.heap.size)).put (some 4) (.slice none 0 0)).put (some 10) (.slice pa l ca)).eval) = #[.slice pa l ca, .int .i64 4] := by
    have k : (((a.put (some 3) (ptr w.heap.size)).put (some 4) (.slice none 0 0)).put (some 10) (.slice pa l ca)).eval (.tmp 10) = .slice pa l ca := by rw [eval_put (by simp [put_size, lt]), if_pos rfl]
    simp [k]
    rfl
  rw [hargs] at hst
  exact hst
/-- From behind Chunk to the call of Collect. -/
theorem head_coll {v : Value} (hs : 28 ≤ a.tmps.size) :
    Walk PP Sb B (G ((bM.at a (.inRegion opsM1 [1, 2, 3] :: [.code codeM2])).finish v) cs) w (G (Frame.enter PP 83 #[v] .normal) (bM.at (a.put (some 11) v) (.inRegion opsM1 [2, 3] :: [.code codeM2]) :: cs)) w := by
  rw [Frame.finish_at]
  refine Walk.idle (g₁ := G (Frame.enter PP 83 #[v] .normal) (bM.at (a.put (some 11) v) (.inRegion opsM1 [2, 3] :: [.code codeM2]) :: cs)) rfl (fun d => ?_) (Walk.nil _ _)
  have hst := step_call (P := PP) (main := true) (b := bM) (a := a.put (some 11) v) (kk := [.code codeM2]) (cs := cs) (w := World.at w d) (ops := opsM1) (i := 2) (rest := [3]) (o := oAt opsM1 2) rfl rfl (by decide) rfl Try.func83 nmColl' rfl
  have hargs : (#[Operand.tmp 11].map (a.put (some 11) v).eval) = #[v] := by
    have k : (a.put (some 11) v).eval (.tmp 11) = v := by rw [eval_put (by omega), if_pos rfl]
    simp [k]
  rw [hargs] at hst
  exact hst
theorem ev_store {b off : Nat} (h1 : ¬ Sb b) (h2 : b < B) : ∀ e ∈ (#[⟨.cell ⟨b, off, none⟩, true, false⟩] : Array Event), EvL (shun Sb) B e := by
  intro e he
  obtain rfl : e = ⟨.cell ⟨b, off, none⟩, true, false⟩ := by simpa using he
  exact evL_cell ⟨b, off, none⟩ true h1 h2
theorem rowI_info' : (PP.info? 27).map (fun i => (i.zero, i.size, i.bytes)) = some (some (.slice none 0 0), 1, 24) := by kernel_rfl
theorem dopsM1_3 : (oAt opsM1 3).dst = some 5 := rfl
theorem dopsM2_0 : (oAt opsM2 0).dst = some 13 := rfl
theorem dopsM2_1 : (oAt opsM2 1).dst = some 14 := rfl
theorem dopsM2_2 : (oAt opsM2 2).dst = some 15 := rfl
theorem dopsM2_3 : (oAt opsM2 3).dst = some 6 := rfl
theorem dopsM3_0 : (oAt opsM3 0).dst = some 7 := rfl
theorem dopsM4_0 : (oAt opsM4 0).dst = some 16 := rfl
theorem dopsM4_1 : (oAt opsM4 1).dst = some 17 := rfl
theorem dopsM4_2 : (oAt opsM4 2).dst = some 18 := rfl
theorem dopsM2_4 : (oAt opsM2 4).dst = none := rfl
/-- The parts. -/
theorem hl0 {A : Act} {pv : Option Addr} {n cp : Nat} {K : List Item} (h : A.eval (.tmp 12) = .slice pv n cp) : ∀ d, ∃ es, stepG PP true (G (bM.at A (.inRegion opsM1 [3] :: K)) cs) (World.at w d) = .go (G (bM.at (A.put (some 5) (.slice pv n cp)) (.inRegion opsM1 [] :: K)) cs) (World.at w d) es ∧ ∀ e ∈ es, EvL (shun Sb) B e := by
  intro d
  have st := step_assign (P := PP) (main := true) (b := bM) (a := A) (kk := K) (cs := cs) (w := World.at w d) (ops := opsM1) (i := 3) (rest := []) (o := oAt opsM1 3) rfl rfl (by decide) rfl h
  rw [dopsM1_3] at st
  exact ⟨_, st, fun e he => by simp at he⟩
/-- Moved. -/
theorem hl1 {A : Act} {pv : Option Addr} {n cp : Nat} {K : List Item} (h : A.eval (.tmp 5) = .slice pv n cp) : ∀ d, ∃ es, stepG PP true (G (bM.at A (.inRegion opsM2 [0, 1, 2, 3, 4] :: K)) cs) (World.at w d) = .go (G (bM.at (A.put (some 13) (.slice pv n cp)) (.inRegion opsM2 [1, 2, 3, 4] :: K)) cs) (World.at w d) es ∧ ∀ e ∈ es, EvL (shun Sb) B e := by
  intro d
  have st := move_step (main := true) (b := bM) (a := A) (kk := K) (cs := cs) (w := World.at w d) (ops := opsM2) (i := 0) (rest := [1, 2, 3, 4]) (o := oAt opsM2 0) rfl rfl (by decide) rfl h
  rw [dopsM2_0] at st
  exact ⟨_, st, fun e he => by simp at he⟩
/-- Their number. -/
theorem hl2 {A : Act} {pv : Option Addr} {n cp : Nat} {K : List Item} (h : A.eval (.tmp 13) = .slice pv n cp) : ∀ d, ∃ es, stepG PP true (G (bM.at A (.inRegion opsM2 [1, 2, 3, 4] :: K)) cs) (World.at w d) = .go (G (bM.at (A.put (some 14) (.int .i64 n)) (.inRegion opsM2 [2, 3, 4] :: K)) cs) (World.at w d) es ∧ ∀ e ∈ es, EvL (shun Sb) B e := by
  intro d
  have st := step_len (P := PP) (main := true) (b := bM) (a := A) (kk := K) (cs := cs) (w := World.at w d) (ops := opsM2) (i := 1) (rest := [2, 3, 4]) (o := oAt opsM2 1) rfl rfl (by decide) rfl Try.underlying96 h
  rw [dopsM2_1] at st
  exact ⟨_, st, fun e he => by simp at he⟩
/-- The rows. -/
theorem hl3 {A : Act} {n : Nat} {K : List Item} (h : A.eval (.tmp 14) = .int .i64 n) {i0 : TypeInfo} (hi : PP.info? 27 = some i0) (hz0 : i0.zero = some (.slice none 0 0)) (hz1 : i0.size = 1) (hz2 : i0.bytes = 24) (hn : n ≤ 1048600) : ∀ d, ∃ es, stepG PP true (G (bM.at A (.inRegion opsM2 [2, 3, 4] :: K)) cs) (World.at w d) = .go (G (bM.at (A.put (some 15) (.slice (some ⟨w.heap.size, 0, none⟩) n n)) (.inRegion opsM2 [3, 4] :: K)) cs) (World.at (w.alloc (.cells (madeCells (Value.slice none 0 0).cells (n * 1)) 27)) d) es ∧ ∀ e ∈ es, EvL (shun Sb) B e := by
  intro d
  have st := step_make (P := PP) (main := true) (b := bM) (a := A) (kk := K) (cs := cs) (w := World.at w d) (ops := opsM2) (i := 2) (rest := [3, 4]) (o := oAt opsM2 2) rfl rfl (by decide) rfl h h Try.underlying67 hi hz0 (by omega) hn
  rw [dopsM2_2, hz1] at st
  exact ⟨_, st, fun e he => by simp at he⟩
/-- Their box. -/
theorem hl4 {A : Act} {n : Nat} {K : List Item} : ∀ d, ∃ es, stepG PP true (G (bM.at A (.inRegion opsM2 [3, 4] :: K)) cs) (World.at (w.alloc (.cells (madeCells (Value.slice none 0 0).cells (n * 1)) 27)) d) = .go (G (bM.at (A.put (some 6) (ptr (w.heap.size + 1))) (.inRegion opsM2 [4] :: K)) cs) (World.at ((w.alloc (.cells (madeCells (Value.slice none 0 0).cells (n * 1)) 27)).alloc (.cells #[.slice none 0 0] 67)) d) es ∧ ∀ e ∈ es, EvL (shun Sb) B e := by
  intro d
  have st := step_alloc (P := PP) (main := true) (b := bM) (a := A) (kk := K) (cs := cs) (w := World.at (w.alloc (.cells (madeCells (Value.slice none 0 0).cells (n * 1)) 27)) d) (ops := opsM2) (i := 3) (rest := [4]) (o := oAt opsM2 3) rfl rfl (by decide) rfl Try.zeroValue67
  rw [dopsM2_3] at st
  have e : (World.at (w.alloc (.cells (madeCells (Value.slice none 0 0).cells (n * 1)) 27)) d).heap.size = w.heap.size + 1 := by show (w.alloc (.cells (madeCells (Value.slice none 0 0).cells (n * 1)) 27)).heap.size = _; simp
  rw [e] at st
  exact ⟨_, st, fun e he => by simp at he⟩
/-- Stored. -/
theorem hl5 {A : Act} {n : Nat} {K : List Item} (h6 : A.eval (.tmp 6) = ptr (w.heap.size + 1)) (h15 : A.eval (.tmp 15) = .slice (some ⟨w.heap.size, 0, none⟩) n n) (hS : ¬ Sb (w.heap.size + 1)) (hB : w.heap.size + 1 < B) : ∀ d, ∃ es, stepG PP true (G (bM.at A (.inRegion opsM2 [4] :: K)) cs) (World.at ((w.alloc (.cells (madeCells (Value.slice none 0 0).cells (n * 1)) 27)).alloc (.cells #[.slice none 0 0] 67)) d) = .go (G (bM.at A (.inRegion opsM2 [] :: K)) cs) (World.at (((w.alloc (.cells (madeCells (Value.slice none 0 0).cells (n * 1)) 27)).alloc (.cells #[.slice none 0 0] 67)).setCell ⟨w.heap.size + 1, 0, none⟩ (.slice (some ⟨w.heap.size, 0, none⟩) n n)) d) es ∧ ∀ e ∈ es, EvL (shun Sb) B e := by
  intro d
  have hb : ((w.alloc (.cells (madeCells (Value.slice none 0 0).cells (n * 1)) 27)).alloc (.cells #[.slice none 0 0] 67)).heap[w.heap.size + 1]? = some (.cells #[.slice none 0 0] 67 (0, 0)) := by
    have e : (w.alloc (.cells (madeCells (Value.slice none 0 0).cells (n * 1)) 27)).heap.size = w.heap.size + 1 := by simp
    have := heap_alloc_new (w.alloc (.cells (madeCells (Value.slice none 0 0).cells (n * 1)) 27)) (.cells #[.slice none 0 0] 67)
    rwa [e] at this
  have HC : (World.at ((w.alloc (.cells (madeCells (Value.slice none 0 0).cells (n * 1)) 27)).alloc (.cells #[.slice none 0 0] 67)) d).cell? ⟨w.heap.size + 1, 0, none⟩ = some (.slice none 0 0) := by
    show ((w.alloc (.cells (madeCells (Value.slice none 0 0).cells (n * 1)) 27)).alloc (.cells #[.slice none 0 0] 67)).cell? _ = _
    simp only [World.cell?, hb]
    rfl
  have HF : (World.at ((w.alloc (.cells (madeCells (Value.slice none 0 0).cells (n * 1)) 27)).alloc (.cells #[.slice none 0 0] 67)) d).frozen? ⟨w.heap.size + 1, 0, none⟩ = false := by
    show ((w.alloc (.cells (madeCells (Value.slice none 0 0).cells (n * 1)) 27)).alloc (.cells #[.slice none 0 0] 67)).frozen? _ = _
    simp only [World.frozen?, hb]
    rfl
  have st := step_store (P := PP) (u := .slice none 0 0) (main := true) (b := bM) (a := A) (kk := K) (cs := cs) (w := World.at ((w.alloc (.cells (madeCells (Value.slice none 0 0).cells (n * 1)) 27)).alloc (.cells #[.slice none 0 0] 67)) d) (ops := opsM2) (i := 4) (rest := []) (o := oAt opsM2 4) rfl rfl (by decide) rfl h6 h15 HC HF Try.sizeOf67 loudM
  rw [dopsM2_4, put_none] at st
  exact ⟨_, st, ev_store hS hB⟩
/-- The group. -/
theorem hl6 {A : Act} {n : Nat} {K : List Item} : ∀ d, ∃ es, stepG PP true (G (bM.at A (.inRegion opsM3 [0] :: K)) cs) (World.at (((w.alloc (.cells (madeCells (Value.slice none 0 0).cells (n * 1)) 27)).alloc (.cells #[.slice none 0 0] 67)).setCell ⟨w.heap.size + 1, 0, none⟩ (.slice (some ⟨w.heap.size, 0, none⟩) n n)) d) = .go (G (bM.at (A.put (some 7) (ptr (w.heap.size + 2))) (.inRegion opsM3 [] :: K)) cs) (World.at ((((w.alloc (.cells (madeCells (Value.slice none 0 0).cells (n * 1)) 27)).alloc (.cells #[.slice none 0 0] 67)).setCell ⟨w.heap.size + 1, 0, none⟩ (.slice (some ⟨w.heap.size, 0, none⟩) n n)).alloc (.cells #[.int .u64 0, .int .u32 0] 110)) d) es ∧ ∀ e ∈ es, EvL (shun Sb) B e := by
  intro d
  have st := step_alloc (P := PP) (main := true) (b := bM) (a := A) (kk := K) (cs := cs) (w := World.at (((w.alloc (.cells (madeCells (Value.slice none 0 0).cells (n * 1)) 27)).alloc (.cells #[.slice none 0 0] 67)).setCell ⟨w.heap.size + 1, 0, none⟩ (.slice (some ⟨w.heap.size, 0, none⟩) n n)) d) (ops := opsM3) (i := 0) (rest := []) (o := oAt opsM3 0) rfl rfl (by decide) rfl Try.zeroValue110
  rw [dopsM3_0] at st
  have e : (World.at (((w.alloc (.cells (madeCells (Value.slice none 0 0).cells (n * 1)) 27)).alloc (.cells #[.slice none 0 0] 67)).setCell ⟨w.heap.size + 1, 0, none⟩ (.slice (some ⟨w.heap.size, 0, none⟩) n n)) d).heap.size = w.heap.size + 2 := by show (((w.alloc (.cells (madeCells (Value.slice none 0 0).cells (n * 1)) 27)).alloc (.cells #[.slice none 0 0] 67)).setCell ⟨w.heap.size + 1, 0, none⟩ (.slice (some ⟨w.heap.size, 0, none⟩) n n)).heap.size = _; simp [World.setCell]
  rw [e] at st
  exact ⟨_, st, fun e he => by simp at he⟩
/-- Moved. -/
theorem hl7 {A : Act} {pv : Option Addr} {n cp : Nat} {K : List Item} (h : A.eval (.tmp 5) = .slice pv n cp) : ∀ d, ∃ es, stepG PP true (G (bM.at A (.inRegion opsM4 [0, 1, 2] :: K)) cs) (World.at ((((w.alloc (.cells (madeCells (Value.slice none 0 0).cells (n * 1)) 27)).alloc (.cells #[.slice none 0 0] 67)).setCell ⟨w.heap.size + 1, 0, none⟩ (.slice (some ⟨w.heap.size, 0, none⟩) n n)).alloc (.cells #[.int .u64 0, .int .u32 0] 110)) d) = .go (G (bM.at (A.put (some 16) (.slice pv n cp)) (.inRegion opsM4 [1, 2] :: K)) cs) (World.at ((((w.alloc (.cells (madeCells (Value.slice none 0 0).cells (n * 1)) 27)).alloc (.cells #[.slice none 0 0] 67)).setCell ⟨w.heap.size + 1, 0, none⟩ (.slice (some ⟨w.heap.size, 0, none⟩) n n)).alloc (.cells #[.int .u64 0, .int .u32 0] 110)) d) es ∧ ∀ e ∈ es, EvL (shun Sb) B e := by
  intro d
  have st := move_step (main := true) (b := bM) (a := A) (kk := K) (cs := cs) (w := World.at ((((w.alloc (.cells (madeCells (Value.slice none 0 0).cells (n * 1)) 27)).alloc (.cells #[.slice none 0 0] 67)).setCell ⟨w.heap.size + 1, 0, none⟩ (.slice (some ⟨w.heap.size, 0, none⟩) n n)).alloc (.cells #[.int .u64 0, .int .u32 0] 110)) d) (ops := opsM4) (i := 0) (rest := [1, 2]) (o := oAt opsM4 0) rfl rfl (by decide) rfl h
  rw [dopsM4_0] at st
  exact ⟨_, st, fun e he => by simp at he⟩
/-- Their number. -/
theorem hl8 {A : Act} {pv : Option Addr} {n cp : Nat} {K : List Item} (h : A.eval (.tmp 16) = .slice pv n cp) : ∀ d, ∃ es, stepG PP true (G (bM.at A (.inRegion opsM4 [1, 2] :: K)) cs) (World.at ((((w.alloc (.cells (madeCells (Value.slice none 0 0).cells (n * 1)) 27)).alloc (.cells #[.slice none 0 0] 67)).setCell ⟨w.heap.size + 1, 0, none⟩ (.slice (some ⟨w.heap.size, 0, none⟩) n n)).alloc (.cells #[.int .u64 0, .int .u32 0] 110)) d) = .go (G (bM.at (A.put (some 17) (.int .i64 n)) (.inRegion opsM4 [2] :: K)) cs) (World.at ((((w.alloc (.cells (madeCells (Value.slice none 0 0).cells (n * 1)) 27)).alloc (.cells #[.slice none 0 0] 67)).setCell ⟨w.heap.size + 1, 0, none⟩ (.slice (some ⟨w.heap.size, 0, none⟩) n n)).alloc (.cells #[.int .u64 0, .int .u32 0] 110)) d) es ∧ ∀ e ∈ es, EvL (shun Sb) B e := by
  intro d
  have st := step_len (P := PP) (main := true) (b := bM) (a := A) (kk := K) (cs := cs) (w := World.at ((((w.alloc (.cells (madeCells (Value.slice none 0 0).cells (n * 1)) 27)).alloc (.cells #[.slice none 0 0] 67)).setCell ⟨w.heap.size + 1, 0, none⟩ (.slice (some ⟨w.heap.size, 0, none⟩) n n)).alloc (.cells #[.int .u64 0, .int .u32 0] 110)) d) (ops := opsM4) (i := 1) (rest := [2]) (o := oAt opsM4 1) rfl rfl (by decide) rfl Try.underlying96 h
  rw [dopsM4_1] at st
  exact ⟨_, st, fun e he => by simp at he⟩
/-- From nought. -/
theorem hl9 {A : Act} {n : Nat} {K : List Item} : ∀ d, ∃ es, stepG PP true (G (bM.at A (.inRegion opsM4 [2] :: K)) cs) (World.at ((((w.alloc (.cells (madeCells (Value.slice none 0 0).cells (n * 1)) 27)).alloc (.cells #[.slice none 0 0] 67)).setCell ⟨w.heap.size + 1, 0, none⟩ (.slice (some ⟨w.heap.size, 0, none⟩) n n)).alloc (.cells #[.int .u64 0, .int .u32 0] 110)) d) = .go (G (bM.at (A.put (some 18) (.int .i64 0)) (.inRegion opsM4 [] :: K)) cs) (World.at ((((w.alloc (.cells (madeCells (Value.slice none 0 0).cells (n * 1)) 27)).alloc (.cells #[.slice none 0 0] 67)).setCell ⟨w.heap.size + 1, 0, none⟩ (.slice (some ⟨w.heap.size, 0, none⟩) n n)).alloc (.cells #[.int .u64 0, .int .u32 0] 110)) d) es ∧ ∀ e ∈ es, EvL (shun Sb) B e := by
  intro d
  have st := move_step (main := true) (b := bM) (a := A) (kk := K) (cs := cs) (w := World.at ((((w.alloc (.cells (madeCells (Value.slice none 0 0).cells (n * 1)) 27)).alloc (.cells #[.slice none 0 0] 67)).setCell ⟨w.heap.size + 1, 0, none⟩ (.slice (some ⟨w.heap.size, 0, none⟩) n n)).alloc (.cells #[.int .u64 0, .int .u32 0] 110)) d) (ops := opsM4) (i := 2) (rest := []) (o := oAt opsM4 2) (v := .int .i64 0) rfl rfl (by decide) rfl rfl
  rw [dopsM4_2] at st
  exact ⟨_, st, fun e he => by simp at he⟩
/-- From behind Collect to the loop's head. -/
theorem head_loop {pv : Option Addr} {n cp : Nat} {p3 : Value} (hd : a.defers = []) (hs : 28 ≤ a.tmps.size) (h3 : a.eval (.tmp 3) = p3) (hn : n ≤ 1048600) (hSb : ∀ b, Sb b → b < w.heap.size) (hB : w.heap.size + 2 = B) :
    ∃ a', a'.defers = [] ∧ 28 ≤ a'.tmps.size ∧ a'.eval (.tmp 3) = p3 ∧ a'.eval (.tmp 6) = ptr (w.heap.size + 1) ∧ a'.eval (.tmp 7) = ptr (w.heap.size + 2) ∧ a'.eval (.tmp 16) = .slice pv n cp ∧ a'.eval (.tmp 17) = .int .i64 n ∧ a'.eval (.tmp 18) = .int .i64 0 ∧
      Walk PP Sb B (G ((bM.at a (.inRegion opsM1 [2, 3] :: [.code codeM2])).finish (.slice pv n cp)) cs) w (headM a' cs)
        ((((w.alloc (.cells (madeCells (Value.slice none 0 0).cells (n * 1)) 27)).alloc (.cells #[.slice none 0 0] 67)).setCell ⟨w.heap.size + 1, 0, none⟩ (.slice (some ⟨w.heap.size, 0, none⟩) n n)).alloc (.cells #[.int .u64 0, .int .u32 0] 110)) := by
  obtain ⟨i0, hi, hz0, hz1, hz2⟩ := info_parts rowI_info'
  have put : ∀ {A : Act} (d : Nat) (v : Value), d < 28 → 28 ≤ A.tmps.size → A.defers = [] → ∃ A', A' = A.put (some d) v ∧ A'.defers = [] ∧ 28 ≤ A'.tmps.size ∧ ∀ k, A'.eval (.tmp k) = if d = k then v else A.eval (.tmp k) :=
    fun {A} d v h1 h2 h3 => ⟨_, rfl, h3, by rw [put_size]; exact h2, fun k => eval_put (by omega)⟩
  obtain ⟨A1, eA1, dA1, sA1, gA1⟩ := put (A := a) 12 (.slice pv n cp) (by decide) hs hd
  obtain ⟨A2, eA2, dA2, sA2, gA2⟩ := put (A := A1) 5 (.slice pv n cp) (by decide) sA1 dA1
  obtain ⟨A3, eA3, dA3, sA3, gA3⟩ := put (A := A2) 13 (.slice pv n cp) (by decide) sA2 dA2
  obtain ⟨A4, eA4, dA4, sA4, gA4⟩ := put (A := A3) 14 (.int .i64 n) (by decide) sA3 dA3
  obtain ⟨A5, eA5, dA5, sA5, gA5⟩ := put (A := A4) 15 (.slice (some ⟨w.heap.size, 0, none⟩) n n) (by decide) sA4 dA4
  obtain ⟨A6, eA6, dA6, sA6, gA6⟩ := put (A := A5) 6 (ptr (w.heap.size + 1)) (by decide) sA5 dA5
  obtain ⟨A7, eA7, dA7, sA7, gA7⟩ := put (A := A6) 7 (ptr (w.heap.size + 2)) (by decide) sA6 dA6
  obtain ⟨A8, eA8, dA8, sA8, gA8⟩ := put (A := A7) 16 (.slice pv n cp) (by decide) sA7 dA7
  obtain ⟨A9, eA9, dA9, sA9, gA9⟩ := put (A := A8) 17 (.int .i64 n) (by decide) sA8 dA8
  obtain ⟨A10, eA10, dA10, sA10, gA10⟩ := put (A := A9) 18 (.int .i64 0) (by decide) sA9 dA9
  refine ⟨A10, dA10, sA10, by simp [gA10, gA9, gA8, gA7, gA6, gA5, gA4, gA3, gA2, gA1, h3], by simp [gA10, gA9, gA8, gA7, gA6], by simp [gA10, gA9, gA8, gA7], by simp [gA10, gA9, gA8], by simp [gA10, gA9], by simp [gA10], ?_⟩
  rw [Frame.finish_at, show (opsM1[2]?).bind (·.dst) = some 12 from rfl, ← eA1]
  refine Walk.cons rfl (hl0 (pv := pv) (n := n) (cp := cp) (by simp [gA1])) ?_
  rw [← eA2]
  refine Walk.idle rfl (fun d => stepG_region_end) ?_
  rw [codeM2_eq]
  refine Walk.idle rfl (fun d => stepG_seq) ?_
  refine Walk.idle rfl (fun d => stepG_region) ?_
  rw [show List.range opsM2.size = [0, 1, 2, 3, 4] from rfl]
  refine Walk.cons rfl (hl1 (pv := pv) (n := n) (cp := cp) (by simp [gA2])) ?_
  rw [← eA3]
  refine Walk.cons rfl (hl2 (pv := pv) (n := n) (cp := cp) (by simp [gA3])) ?_
  rw [← eA4]
  refine Walk.cons rfl (hl3 (n := n) (by simp [gA4]) hi hz0 hz1 hz2 hn) ?_
  rw [← eA5]
  refine Walk.cons rfl (hl4 (n := n) ) ?_
  rw [← eA6]
  refine Walk.cons rfl (hl5 (n := n) (by simp [gA6]) (by simp [gA6, gA5]) (fun h => by have := hSb _ h; omega) (by omega)) ?_
  refine Walk.idle rfl (fun d => stepG_region_end) ?_
  rw [codeM3_eq]
  refine Walk.idle rfl (fun d => stepG_seq) ?_
  refine Walk.idle rfl (fun d => stepG_region) ?_
  rw [show List.range opsM3.size = [0] from rfl]
  refine Walk.cons rfl (hl6 (n := n) ) ?_
  rw [← eA7]
  refine Walk.idle rfl (fun d => stepG_region_end) ?_
  rw [codeM_eq]
  refine Walk.idle rfl (fun d => stepG_seq) ?_
  refine Walk.idle rfl (fun d => stepG_seq) ?_
  refine Walk.idle rfl (fun d => stepG_region) ?_
  rw [show List.range opsM4.size = [0, 1, 2] from rfl]
  refine Walk.cons rfl (hl7 (pv := pv) (n := n) (cp := cp) (by simp [gA7, gA6, gA5, gA4, gA3, gA2])) ?_
  rw [← eA8]
  refine Walk.cons rfl (hl8 (pv := pv) (n := n) (cp := cp) (by simp [gA8])) ?_
  rw [← eA9]
  refine Walk.cons rfl (hl9 (n := n) ) ?_
  rw [← eA10]
  refine Walk.idle rfl (fun d => stepG_region_end) ?_
  refine Walk.idle rfl (fun d => stepG_block) ?_
  refine Walk.idle rfl (fun d => stepG_loop) ?_
  exact Walk.nil _ _
end
end Go.Proofs.Ytgkakgibgfehaaa.Ph

namespace Go.Proofs.Ytgkakgibgfehaaa.Sim
open Go.Conc
section
variable {ok : Cx} {T : Tables} {R : Ren}
theorem ARel.det (h1 : ∀ b b' c', R b b' → R b c' → b' = c') {a a' a'' : Addr} (h : ARel ok R a a') (k : ARel ok R a a'') : a' = a'' := by
  obtain ⟨b', o', s'⟩ := a'
  obtain ⟨b2, o2, s2⟩ := a''
  obtain ⟨x1, x2, x3⟩ := h
  obtain ⟨y1, y2, y3⟩ := k
  simp only at x1 x2 x3 y1 y2 y3
  rw [h1 _ _ _ x1 y1, x2, y2, x3, y3]
theorem VRel.det (h1 : ∀ b b' c', R b b' → R b c' → b' = c') {v v' : Value} (k : VRel ok R v v') : ∀ {v'' : Value}, VRel ok R v v'' → v' = v'' := by
  have rows : ∀ {x x' x'' : Array Value}, x'.size = x.size → x''.size = x.size → (∀ (i : Nat) v v', x[i]? = some v → x'[i]? = some v' → ∀ {v'' : Value}, VRel ok R v v'' → v' = v'') → (∀ (i : Nat) v v', x[i]? = some v → x''[i]? = some v' → VRel ok R v v') → x' = x'' := by
    intro x x' x'' s1 s2 ih h2
    apply Array.ext
    · omega
    · intro i hi hi'
      have hx : i < x.size := by omega
      exact ih i x[i] x'[i] (Array.getElem?_eq_getElem hx) (Array.getElem?_eq_getElem hi) (h2 i x[i] x''[i] (Array.getElem?_eq_getElem hx) (Array.getElem?_eq_getElem hi'))
  induction k with
  | bool | int | string | nilPtr | nilSlice | nilMap | nilFunc | nilIface => intro v'' h; cases h; rfl
  | ptr k => intro v'' h; cases h; rename_i h; rw [k.det h1 h]
  | slice n c k => intro v'' h; cases h; rename_i h; rw [k.det h1 h]
  | map k => intro v'' h; cases h; rename_i h; rw [h1 _ _ _ k h]
  | func k s1 _ s2 _ i1 i2 =>
    intro v'' h
    cases h
    rename_i k2 t1 j1 t2 j2
    rw [rows s1 t1 i1 j1, rows s2 t2 i2 j2]
    cases k with
    | func f x => cases k2; rfl
    | yield x => cases k2; rename_i y; rw [h1 _ _ _ x y]
  | iface t _ ih => intro v'' h; cases h; rename_i h; rw [ih h]
  | agg s _ ih => intro v'' h; cases h; rename_i s2 h; rw [rows s s2 ih h]
  | tuple s _ ih => intro v'' h; cases h; rename_i s2 h; rw [rows s s2 ih h]
theorem Rows.det (h1 : ∀ b b' c', R b b' → R b c' → b' = c') {c c' c'' : Array Value} (h : Rows ok R c c') (k : Rows ok R c c'') : c' = c'' := by
  have s1 := h.1
  have s2 := k.1
  apply Array.ext
  · omega
  · intro i hi hi'
    have hx : i < c.size := by omega
    exact (h.2 i c[i] c'[i] (Array.getElem?_eq_getElem hx) (Array.getElem?_eq_getElem hi)).det h1 (k.2 i c[i] c''[i] (Array.getElem?_eq_getElem hx) (Array.getElem?_eq_getElem hi'))
theorem ObjRel.det (h1 : ∀ b b' c', R b b' → R b c' → b' = c') {o o' o'' : Obj} (h : ObjRel ok T R o o') (k : ObjRel ok T R o o'') : o' = o'' := by
  cases h with
  | cells e f r => cases k with | cells _ _ r2 => rw [r.det h1 r2]
  | @loop l l' x =>
    cases k with
    | @loop _ l2 y =>
      congr 1
      cases l'; cases l2
      obtain ⟨a1, a2, a3, a4, a5, a6, a7, a8, a9, a10, a11, a12, a13⟩ := x
      obtain ⟨b1, b2, b3, b4, b5, b6, b7, b8, b9, b10, b11, b12, b13⟩ := y
      simp only at a1 a2 a4 a7 a8 a9 a11 a13 b1 b2 b4 b7 b8 b9 b11 b13
      rw [a1, a2, a4, a8, a9, a11, b1, b2, b4, b8, b9, b11, a7.det h1 b7, h1 _ _ _ a13 b13]
  | number l x => cases k with | number _ y => rw [x.det h1 y]
  | deferred b =>
    revert k
    generalize hd : Obj.deferred (if b then some [] else none) = d
    intro k
    cases k with
    | cells | loop | number => cases hd
    | deferred b' => rfl
end
end Go.Proofs.Ytgkakgibgfehaaa.Sim
