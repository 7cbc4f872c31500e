/-
  MADE BY PROGRAM (gen_md.py) FROM XSimZ AND XMuA: along a tree of steps, with the way that was gone: each step that the tree must take is a step of the run, too.
-/
import Derived.Test.YtgkakgibgfehaaaMuA
namespace Go.Proofs.Ytgkakgibgfehaaa.Sim
open Go.Conc Go.RowKit

/-- Where a run that a tree tells has come to. -/
structure MD (P : Program) (Q : Value → World → Prop) (s0 : Frame × List Frame × World) (fr : Frame) (cs : List Frame) (w : World) : Prop where
  must : Must P [junk] Q fr cs w
  down : (fr, cs, w) = s0 ∨ Down P s0.1 s0.2.1 s0.2.2 fr cs w
section
variable {P : Program} {Q : Value → World → Prop} {s0 : Frame × List Frame × World}
theorem MD.start {fr : Frame} {cs : List Frame} {w : World} (h : Must P [junk] Q fr cs w) : MD P Q (fr, cs, w) fr cs w := ⟨h, .inl rfl⟩
theorem MD.go {fr f₁ : Frame} {cs c₁ : List Frame} {w w₁ : World} (h : MD P Q s0 fr cs w) (k : Must P [junk] Q f₁ c₁ w₁) (d : Down P fr cs w f₁ c₁ w₁) : MD P Q s0 f₁ c₁ w₁ :=
  ⟨k, .inr (h.down.elim (fun e => by subst e; exact d) fun x => x.trans d)⟩
theorem MD.here {fr f₁ : Frame} {cs c₁ : List Frame} {w w₁ : World} {es : Array Event} (hM : MD P Q s0 fr cs w) (hr : fr.mode = .run) (h : stepG P true (G fr (cs ++ [junk])) w = .go (G f₁ (c₁ ++ [junk])) w₁ es) : MD P Q s0 f₁ c₁ w₁ :=
  hM.go (hM.must.here hr h) (.one w.tape w.drawn (by rw [on_self]; exact h))
theorem MD.no {fr : Frame} {cs : List Frame} {w : World} (hM : MD P Q s0 fr cs w) (hr : fr.mode = .run) (h : ∀ f c u e, stepG P true (G fr (cs ++ [junk])) w ≠ .go (G f (c ++ [junk])) u e) : False := hM.must.no hr h
/-- A run of some steps. -/
theorem MD.run {n : Nat} {fr f₁ : Frame} {cs c₁ : List Frame} {w w₁ : World} (hM : MD P Q s0 fr cs w) (hn : 0 < n) (h : runN P n (lone fr (cs ++ [junk]) w) = .next (lone f₁ (c₁ ++ [junk]) w₁)) : MD P Q s0 f₁ c₁ w₁ :=
  hM.go (must_run n hM.must h) (run_down n (t := w.tape) (d := w.drawn) hM.must hn (by rw [on_self]; exact h))
end
section
variable {P : Program} {Q : Value → World → Prop} {s0 : Frame × List Frame × World} {b : Frame} {a : Act} {k : List Item} {ops : Array Oper} {i : Nat} {rest : List Nat} {o : Oper} {cs : List Frame} {w : World}
/-- An operation that answers with a value and leaves the world as it is. -/
theorem MD.value {b : Frame} {a : Act} {k : List Item} {ops : Array Oper} {i : Nat} {rest : List Nat} {o : Oper} {v : Value} (hM : MD P Q s0 (b.at a (.inRegion ops (i :: rest) :: k)) cs w) (hb : (b.at a (.inRegion ops (i :: rest) :: k)).mode = .run)
    (ho : ops[i]? = some o) (hw : Region.wanted o (yielded ops a.tmps) = true) (hk : b.kind ≠ .early) (hr : (execOp a.eval o).run P w = .ok (.value v) w) : MD P Q s0 (b.at (a.put o.dst v) (.inRegion ops rest :: k)) cs w :=
  hM.here hb (stepG_value ho hw hk hr)
/-- An operation that is stuck, or not supported: it can't stand here. -/
theorem MD.stuck {b : Frame} {a : Act} {k : List Item} {ops : Array Oper} {i : Nat} {rest : List Nat} {o : Oper} {why : String} {w' : World} (hM : MD P Q s0 (b.at a (.inRegion ops (i :: rest) :: k)) cs w) (hb : (b.at a (.inRegion ops (i :: rest) :: k)).mode = .run)
    (ho : ops[i]? = some o) (hw : Region.wanted o (yielded ops a.tmps) = true) (hr : (execOp a.eval o).run P w = .halt (.stuck why) w') : False := by
  refine hM.no hb fun f c u e h => ?_
  rw [stepG_run hb] at h
  unfold stepG.exec at h
  have ht : (b.at a (.inRegion ops (i :: rest) :: k)).todo = .inRegion ops (i :: rest) :: k := rfl
  have hy : (b.at a (.inRegion ops (i :: rest) :: k)).tmps = a.tmps := rfl
  simp only [ht, hy, ho, Option.map_some, Option.getD_some, hw, if_true] at h
  unfold stepG.oper at h
  have hop : (b.at a (.inRegion ops (i :: rest) :: k)).oper? = some o := by unfold Frame.oper?; rw [ht]; exact ho
  have hrn : (b.at a (.inRegion ops (i :: rest) :: k)).roundOf = none := rfl
  rw [hop] at h
  simp only [hrn] at h
  unfold stepG.apply at h
  rcases hL : (execOp (b.at a (.inRegion ops (i :: rest) :: k)).eval o).runT P w #[] with ⟨r, ev⟩
  have hr0 : (execOp (b.at a (.inRegion ops (i :: rest) :: k)).eval o).run P w = r := by rw [← Sem.runT_fst _ _ _ #[], hL]
  rw [Frame.eval_at'] at hr0
  rw [hr] at hr0
  subst hr0
  simp only [if_true, hL, GStep.after] at h
  cases h
/-- An operation that the model does not serve: it can't stand here. -/
theorem MD.unserved {w' : World} (hM : MD P Q s0 (b.at a (.inRegion ops (i :: rest) :: k)) cs w) (hb : (b.at a (.inRegion ops (i :: rest) :: k)).mode = .run)
    (ho : ops[i]? = some o) (hw : Region.wanted o (yielded ops a.tmps) = true) (hr : (execOp a.eval o).run P w = .halt (.unsupported .addressObserved) w') : False := by
  refine hM.no hb fun f c v e h => ?_
  rw [stepG_run hb] at h
  unfold stepG.exec at h
  have ht : (b.at a (.inRegion ops (i :: rest) :: k)).todo = .inRegion ops (i :: rest) :: k := rfl
  have hy : (b.at a (.inRegion ops (i :: rest) :: k)).tmps = a.tmps := rfl
  simp only [ht, hy, ho, Option.map_some, Option.getD_some, hw, if_true] at h
  unfold stepG.oper at h
  have hop : (b.at a (.inRegion ops (i :: rest) :: k)).oper? = some o := by unfold Frame.oper?; rw [ht]; exact ho
  have hrn : (b.at a (.inRegion ops (i :: rest) :: k)).roundOf = none := rfl
  rw [hop] at h
  simp only [hrn] at h
  unfold stepG.apply at h
  rcases hL : (execOp (b.at a (.inRegion ops (i :: rest) :: k)).eval o).runT P w #[] with ⟨r, ev⟩
  have hr0 : (execOp (b.at a (.inRegion ops (i :: rest) :: k)).eval o).run P w = r := by rw [← Sem.runT_fst _ _ _ #[], hL]
  rw [Frame.eval_at'] at hr0
  rw [hr] at hr0
  subst hr0
  simp only [if_true, hL, GStep.after] at h
  simp at h

set_option maxHeartbeats 4000000 in
theorem MD.len {t e : TypeId} {x : Operand} (hM : MD P Q s0 (b.at a (.inRegion ops (i :: rest) :: k)) cs w) (hb : (b.at a (.inRegion ops (i :: rest) :: k)).mode = .run) (ho : ops[i]? = some o) (hw : Region.wanted o (yielded ops a.tmps) = true) (hk : b.kind ≠ .early)
    (hop : o.op = .call { callee := .builtin .len, args := #[x], argTypes := #[t] }) (hU : P.underlying t = some (.slice e)) : ∃ pa l c, a.eval x = .slice pa l c ∧ MD P Q s0 (b.at (a.put o.dst (.int .i64 (l : Nat))) (.inRegion ops rest :: k)) cs w := by
  cases hv : a.eval x with
  | slice pa l c =>
    refine ⟨pa, l, c, rfl, hM.value hb ho hw hk ?_⟩
    have hm : (#[x] : Array Operand).map a.eval = #[a.eval x] := by simp only [List.map_toArray, List.map]
    unfold execOp
    simp only [hop, resolve, hm, hv]
    simp [go_sem, invoke, builtin, Builtin.len_, run_underlying hU, goInt]
  | _ =>
    refine (hM.stuck hb ho hw (why := "len: string, array, pointer to array, slice, map or channel expected") (w' := w) ?_).elim
    have hm : (#[x] : Array Operand).map a.eval = #[a.eval x] := by simp only [List.map_toArray, List.map]
    unfold execOp
    simp only [hop, resolve, hm, hv]
    simp [go_sem, invoke, builtin, Builtin.len_, run_underlying hU, goInt]
set_option maxHeartbeats 4000000 in
theorem MD.len_string {t : TypeId} {x : Operand} (hM : MD P Q s0 (b.at a (.inRegion ops (i :: rest) :: k)) cs w) (hb : (b.at a (.inRegion ops (i :: rest) :: k)).mode = .run) (ho : ops[i]? = some o) (hw : Region.wanted o (yielded ops a.tmps) = true) (hk : b.kind ≠ .early)
    (hop : o.op = .call { callee := .builtin .len, args := #[x], argTypes := #[t] }) (hU : P.underlying t = some .string) : ∃ s, a.eval x = .string s ∧ MD P Q s0 (b.at (a.put o.dst (.int .i64 (s.size : Nat))) (.inRegion ops rest :: k)) cs w := by
  cases hv : a.eval x with
  | string s =>
    refine ⟨s, rfl, hM.value hb ho hw hk ?_⟩
    have hm : (#[x] : Array Operand).map a.eval = #[a.eval x] := by simp only [List.map_toArray, List.map]
    unfold execOp
    simp only [hop, resolve, hm, hv]
    simp [go_sem, invoke, builtin, Builtin.len_, run_underlying hU, goInt]
  | _ =>
    refine (hM.stuck hb ho hw (why := "len: string, array, pointer to array, slice, map or channel expected") (w' := w) ?_).elim
    have hm : (#[x] : Array Operand).map a.eval = #[a.eval x] := by simp only [List.map_toArray, List.map]
    unfold execOp
    simp only [hop, resolve, hm, hv]
    simp [go_sem, invoke, builtin, Builtin.len_, run_underlying hU, goInt]
theorem MD.cap {t e : TypeId} {x : Operand} {pa : Option Addr} {l c : Nat} (hM : MD P Q s0 (b.at a (.inRegion ops (i :: rest) :: k)) cs w) (hb : (b.at a (.inRegion ops (i :: rest) :: k)).mode = .run) (ho : ops[i]? = some o) (hw : Region.wanted o (yielded ops a.tmps) = true) (hk : b.kind ≠ .early)
    (hop : o.op = .call { callee := .builtin .cap, args := #[x], argTypes := #[t] }) (hU : P.underlying t = some (.slice e)) (hx : a.eval x = .slice pa l c) : MD P Q s0 (b.at (a.put o.dst (.int .i64 (c : Nat))) (.inRegion ops rest :: k)) cs w := by
  refine hM.value hb ho hw hk ?_
  have hm : (#[x] : Array Operand).map a.eval = #[a.eval x] := by simp only [List.map_toArray, List.map]
  unfold execOp
  simp only [hop, resolve, hm, hx]
  simp [go_sem, invoke, builtin, Builtin.cap_, run_underlying hU, goInt]
theorem MD.lss {t t' : TypeId} {x y : Operand} {m n : Int} (hM : MD P Q s0 (b.at a (.inRegion ops (i :: rest) :: k)) cs w) (hb : (b.at a (.inRegion ops (i :: rest) :: k)).mode = .run) (ho : ops[i]? = some o) (hw : Region.wanted o (yielded ops a.tmps) = true) (hk : b.kind ≠ .early)
    (hop : o.op = .binOp .lss t x y t') (hx : a.eval x = .int .i64 m) (hy : a.eval y = .int .i64 n) : MD P Q s0 (b.at (a.put o.dst (.bool (decide (m < n)))) (.inRegion ops rest :: k)) cs w := by
  refine hM.value hb ho hw hk ?_
  unfold execOp
  simp only [hop, hx, hy]
  simp [go_sem]
theorem MD.leq {t t' : TypeId} {x y : Operand} {m n : Int} (hM : MD P Q s0 (b.at a (.inRegion ops (i :: rest) :: k)) cs w) (hb : (b.at a (.inRegion ops (i :: rest) :: k)).mode = .run) (ho : ops[i]? = some o) (hw : Region.wanted o (yielded ops a.tmps) = true) (hk : b.kind ≠ .early)
    (hop : o.op = .binOp .leq t x y t') (hx : a.eval x = .int .i64 m) (hy : a.eval y = .int .i64 n) : MD P Q s0 (b.at (a.put o.dst (.bool (decide (m ≤ n)))) (.inRegion ops rest :: k)) cs w := by
  refine hM.value hb ho hw hk ?_
  unfold execOp
  simp only [hop, hx, hy]
  simp [go_sem]
theorem MD.add {t t' : TypeId} {x y : Operand} {m n : Int} (hM : MD P Q s0 (b.at a (.inRegion ops (i :: rest) :: k)) cs w) (hb : (b.at a (.inRegion ops (i :: rest) :: k)).mode = .run) (ho : ops[i]? = some o) (hw : Region.wanted o (yielded ops a.tmps) = true) (hk : b.kind ≠ .early)
    (hop : o.op = .binOp .add t x y t') (hx : a.eval x = .int .i64 m) (hy : a.eval y = .int .i64 n) : MD P Q s0 (b.at (a.put o.dst (.int .i64 (IntKind.wrap .i64 (m + n)))) (.inRegion ops rest :: k)) cs w := by
  refine hM.value hb ho hw hk ?_
  unfold execOp
  simp only [hop, hx, hy]
  simp [go_sem]
/-- Compared with an int: it is an int of this kind. -/
theorem MD.isInt {t t' : TypeId} {x y : Operand} {n : Int} (hM : MD P Q s0 (b.at a (.inRegion ops (i :: rest) :: k)) cs w) (hb : (b.at a (.inRegion ops (i :: rest) :: k)).mode = .run) (ho : ops[i]? = some o) (hw : Region.wanted o (yielded ops a.tmps) = true) (hk : b.kind ≠ .early)
    (hop : o.op = .binOp .lss t x y t') (hy : a.eval y = .int .i64 n) : ∃ m, a.eval x = .int .i64 m ∧ MD P Q s0 (b.at (a.put o.dst (.bool (decide (m < n)))) (.inRegion ops rest :: k)) cs w := by
  cases hv : a.eval x with
  | int kd m =>
    by_cases hkd : kd = .i64
    · subst hkd
      exact ⟨m, rfl, hM.lss hb ho hw hk hop hv hy⟩
    · refine (hM.stuck hb ho hw (why := "BinOp: operands of different kinds") (w' := w) ?_).elim
      unfold execOp
      simp only [hop, hv, hy, binOp_kind t hkd]
      simp [go_sem]
  | pointer p =>
    refine (hM.unserved hb ho hw (w' := w) ?_).elim
    unfold execOp
    simp only [hop, hv, hy, binOp_ptr]
    simp [go_sem]
  | _ =>
    refine (hM.stuck hb ho hw (why := "BinOp: no such operator on these operands") (w' := w) ?_).elim
    unfold execOp
    simp only [hop, hv, hy]
    rw [binOp_bad _ _ _ (by intro _ _ h; cases h) (by intro _ h; cases h)]
    simp [go_sem]
theorem MD.move {x : Operand} {v : Value} (hM : MD P Q s0 (b.at a (.inRegion ops (i :: rest) :: k)) cs w) (hb : (b.at a (.inRegion ops (i :: rest) :: k)).mode = .run) (ho : ops[i]? = some o) (hw : Region.wanted o (yielded ops a.tmps) = true) (hk : b.kind ≠ .early)
    (hop : o.op = .move x ∨ o.op = .assign x) (hx : a.eval x = v) : MD P Q s0 (b.at (a.put o.dst v) (.inRegion ops rest :: k)) cs w := by
  refine hM.value hb ho hw hk ?_
  unfold execOp
  rcases hop with hop | hop <;> simp only [hop, hx] <;> simp [go_sem]
/-- A slice compared with the nil slice. -/
theorem MD.isNil {t t' e : TypeId} {x : Operand} {pa : Option Addr} {l c : Nat} (hM : MD P Q s0 (b.at a (.inRegion ops (i :: rest) :: k)) cs w) (hb : (b.at a (.inRegion ops (i :: rest) :: k)).mode = .run) (ho : ops[i]? = some o) (hw : Region.wanted o (yielded ops a.tmps) = true) (hk : b.kind ≠ .early)
    (hop : o.op = .binOp .eql t x (.const (.slice none 0 0)) t') (hU : P.underlying t = some (.slice e)) (hx : a.eval x = .slice pa l c) : MD P Q s0 (b.at (a.put o.dst (.bool pa.isNone)) (.inRegion ops rest :: k)) cs w := by
  refine hM.value hb ho hw hk ?_
  have hc : a.eval (.const (.slice none 0 0)) = .slice none 0 0 := rfl
  unfold execOp
  have hq : ∀ w, (binOp .eql t (.slice pa l c) (.slice none 0 0)).run P w = .ok (.bool pa.isNone) w := by
    intro w
    have : (Op.equal t (.slice pa l c) (.slice none 0 0)).run P w = .ok pa.isNone w := eqNil hU w 9999
    show ((do pure (.bool (← Op.equal t (.slice pa l c) (.slice none 0 0))) : Sem Value)).run P w = _
    simp [this]
  simp only [hop, hx, hc]
  simp [go_sem, hq, eqGuard]
/-- A cell that is loaded is there. -/
theorem MD.load {t : TypeId} {x : Operand} {ad : Addr} (hM : MD P Q s0 (b.at a (.inRegion ops (i :: rest) :: k)) cs w) (hb : (b.at a (.inRegion ops (i :: rest) :: k)).mode = .run) (ho : ops[i]? = some o) (hw : Region.wanted o (yielded ops a.tmps) = true) (hk : b.kind ≠ .early)
    (hop : o.op = .load t x) (hx : a.eval x = .pointer (some ad)) (hA : ∀ w, (isAgg t).run P w = .ok false w) (hF : w.cell? ad = none → ∃ s, w.farLoad P ad false = .error (.stuck s)) : ∃ v, w.cell? ad = some v ∧ MD P Q s0 (b.at (a.put o.dst v) (.inRegion ops rest :: k)) cs w := by
  cases hc : w.cell? ad with
  | some v =>
    refine ⟨v, rfl, hM.value hb ho hw hk ?_⟩
    unfold execOp
    simp only [hop, hx]
    simp [go_sem, hc, hA]
  | none =>
    obtain ⟨s, hs⟩ := hF hc
    refine (hM.stuck hb ho hw (why := s) (w' := w) ?_).elim
    have hm : (Mode.plain == Mode.atomic) = false := rfl
    unfold execOp
    simp only [hop, hx]
    simp [go_sem, hc, hA, hm, hs]
theorem MD.index {t : TypeId} {x y : Operand} {ad : Addr} {n c j sz : Nat} (hM : MD P Q s0 (b.at a (.inRegion ops (i :: rest) :: k)) cs w) (hb : (b.at a (.inRegion ops (i :: rest) :: k)).mode = .run) (ho : ops[i]? = some o) (hw : Region.wanted o (yielded ops a.tmps) = true) (hk : b.kind ≠ .early)
    (hop : o.op = .indexAddr t x y) (hx : a.eval x = .slice (some ad) n c) (hy : a.eval y = .int .i64 j) (hU : P.underlying t = some (.slice (P.elem t))) (hS : ∀ w, (sizeOf (P.elem t)).run P w = .ok sz w) (hj : j < n) :
    MD P Q s0 (b.at (a.put o.dst (.pointer (some (ad.add (j * sz))))) (.inRegion ops rest :: k)) cs w := by
  have hi := run_indexAt_slice (P := P) (w := w) t ad n c .i64 j hU
  rw [if_pos ⟨by omega, by omega⟩, hS] at hi
  refine hM.value hb ho hw hk ?_
  unfold execOp
  simp only [hop, hx, hy]
  simp [go_sem, hi]
theorem MD.field {s : TypeId} {x : Operand} {ad : Addr} {fs : Array Field} {f : Nat} {fd : Field} {sz : Nat} (hM : MD P Q s0 (b.at a (.inRegion ops (i :: rest) :: k)) cs w) (hb : (b.at a (.inRegion ops (i :: rest) :: k)).mode = .run) (ho : ops[i]? = some o) (hw : Region.wanted o (yielded ops a.tmps) = true) (hk : b.kind ≠ .early)
    (hop : o.op = .fieldAddr s x f) (hx : a.eval x = .pointer (some ad)) (hU : P.underlying s = some (.struct fs)) (hf : fs[f]? = some fd) (hS : ∀ w, (sizeOf fd.type).run P w = .ok (sz + 1) w) :
    MD P Q s0 (b.at (a.put o.dst (.pointer (some (ad.add fd.offset)))) (.inRegion ops rest :: k)) cs w := by
  refine hM.value hb ho hw hk ?_
  unfold execOp
  simp only [hop, hx]
  simp [go_sem, run_underlying hU, hf, hS, fieldPlace, Instr.fieldAt]
end

section
variable {P : Program} {Q : Value → World → Prop} {s0 : Frame × List Frame × World} {b : Frame} {a : Act} {k : List Item} {cs : List Frame} {w : World}
theorem MD.region_end {ops : Array Oper} (hM : MD P Q s0 (b.at a (.inRegion ops [] :: k)) cs w) : MD P Q s0 (b.at a k) cs w := hM.here rfl stepG_region_end
theorem MD.region {id : Nat} {ops : Array Oper} (hM : MD P Q s0 (b.at a (.code (.region id ops false) :: k)) cs w) : MD P Q s0 (b.at a (.inRegion ops (List.range ops.size) :: k)) cs w := hM.here rfl stepG_region
theorem MD.seq {x y : Code} (hM : MD P Q s0 (b.at a (.code (.seq x y) :: k)) cs w) : MD P Q s0 (b.at a (.code x :: .code y :: k)) cs w := hM.here rfl stepG_seq
theorem MD.skip (hM : MD P Q s0 (b.at a (.code .skip :: k)) cs w) : MD P Q s0 (b.at a k) cs w := hM.here rfl stepG_skip
theorem MD.block {id : Nat} {c : Code} (hM : MD P Q s0 (b.at a (.code (.block id c) :: k)) cs w) : MD P Q s0 (b.at a (.code c :: .inBlock id :: k)) cs w := hM.here rfl stepG_block
theorem MD.loop {c : Code} (hM : MD P Q s0 (b.at a (.code (.loop c) :: k)) cs w) : MD P Q s0 (b.at a (.code c :: .inLoop c :: k)) cs w := hM.here rfl stepG_loop
theorem MD.inLoop {c : Code} (hM : MD P Q s0 (b.at a (.inLoop c :: k)) cs w) : MD P Q s0 (b.at a (.code c :: .inLoop c :: k)) cs w := hM.here rfl stepG_inLoop
theorem MD.exit {id : Nat} {k' : List Item} (hM : MD P Q s0 (b.at a (.code (.exit id) :: k)) cs w) (h : exitTo id k = some k') : MD P Q s0 (b.at a k') cs w := hM.here rfl (stepG_exit h)
theorem MD.cond {c : Operand} {x y : Code} (hM : MD P Q s0 (b.at a (.code (.cond c x y) :: k)) cs w) : ∃ t, a.eval c = .bool t ∧ MD P Q s0 (b.at a (.code (if t then x else y) :: k)) cs w := by
  cases hv : a.eval c with
  | bool t => exact ⟨t, rfl, hM.here rfl (stepG_cond hv)⟩
  | _ =>
    refine (hM.no rfl fun f c' u e h => ?_).elim
    have he := Frame.eval_at' b a (.code (.cond c x y) :: k)
    simp only [Frame.at] at he
    simp [G, stepG, stepG.exec, Frame.at, he, hv] at h
/-- The run is stuck here: so it is true. -/
theorem MD.need {c : Operand} (hM : MD P Q s0 (b.at a (.code (.cond c .skip (.cond (.const (.int .i64 0)) .skip .skip)) :: k)) cs w) : a.eval c = .bool true ∧ MD P Q s0 (b.at a k) cs w := by
  obtain ⟨t, ht, h⟩ := hM.cond
  cases t with
  | true => exact ⟨ht, MD.skip h⟩
  | false =>
    obtain ⟨u, hu, -⟩ := MD.cond (x := .skip) (y := .skip) h
    exact absurd hu (by show Value.int .i64 0 ≠ .bool u; intro h; cases h)
end
end Go.Proofs.Ytgkakgibgfehaaa.Sim
