/-
  Along a tree of steps with the way that was gone: a call of which a contract is known, a slice that is made, a store into one cell. Generic.
  MADE BY PROGRAM (gen_md.py) FROM XMuB: the function of our own, from its start to behind its checks, with the way that was gone.
-/
import Derived.Test.YtgkakgibgfehaaaMdA
import Derived.Test.YtgkakgibgfehaaaSh18
import Derived.Laws.MakeOwn
import Derived.Test.YtgkakgibgfehaaaSh21
namespace Go.Proofs.Ytgkakgibgfehaaa.Sim
open Go.Conc Go.RowKit Go.Proofs.Ytgkakgibgfehaaa.Ph
section
variable {P : Program} {Q : Value → World → Prop} {s0 : Frame × List Frame × World} {b : Frame} {a : Act} {k : List Item} {ops : Array Oper} {i : Nat} {rest : List Nat} {o : Oper} {cs : List Frame} {w : World}
/-- A call of a function of which a contract is known that knows no panic. -/
theorem MD.call {f : FuncId} {fn : Func} {args : Array Operand} {ats : Array TypeId} {vs : Array Value} {R : Ending → World → Prop} (hM : MD P Q s0 (b.at a (.inRegion ops (i :: rest) :: k)) cs w) (hb : (b.at a (.inRegion ops (i :: rest) :: k)).mode = .run) (ho : ops[i]? = some o) (hw : Region.wanted o (yielded ops a.tmps) = true) (hk : b.kind ≠ .early)
    (hop : o.op = .call { callee := .value (.func f), args, argTypes := ats }) (hf : P.funcs[f]? = some fn) (hname : (fn.name == "runtime.NumGoroutine") = false) (hbd : fn.body.isNone = false) (hvs : args.map a.eval = vs)
    (hC : Calls P f vs w R) (hR : ∀ e w', R e w' → ∃ v, e = .returned v) : ∃ v w', R (.returned v) w' ∧ MD P Q s0 (b.at (a.put o.dst v) (.inRegion ops rest :: k)) cs w' := by
  have M1 := hM.here (f₁ := Frame.enter P f (args.map a.eval) .normal) (c₁ := b.at a (.inRegion ops (i :: rest) :: k) :: cs) hb (step_call ho hw hk hop hf hname hbd)
  rw [hvs] at M1
  obtain ⟨e, w', fr, hr, hc, -, hl⟩ := hC ((b.at a (.inRegion ops (i :: rest) :: k) :: cs) ++ [junk])
  obtain ⟨v, rfl⟩ := hR _ _ hr
  obtain ⟨n, hn⟩ := hc
  refine ⟨v, w', hr, ?_⟩
  have h1 := step_leave_returned (c := b.at a (.inRegion ops (i :: rest) :: k)) (cs := cs ++ [junk]) hl
  have hfin : (b.at a (.inRegion ops (i :: rest) :: k)).finish v = b.at (a.put o.dst v) (.inRegion ops rest :: k) := by rw [Frame.finish_at, ho]; rfl
  rw [hfin] at h1
  refine M1.run (n := n + 1) (by omega) ?_
  rw [runN_add, hn]
  show runN P 1 _ = _
  simp only [runN]
  rw [List.cons_append, h1]
/-- A slice is made. -/
theorem MD.make {t e : TypeId} {x y : Operand} {n : Nat} {inf : TypeInfo} {z : Value} (hM : MD P Q s0 (b.at a (.inRegion ops (i :: rest) :: k)) cs w) (hb : (b.at a (.inRegion ops (i :: rest) :: k)).mode = .run) (ho : ops[i]? = some o) (hw : Region.wanted o (yielded ops a.tmps) = true) (hk : b.kind ≠ .early)
    (hop : o.op = .makeSlice t x y) (hx : a.eval x = .int .i64 (n : Nat)) (hy : a.eval y = .int .i64 (n : Nat)) (hU : P.underlying t = some (.slice e)) (hi : P.info? e = some inf) (hz : inf.zero = some z) (hb24 : inf.bytes ≤ 24) (hn : n ≤ 1048600) :
    MD P Q s0 (b.at (a.put o.dst (.slice (some ⟨w.heap.size, 0, none⟩) n n)) (.inRegion ops rest :: k)) cs (w.alloc (.cells (madeCells z.cells (n * inf.size)) e)) := by
  refine hM.here hb (stepG_value ho hw hk ?_)
  have hbytes : (inf.bytes : Int) * (n : Int) ≤ 281474976710656 := by
    have h1 : inf.bytes * n ≤ 24 * 1048600 := Nat.mul_le_mul hb24 hn
    have h2 : ((inf.bytes * n : Nat) : Int) = (inf.bytes : Int) * (n : Int) := Int.natCast_mul _ _
    omega
  have hr := run_make (P := P) w t e inf z hU hi hz .i64 .i64 (n : Int) (n : Int) (by omega) (Int.le_refl _) hbytes (by omega)
  unfold execOp
  simp only [hop, hx, hy]
  simp only [Int.toNat_natCast] at hr
  simp [go_sem, hr]
/-- A store of a slice into one cell. -/
theorem MD.store {t : TypeId} {x y : Operand} {ad : Addr} {pa : Option Addr} {l c : Nat} {u : Value} (hM : MD P Q s0 (b.at a (.inRegion ops (i :: rest) :: k)) cs w) (hb : (b.at a (.inRegion ops (i :: rest) :: k)).mode = .run) (ho : ops[i]? = some o) (hw : Region.wanted o (yielded ops a.tmps) = true) (hk : b.kind ≠ .early)
    (hop : o.op = .store t x y) (hx : a.eval x = .pointer (some ad)) (hy : a.eval y = .slice pa l c) (hc : w.cell? ad = some u) (hz : w.frozen? ad = false) (hS : ∀ w, (sizeOf t).run P w = .ok 1 w) :
    MD P Q s0 (b.at (a.put o.dst undef) (.inRegion ops rest :: k)) cs (w.setCell ad (.slice pa l c)) := by
  refine hM.here hb (stepG_none ho hw hk ?_)
  unfold execOp
  simp only [hop, hx, hy]
  simp [go_sem, stored, hc, hz, hS]
/-- A load of a cell that is known. -/
theorem MD.loadk {t : TypeId} {x : Operand} {ad : Addr} {v : Value} (hM : MD P Q s0 (b.at a (.inRegion ops (i :: rest) :: k)) cs w) (hb : (b.at a (.inRegion ops (i :: rest) :: k)).mode = .run) (ho : ops[i]? = some o) (hw : Region.wanted o (yielded ops a.tmps) = true) (hk : b.kind ≠ .early)
    (hop : o.op = .load t x) (hx : a.eval x = .pointer (some ad)) (hc : w.cell? ad = some v) (hA : ∀ w, (isAgg t).run P w = .ok false w) :
    MD P Q s0 (b.at (a.put o.dst v) (.inRegion ops rest :: k)) cs w := by
  refine hM.value hb ho hw hk ?_
  unfold execOp
  simp only [hop, hx]
  simp [go_sem, hc, hA]
/-- An assignment. -/
theorem MD.assign {x : Operand} {v : Value} (hM : MD P Q s0 (b.at a (.inRegion ops (i :: rest) :: k)) cs w) (hb : (b.at a (.inRegion ops (i :: rest) :: k)).mode = .run) (ho : ops[i]? = some o) (hw : Region.wanted o (yielded ops a.tmps) = true) (hk : b.kind ≠ .early)
    (hop : o.op = .assign x) (hx : a.eval x = v) : MD P Q s0 (b.at (a.put o.dst v) (.inRegion ops rest :: k)) cs w := by
  refine hM.value hb ho hw hk ?_
  unfold execOp
  simp only [hop, hx]
  simp [go_sem]
end
end Go.Proofs.Ytgkakgibgfehaaa.Sim

namespace Go.Proofs.Ytgkakgibgfehaaa.Md
open Go.Conc Go.ConcN Go.RowKit Go.ConcR.Gen Go.ConcN.Gen Go.Proofs.Ytgkakgibgfehaaa.Sim Go.Proofs.Ytgkakgibgfehaaa.Ph
attribute [local simp] dF0_0 dF0_1 dF0_10 dF0_11 dF0_12 dF0_13 dF0_2 dF0_3 dF0_4 dF0_5 dF0_6 dF0_7 dF0_8 dF0_9 dF1_0 dF2_0 dF2_1 dF2_2 dF2_3 dF2_4 dF2_5 dF2_6 dF2_7 dF3_0 dF3_1 dF4_0 dF5_0 dF6_0 dF6_1 dF7_0 dF7_1
section
variable {Q : Value → World → Prop} {s0 : Frame × List Frame × World} {cs : List Frame} {w : World} {a : Act}
theorem _root_.Go.Proofs.Ytgkakgibgfehaaa.Sim.MD.not_stop {k : List Item} (hM : (MD Tq.prog Q s0) (bF.at a (.code stopC :: k)) cs w) : False := by
  obtain ⟨u, hu, -⟩ := hM.cond
  exact absurd hu (by show Value.int .i64 0 ≠ .bool u; intro h; cases h)
/-- The head of the checker: lengths and room. -/
theorem head_shape (hs : 48 ≤ a.tmps.size) (hd0 : a.defers = []) (hM : (MD Tq.prog Q s0) (bF.at a [.code bodyF]) cs w) : ∃ pa l ca pb m cb a', FA pa l ca pb m cb a' ∧ a'.eval (.tmp 13) = .int .i64 0 ∧ a.eval (.tmp 0) = .slice pa l ca ∧ a.eval (.tmp 1) = .slice (some pb) m cb ∧ (l : Int) < LIM ∧ (m : Int) < LIM ∧ l ≤ ca ∧ m ≤ cb ∧ 0 < m ∧ (pa = none → l = 0) ∧
    (MD Tq.prog Q s0) (bF.at a' [.code (.block 0 (.loop LF0)), .code (codeF 9)]) cs w := by
  rw [bodyF_eq] at hM
  have M0 := hM.seq.region
  rw [show List.range opsF0.size = [0, 1, 2, 3, 4, 5, 6, 7, 8, 9, 10, 11, 12, 13] from rfl] at M0
  have lt : ∀ d, d < 48 → d < a.tmps.size := fun d h => by omega
  have M1 := M0.move (o := oAt opsF0 0) rfl rfl rfl (by decide) (.inr rfl) (v := .slice none 0 0) rfl
  obtain ⟨pa, l, ca, h0, M2⟩ := M1.len (o := oAt opsF0 1) rfl rfl rfl (by decide) rfl Tq.underlying23
  have k0 : a.eval (.tmp 0) = .slice pa l ca := by simpa [eval_put, put_size, lt] using h0
  obtain ⟨pb', m, cb, h1, M3⟩ := M2.len (o := oAt opsF0 2) rfl rfl rfl (by decide) rfl Tq.underlying24
  have k1 : a.eval (.tmp 1) = .slice pb' m cb := by simpa [eval_put, put_size, lt] using h1
  have M4 := M3.lss (o := oAt opsF0 3) (m := l) (n := 1048601) rfl rfl rfl (by decide) rfl (by simp [eval_put, put_size, lt]) rfl
  have M5 := M4.lss (o := oAt opsF0 4) (m := m) (n := 1048601) rfl rfl rfl (by decide) rfl (by simp [eval_put, put_size, lt]) rfl
  have M6 := M5.cap (o := oAt opsF0 5) (pa := pa) (l := l) (c := ca) rfl rfl rfl (by decide) rfl Tq.underlying23 (by simp [eval_put, put_size, lt, k0])
  have M7 := M6.cap (o := oAt opsF0 6) (pa := pb') (l := m) (c := cb) rfl rfl rfl (by decide) rfl Tq.underlying24 (by simp [eval_put, put_size, lt, k1])
  have M8 := M7.leq (o := oAt opsF0 7) (m := l) (n := ca) rfl rfl rfl (by decide) rfl (by simp [eval_put, put_size, lt]) (by simp [eval_put, put_size, lt])
  have M9 := M8.leq (o := oAt opsF0 8) (m := m) (n := cb) rfl rfl rfl (by decide) rfl (by simp [eval_put, put_size, lt]) (by simp [eval_put, put_size, lt])
  have M10 := M9.move (o := oAt opsF0 9) rfl rfl rfl (by decide) (.inl rfl) (v := .int .i64 0) rfl
  have M11 := M10.isNil (o := oAt opsF0 10) (pa := pa) (l := l) (c := ca) rfl rfl rfl (by decide) rfl Tq.underlying23 (by simp [eval_put, put_size, lt, k0])
  have M12 := M11.isNil (o := oAt opsF0 11) (pa := pb') (l := m) (c := cb) rfl rfl rfl (by decide) rfl Tq.underlying24 (by simp [eval_put, put_size, lt, k1])
  have M13 := M12.lss (o := oAt opsF0 12) (m := 0) (n := l) rfl rfl rfl (by decide) rfl rfl (by simp [eval_put, put_size, lt])
  have M14 := M13.lss (o := oAt opsF0 13) (m := 0) (n := m) rfl rfl rfl (by decide) rfl rfl (by simp [eval_put, put_size, lt])
  have M15 := M14.region_end.seq
  generalize hA : Act.put _ (oAt opsF0 13).dst _ = a' at M15
  have ev : ∀ k, a'.eval (.tmp k) = if 42 = k then .bool (decide ((0 : Int) < m)) else if 41 = k then .bool (decide ((0 : Int) < l)) else if 40 = k then .bool pb'.isNone else if 39 = k then .bool pa.isNone else if 13 = k then .int .i64 0 else if 12 = k then .bool (decide ((m : Int) ≤ cb)) else if 11 = k then .bool (decide ((l : Int) ≤ ca)) else if 10 = k then .int .i64 cb else if 9 = k then .int .i64 ca
      else if 8 = k then .bool (decide ((m : Int) < 1048601)) else if 7 = k then .bool (decide ((l : Int) < 1048601)) else if 6 = k then .int .i64 m else if 5 = k then .int .i64 l else if 4 = k then .slice none 0 0 else a.eval (.tmp k) := by
    intro k
    rw [← hA]
    simp only [dF0_0, dF0_1, dF0_2, dF0_3, dF0_4, dF0_5, dF0_6, dF0_7, dF0_8, dF0_9, dF0_10, dF0_11, dF0_12, dF0_13]
    repeat rw [eval_put (by simp [put_size, lt])]
  have hs' : 48 ≤ a'.tmps.size := by rw [← hA]; simp [put_size]; omega
  have hdf : a'.defers = [] := by
    rw [← hA]
    simp only [dF0_0, dF0_1, dF0_2, dF0_3, dF0_4, dF0_5, dF0_6, dF0_7, dF0_8, dF0_9, dF0_10, dF0_11, dF0_12, dF0_13, put_df]
    exact hd0
  obtain ⟨c7, M16⟩ := M15.need
  obtain ⟨c8, M17⟩ := M16.seq.need
  obtain ⟨c11, M18⟩ := M17.seq.need
  obtain ⟨c12, M19⟩ := M18.seq.need
  obtain ⟨c42, M20⟩ := M19.seq.need
  rw [ev] at c7 c8 c11 c12 c42
  have d7 : (l : Int) < 1048601 := by simpa using c7
  have d8 : (m : Int) < 1048601 := by simpa using c8
  have d11 : l ≤ ca := by simpa using c11
  have d12 : m ≤ cb := by simpa using c12
  have d42 : 0 < m := by simpa using c42
  obtain ⟨t39, h39, M21⟩ := M20.seq.cond
  rw [ev] at h39
  have e39 : t39 = pa.isNone := by simpa using h39.symm
  have M22 : (pa = none → l = 0) ∧ (MD Tq.prog Q s0) (bF.at a' [.code (.seq (.cond (.tmp 40) stopC .skip) (.seq (.block 0 (.loop LF0)) (codeF 9)))]) cs w := by
    cases t39 with
    | false => exact ⟨fun h => (by rw [h] at e39; cases e39), M21.skip⟩
    | true =>
      obtain ⟨t41, h41, M⟩ := MD.cond (c := .tmp 41) (x := stopC) (y := .skip) M21
      rw [ev] at h41
      have e41 : t41 = decide ((0 : Int) < l) := by simpa using h41.symm
      cases t41 with
      | true => exact (M.not_stop).elim
      | false => exact ⟨fun _ => (by have := e41.symm; simp at this; omega), M.skip⟩
  obtain ⟨hnil, M23⟩ := M22
  obtain ⟨t40, h40, M24⟩ := M23.seq.cond
  rw [ev] at h40
  have e40 : t40 = pb'.isNone := by simpa using h40.symm
  cases t40 with
  | true => exact (MD.not_stop M24).elim
  | false =>
    cases pb' with
    | none => cases e40
    | some pb =>
      refine ⟨pa, l, ca, pb, m, cb, a', ⟨hs', by rw [ev]; simpa using k0, by rw [ev]; simpa using k1, by rw [ev]; rfl, by rw [ev]; rfl, hdf⟩, by rw [ev]; rfl, k0, k1, d7, d8, d11, d12, d42, hnil, (MD.skip M24).seq⟩
section
variable {pa : Option Addr} {l ca m cb : Nat} {pb : Addr}
/-- The loop over the piles. -/
theorem piles_shape (hl : (l : Int) < LIM) (hnil : pa = none → l = 0) (hF : ∀ ad i d, pa = some ad → w.cell? ((ad.add (i * 2)).add d) = none → ∃ s, w.farLoad Tq.prog ((ad.add (i * 2)).add d) false = .error (.stuck s)) :
    ∀ (r i : Nat) (a : Act), r = l - i → i ≤ l → FA pa l ca pb m cb a → a.eval (.tmp 13) = .int .i64 i → (MD Tq.prog Q s0) (bF.at a (.code LF0 :: .inLoop LF0 :: .inBlock 0 :: [.code (codeF 9)])) cs w →
      (∀ j, i ≤ j → j < l → ∃ ad, pa = some ad ∧ PileAt ad j w) ∧ ∃ a', FA pa l ca pb m cb a' ∧ (MD Tq.prog Q s0) (bF.at a' [.code (codeF 9)]) cs w := by
  have hl' : (l : Int) < 1048601 := hl
  intro r
  induction r with
  | zero =>
    intro i a hr hi hA h13 hM
    have lt : ∀ d, d < 48 → d < a.tmps.size := fun d h => by have := hA.size; omega
    rw [LF0_eq] at hM
    have M1 := hM.seq.region.lss (o := oAt opsF1 0) (i := 0) (rest := []) (m := i) (n := l) rfl rfl rfl (by decide) rfl h13 hA.t5
    obtain ⟨t, ht, M2⟩ := M1.region_end.seq.cond
    have e : t = decide ((i : Int) < l) := by simpa [eval_put, put_size, lt] using ht.symm
    have e2 : t = false := by rw [e]; exact decide_eq_false (by omega)
    subst e2
    exact ⟨fun j h1 h2 => by omega, _, hA.put (d := 14) _ (by decide), MD.exit M2 rfl⟩
  | succ r ih =>
    intro i a hr hi hA h13 hM
    have lt : ∀ d, d < 48 → d < a.tmps.size := fun d h => by have := hA.size; omega
    rw [LF0_eq] at hM
    have M1 := hM.seq.region.lss (o := oAt opsF1 0) (i := 0) (rest := []) (m := i) (n := l) rfl rfl rfl (by decide) rfl h13 hA.t5
    obtain ⟨t, ht, M2⟩ := M1.region_end.seq.cond
    have e : t = decide ((i : Int) < l) := by simpa [eval_put, put_size, lt] using ht.symm
    have e2 : t = true := by rw [e]; exact decide_eq_true (by omega)
    subst e2
    have M3 := (MD.skip M2).seq.region
    rw [show List.range opsF2.size = [0, 1, 2, 3, 4, 5, 6, 7] from rfl] at M3
    obtain ⟨ad, had⟩ : ∃ ad, pa = some ad := by
      cases pa with
      | none => have := hnil rfl; omega
      | some ad => exact ⟨ad, rfl⟩
    subst had
    have M4 := M3.index (o := oAt opsF2 0) (ad := ad) (n := l) (c := ca) (j := i) rfl rfl rfl (by decide) rfl (by simpa [eval_put, put_size, lt] using hA.t0) (by simpa [eval_put, put_size, lt] using h13) pilesU pilesS (by omega)
    have M5 := M4.field (o := oAt opsF2 1) (ad := ad.add (i * 2)) (sz := 0) rfl rfl rfl (by decide) rfl (by simp [eval_put, put_size, lt]) Tq.underlying48 rfl Tq.sizeOf9
    obtain ⟨v, hv, M6⟩ := M5.load (o := oAt opsF2 2) (ad := (ad.add (i * 2)).add 0) rfl rfl rfl (by decide) rfl (by simp [eval_put, put_size, lt]) Tq.isAgg9 (hF ad i 0 rfl)
    obtain ⟨s, hs, M7⟩ := M6.len_string (o := oAt opsF2 3) rfl rfl rfl (by decide) rfl Tq.underlying9
    have hs1 : v = .string s := by simpa [eval_put, put_size, lt] using hs
    have M8 := M7.lss (o := oAt opsF2 4) (m := s.size) (n := 1048601) rfl rfl rfl (by decide) rfl (by simp [eval_put, put_size, lt]) rfl
    have M9 := M8.field (o := oAt opsF2 5) (ad := ad.add (i * 2)) (sz := 0) rfl rfl rfl (by decide) rfl (by simp [eval_put, put_size, lt]) Tq.underlying48 rfl Tq.sizeOf3
    obtain ⟨u, hu, M10⟩ := M9.load (o := oAt opsF2 6) (ad := (ad.add (i * 2)).add 1) rfl rfl rfl (by decide) rfl (by simp [eval_put, put_size, lt]) Tq.isAgg3 (hF ad i 1 rfl)
    obtain ⟨n, hn, M11⟩ := M10.isInt (o := oAt opsF2 7) (n := 0) rfl rfl rfl (by decide) rfl rfl
    have hn1 : u = .int .i64 n := by simpa [eval_put, put_size, lt] using hn
    obtain ⟨c19, M12⟩ := M11.region_end.seq.need
    have d19 : (s.size : Int) < LIM := by simpa [eval_put, put_size, lt] using c19
    have M13 := M12.region
    rw [show List.range opsF3.size = [0, 1] from rfl] at M13
    have M14 := M13.add (o := oAt opsF3 0) (m := i) (n := 1) rfl rfl rfl (by decide) rfl (by simpa [eval_put, put_size, lt] using h13) rfl
    have M15 := M14.move (o := oAt opsF3 1) (v := .int .i64 (IntKind.wrap .i64 (i + 1))) rfl rfl rfl (by decide) (.inl rfl) (by simp [eval_put, put_size, lt])
    have hA1 := (((((((((hA.put (d := 14) (.bool (decide ((i : Int) < l))) (by decide)).put (d := 15) (.pointer (some (ad.add (i * 2)))) (by decide)).put (d := 16) (.pointer (some ((ad.add (i * 2)).add 0))) (by decide)).put (d := 17) v (by decide)).put (d := 18) (.int .i64 (s.size : Nat)) (by decide)).put (d := 19) (.bool (decide ((s.size : Int) < 1048601))) (by decide)).put (d := 20) (.pointer (some ((ad.add (i * 2)).add 1))) (by decide)).put (d := 21) u (by decide)).put (d := 22) (.bool (decide (n < 0))) (by decide))
    have hA2 := (hA1.put (d := 23) (.int .i64 (IntKind.wrap .i64 (i + 1))) (by decide)).put (d := 13) (.int .i64 (IntKind.wrap .i64 (i + 1))) (by decide)
    obtain ⟨k1, k2⟩ := ih (i + 1) _ (by omega) (by omega) hA2 (by
      rw [eval_put (by simp [put_size, lt]), if_pos rfl, wrap_small (by omega) (by omega)]
      simp) M15.region_end.inLoop
    refine ⟨fun j h1 h2 => ?_, k2⟩
    by_cases hj : j = i
    · subst hj
      exact ⟨ad, rfl, ⟨s, by rw [hv, hs1], d19⟩, ⟨n, by rw [hu, hn1]⟩⟩
    · exact k1 j (by omega) h2
/-- The loop over the bools. -/
theorem bools_shape (hm : (m : Int) < LIM) (hF : ∀ j, w.cell? (pb.add (j * 1)) = none → ∃ s, w.farLoad Tq.prog (pb.add (j * 1)) false = .error (.stuck s)) :
    ∀ (r i : Nat) (a : Act), r = m - i → i ≤ m → FA pa l ca pb m cb a → a.eval (.tmp 43) = .int .i64 i → (MD Tq.prog Q s0) (bF.at a (.code LF1 :: .inLoop LF1 :: .inBlock 1 :: [.code (codeF 11)])) cs w →
      (∀ j, i ≤ j → j < m → ∃ t, w.cell? (pb.add (j * 1)) = some (.bool t)) ∧ ∃ a', FA pa l ca pb m cb a' ∧ (MD Tq.prog Q s0) (bF.at a' [.code (codeF 11)]) cs w := by
  have hm' : (m : Int) < 1048601 := hm
  intro r
  induction r with
  | zero =>
    intro i a hr hi hA h43 hM
    have lt : ∀ d, d < 48 → d < a.tmps.size := fun d h => by have := hA.size; omega
    rw [LF1_eq] at hM
    have M1 := hM.seq.region.lss (o := oAt opsF5 0) (i := 0) (rest := []) (m := i) (n := m) rfl rfl rfl (by decide) rfl h43 hA.t6
    obtain ⟨t, ht, M2⟩ := M1.region_end.seq.cond
    have e : t = decide ((i : Int) < m) := by simpa [eval_put, put_size, lt] using ht.symm
    have e2 : t = false := by rw [e]; exact decide_eq_false (by omega)
    subst e2
    exact ⟨fun j h1 h2 => by omega, _, hA.put (d := 44) _ (by decide), MD.exit M2 rfl⟩
  | succ r ih =>
    intro i a hr hi hA h43 hM
    have lt : ∀ d, d < 48 → d < a.tmps.size := fun d h => by have := hA.size; omega
    rw [LF1_eq] at hM
    have M1 := hM.seq.region.lss (o := oAt opsF5 0) (i := 0) (rest := []) (m := i) (n := m) rfl rfl rfl (by decide) rfl h43 hA.t6
    obtain ⟨t, ht, M2⟩ := M1.region_end.seq.cond
    have e : t = decide ((i : Int) < m) := by simpa [eval_put, put_size, lt] using ht.symm
    have e2 : t = true := by rw [e]; exact decide_eq_true (by omega)
    subst e2
    have M3 := (MD.skip M2).seq.region
    rw [show List.range opsF6.size = [0, 1] from rfl] at M3
    have M4 := M3.index (o := oAt opsF6 0) (ad := pb) (n := m) (c := cb) (j := i) rfl rfl rfl (by decide) rfl (by simpa [eval_put, put_size, lt] using hA.t1) (by simpa [eval_put, put_size, lt] using h43) boolsU boolsS (by omega)
    obtain ⟨v, hv, M5⟩ := M4.load (o := oAt opsF6 1) (ad := pb.add (i * 1)) rfl rfl rfl (by decide) rfl (by simp [eval_put, put_size, lt]) Tq.isAgg4 (hF i)
    obtain ⟨u, hu, M6⟩ := M5.region_end.seq.cond
    have hu1 : v = .bool u := by simpa [eval_put, put_size, lt] using hu
    have M7 : (MD Tq.prog Q s0) (bF.at (((a.put (some 44) (.bool (decide ((i : Int) < m)))).put (some 45) (.pointer (some (pb.add (i * 1))))).put (some 46) v) (.code (.region 7 opsF7 false) :: .inLoop LF1 :: .inBlock 1 :: [.code (codeF 11)])) cs w := by
      cases u <;> exact MD.skip M6
    have M13 := M7.region
    rw [show List.range opsF7.size = [0, 1] from rfl] at M13
    have M14 := M13.add (o := oAt opsF7 0) (m := i) (n := 1) rfl rfl rfl (by decide) rfl (by simpa [eval_put, put_size, lt] using h43) rfl
    have M15 := M14.move (o := oAt opsF7 1) (v := .int .i64 (IntKind.wrap .i64 (i + 1))) rfl rfl rfl (by decide) (.inl rfl) (by simp [eval_put, put_size, lt])
    have hA1 := ((hA.put (d := 44) (.bool (decide ((i : Int) < m))) (by decide)).put (d := 45) (.pointer (some (pb.add (i * 1)))) (by decide)).put (d := 46) v (by decide)
    have hA2 := (hA1.put (d := 47) (.int .i64 (IntKind.wrap .i64 (i + 1))) (by decide)).put (d := 43) (.int .i64 (IntKind.wrap .i64 (i + 1))) (by decide)
    obtain ⟨k1, k2⟩ := ih (i + 1) _ (by omega) (by omega) hA2 (by
      rw [eval_put (by simp [put_size, lt]), if_pos rfl, wrap_small (by omega) (by omega)]
      simp) M15.region_end.inLoop
    refine ⟨fun j h1 h2 => ?_, k2⟩
    by_cases hj : j = i
    · subst hj
      exact ⟨u, by rw [hv, hu1]⟩
    · exact k1 j (by omega) h2
end

/-- From the start to behind the checks. -/
theorem own_checked {c : Array Value} (hM : (MD Tq.prog Q s0) (Frame.enter Tq.prog 52 c .normal) cs w)
    (hF : ∀ i ad l k, c.getD i undef = .slice (some ad) l k → ∀ x : Addr, x.block = ad.block → w.cell? x = none → ∃ s, w.farLoad Tq.prog x false = .error (.stuck s)) :
    ∃ pa l ca pb m cb a', Shape c w pa l ca pb m cb ∧ FA pa l ca pb m cb a' ∧ (MD Tq.prog Q s0) (bF.at a' [.code (codeF 11)]) cs w := by
  rw [enterF] at hM
  have hsz : 48 ≤ (c ++ Array.replicate (48 - c.size) undef).size := by simp; omega
  have hget : ∀ k, k < 48 → (⟨c ++ Array.replicate (48 - c.size) undef, []⟩ : Act).eval (.tmp k) = c.getD k undef := by
    intro k hk
    show (c ++ Array.replicate (48 - c.size) undef).getD k undef = c.getD k undef
    rw [Array.getD_eq_getD_getElem?, Array.getD_eq_getD_getElem?, Array.getElem?_append]
    split
    · rfl
    · rename_i h
      rw [Array.getElem?_eq_none (by omega : c.size ≤ k), Array.getElem?_replicate]
      split <;> rfl
  obtain ⟨pa, l, ca, pb, m, cb, a', hA, h13, k0, k1, d1, d2, d3, d4, d5, d6, M⟩ := head_shape hsz rfl hM
  rw [hget 0 (by decide)] at k0
  rw [hget 1 (by decide)] at k1
  obtain ⟨hp, a2, hA2, M2⟩ := piles_shape d1 d6 (fun ad i d h => hF 0 ad l ca (by rw [k0, h]) _ (by rw [add_block', add_block'])) l 0 a' (by omega) (by omega) hA h13 M.block.loop
  rw [codeF9_eq] at M2
  have M3 := M2.seq.region
  rw [show List.range opsF4.size = [0] from rfl] at M3
  have M4 := M3.move (o := oAt opsF4 0) (v := .int .i64 0) rfl rfl rfl (by decide) (.inl rfl) rfl
  have lt : ∀ d, d < 48 → d < a2.tmps.size := fun d h => by have := hA2.size; omega
  obtain ⟨hb, a3, hA3, M5⟩ := bools_shape d2 (fun j => hF 1 pb m cb k1 _ (by rw [add_block'])) m 0 _ (by omega) (by omega) (hA2.put (d := 43) (.int .i64 0) (by decide)) (by rw [eval_put (by simp [lt])]; rfl) M4.region_end.seq.block.loop
  exact ⟨pa, l, ca, pb, m, cb, a3, ⟨k0, k1, d1, d2, d3, d4, d5, d6, fun i hi => hp i (by omega) hi, fun j hj => hb j (by omega) hj⟩, hA3, M5⟩
end
end Go.Proofs.Ytgkakgibgfehaaa.Md
