/-
  WHAT THE ARGUMENTS OF countsOfParts MUST BE, if our own function's lone run goes on with them: two slices that hold what their types say. Condition: a cell of theirs that is not there is an error of the kind 'stuck'.
  THE SAME OF THE ARGUMENTS IN COMPANY: related arguments have the same shape there.
  ONE WORLD FOR ALL WORKERS' LONE RUNS: the start's world with blocks pushed behind it, each one frozen and of no type, each standing for a part of an older block. And from a lone contract in that world, a worker's beginning. Conditions: what the parts hold are values that need no block (texts, ints, bools).
  A WORKER's BEGINNING AND END ('Begin'), from a lone contract of partCounts in the world of the copies that says: the answer is a fresh row of these values. Condition: the row is not empty; its values need no block.
  THE COPIES OF ALL PARTS, from the shape of the arguments. No condition but that shape, and that the blocks are no package variables.
-/
import Derived.Test.YtgkakgibgfehaaaMuA
import Derived.Test.YtgkakgibgfehaaaSh20
import Derived.Test.YtgkakgibgfehaaaSh32
import Derived.Test.YtgkakgibgfehaaaSh2
namespace Go.Proofs.Ytgkakgibgfehaaa.Ph
open Go.Conc Go.ConcN Go.RowKit Go.ConcR.Gen Go.ConcN.Gen Go.Proofs.Ytgkakgibgfehaaa.Sim

abbrev LIM : Int := 1048601
/-- The list of piles: two slots a pile, a short text and an int. -/
structure PileAt (ad : Addr) (i : Nat) (w : World) : Prop where
  name : ∃ s : ByteArray, w.cell? ((ad.add (i * 2)).add 0) = some (.string s) ∧ (s.size : Int) < LIM
  many : ∃ m : Int, w.cell? ((ad.add (i * 2)).add 1) = some (.int .i64 m)
structure Shape (c : Array Value) (w : World) (pa : Option Addr) (l ca : Nat) (pb : Addr) (m cb : Nat) : Prop where
  s0 : c.getD 0 undef = .slice pa l ca
  s1 : c.getD 1 undef = .slice (some pb) m cb
  short : (l : Int) < LIM
  short' : (m : Int) < LIM
  room : l ≤ ca
  room' : m ≤ cb
  pos : 0 < m
  nilEmpty : pa = none → l = 0
  piles : ∀ i, i < l → ∃ ad, pa = some ad ∧ PileAt ad i w
  bools : ∀ j, j < m → ∃ t, w.cell? (pb.add (j * 1)) = some (.bool t)

def bF : Frame := base 52
noncomputable def bodyF : Code := Tq.f52.body.getD .skip
/-- n steps to the right. -/
def tailC : Nat → Code → Code | 0, c => c | n + 1, c => tailC n (sndC c)
noncomputable def opsF0 : Array Oper := opsC (fstC bodyF)
noncomputable def codeF (n : Nat) : Code := tailC n bodyF
noncomputable def LF0 : Code := inC (inC (fstC (codeF 8)))
noncomputable def opsF1 : Array Oper := opsC (fstC LF0)
noncomputable def opsF2 : Array Oper := opsC (fstC (tailC 2 LF0))
noncomputable def opsF3 : Array Oper := opsC (tailC 4 LF0)
noncomputable def opsF4 : Array Oper := opsC (fstC (codeF 9))
noncomputable def LF1 : Code := inC (inC (fstC (codeF 10)))
noncomputable def opsF5 : Array Oper := opsC (fstC LF1)
noncomputable def opsF6 : Array Oper := opsC (fstC (tailC 2 LF1))
noncomputable def opsF7 : Array Oper := opsC (tailC 4 LF1)
abbrev needC (k : Nat) : Code := .cond (.tmp k) .skip (.cond (.const (.int .i64 0)) .skip .skip)
abbrev stopC : Code := .cond (.const (.int .i64 0)) .skip .skip
theorem bodyF_eq : bodyF = .seq (.region 0 opsF0 false) (.seq (needC 7) (.seq (needC 8) (.seq (needC 11) (.seq (needC 12) (.seq (needC 42) (.seq (.cond (.tmp 39) (.cond (.tmp 41) stopC .skip) .skip) (.seq (.cond (.tmp 40) stopC .skip) (.seq (.block 0 (.loop LF0)) (codeF 9))))))))) := rfl
theorem LF0_eq : LF0 = .seq (.region 1 opsF1 false) (.seq (.cond (.tmp 14) .skip (.exit 0)) (.seq (.region 2 opsF2 false) (.seq (needC 19) (.region 3 opsF3 false)))) := rfl
theorem codeF9_eq : codeF 9 = .seq (.region 4 opsF4 false) (.seq (.block 1 (.loop LF1)) (codeF 11)) := rfl
theorem LF1_eq : LF1 = .seq (.region 5 opsF5 false) (.seq (.cond (.tmp 44) .skip (.exit 1)) (.seq (.region 6 opsF6 false) (.seq (.cond (.tmp 46) .skip .skip) (.region 7 opsF7 false)))) := rfl
theorem enterF (c : Array Value) : Frame.enter Tq.prog 52 c .normal = bF.at ⟨c ++ Array.replicate (48 - c.size) undef, []⟩ [.code bodyF] := by
  have h : Tq.prog.funcs[52]? = some Tq.f52 := Tq.func52
  simp [Frame.enter, h, bF, base, Frame.at, bodyF, Tq.f52]

section
variable {Q : Value → World → Prop} {cs : List Frame} {w : World} {a : Act}
/-- What the checker's slots hold. -/
structure FA (pa : Option Addr) (l ca : Nat) (pb : Addr) (m cb : Nat) (a : Act) : Prop where
  size : 48 ≤ a.tmps.size
  t0 : a.eval (.tmp 0) = .slice pa l ca
  t1 : a.eval (.tmp 1) = .slice (some pb) m cb
  t5 : a.eval (.tmp 5) = .int .i64 l
  t6 : a.eval (.tmp 6) = .int .i64 m
  df : a.defers = []
theorem FA.put {pa : Option Addr} {l ca m cb : Nat} {pb : Addr} {a : Act} (h : FA pa l ca pb m cb a) {d : Nat} (v : Value) (hd : d ≠ 0 ∧ d ≠ 1 ∧ d ≠ 5 ∧ d ≠ 6) : FA pa l ca pb m cb (a.put (some d) v) :=
  ⟨by rw [put_size]; exact h.size, (eval_put_ne hd.1).trans h.t0, (eval_put_ne hd.2.1).trans h.t1, (eval_put_ne hd.2.2.1).trans h.t5, (eval_put_ne hd.2.2.2).trans h.t6, h.df⟩

theorem put_df {a : Act} {d : Nat} {v : Value} : (a.put (some d) v).defers = a.defers := rfl
theorem dF0_0 : (oAt opsF0 0).dst = some 4 := rfl
theorem dF0_1 : (oAt opsF0 1).dst = some 5 := rfl
theorem dF0_2 : (oAt opsF0 2).dst = some 6 := rfl
theorem dF0_3 : (oAt opsF0 3).dst = some 7 := rfl
theorem dF0_4 : (oAt opsF0 4).dst = some 8 := rfl
theorem dF0_5 : (oAt opsF0 5).dst = some 9 := rfl
theorem dF0_6 : (oAt opsF0 6).dst = some 10 := rfl
theorem dF0_7 : (oAt opsF0 7).dst = some 11 := rfl
theorem dF0_8 : (oAt opsF0 8).dst = some 12 := rfl
theorem dF0_9 : (oAt opsF0 9).dst = some 13 := rfl
theorem dF0_10 : (oAt opsF0 10).dst = some 39 := rfl
theorem dF0_11 : (oAt opsF0 11).dst = some 40 := rfl
theorem dF0_12 : (oAt opsF0 12).dst = some 41 := rfl
theorem dF0_13 : (oAt opsF0 13).dst = some 42 := rfl
attribute [local simp] dF0_0 dF0_1 dF0_2 dF0_3 dF0_4 dF0_5 dF0_6 dF0_7 dF0_8 dF0_9 dF0_10 dF0_11 dF0_12 dF0_13
theorem _root_.Go.Proofs.Ytgkakgibgfehaaa.Sim.Must.not_stop {k : List Item} (hM : (Must Tq.prog [junk] Q) (bF.at a (.code stopC :: k)) cs w) : False := by
  obtain ⟨u, hu, -⟩ := hM.cond
  exact absurd hu (by show Value.int .i64 0 ≠ .bool u; intro h; cases h)
/-- The head of the checker: lengths and room. -/
theorem head_shape (hs : 48 ≤ a.tmps.size) (hd0 : a.defers = []) (hM : (Must Tq.prog [junk] Q) (bF.at a [.code bodyF]) cs w) : ∃ pa l ca pb m cb a', FA pa l ca pb m cb a' ∧ a'.eval (.tmp 13) = .int .i64 0 ∧ a.eval (.tmp 0) = .slice pa l ca ∧ a.eval (.tmp 1) = .slice (some pb) m cb ∧ (l : Int) < LIM ∧ (m : Int) < LIM ∧ l ≤ ca ∧ m ≤ cb ∧ 0 < m ∧ (pa = none → l = 0) ∧
    (Must Tq.prog [junk] Q) (bF.at a' [.code (.block 0 (.loop LF0)), .code (codeF 9)]) cs w := by
  rw [bodyF_eq] at hM
  have M0 := hM.seq.region
  rw [show List.range opsF0.size = [0, 1, 2, 3, 4, 5, 6, 7, 8, 9, 10, 11, 12, 13] from rfl] at M0
  have lt : ∀ d, d < 48 → d < a.tmps.size := fun d h => by omega
  have M1 := M0.move (o := oAt opsF0 0) rfl rfl rfl (by decide) (.inr rfl) (v := .slice none 0 0) rfl
  obtain ⟨pa, l, ca, h0, M2⟩ := M1.len (o := oAt opsF0 1) rfl rfl rfl (by decide) rfl Tq.underlying23
  have k0 : a.eval (.tmp 0) = .slice pa l ca := by simpa [eval_put, put_size, lt] using h0
  obtain ⟨pb', m, cb, h1, M3⟩ := M2.len (o := oAt opsF0 2) rfl rfl rfl (by decide) rfl Tq.underlying24
  have k1 : a.eval (.tmp 1) = .slice pb' m cb := by simpa [eval_put, put_size, lt] using h1
  have M4 := M3.lss (o := oAt opsF0 3) (m := l) (n := 1048601) rfl rfl rfl (by decide) rfl (by simp [eval_put, put_size, lt]) rfl
  have M5 := M4.lss (o := oAt opsF0 4) (m := m) (n := 1048601) rfl rfl rfl (by decide) rfl (by simp [eval_put, put_size, lt]) rfl
  have M6 := M5.cap (o := oAt opsF0 5) (pa := pa) (l := l) (c := ca) rfl rfl rfl (by decide) rfl Tq.underlying23 (by simp [eval_put, put_size, lt, k0])
  have M7 := M6.cap (o := oAt opsF0 6) (pa := pb') (l := m) (c := cb) rfl rfl rfl (by decide) rfl Tq.underlying24 (by simp [eval_put, put_size, lt, k1])
  have M8 := M7.leq (o := oAt opsF0 7) (m := l) (n := ca) rfl rfl rfl (by decide) rfl (by simp [eval_put, put_size, lt]) (by simp [eval_put, put_size, lt])
  have M9 := M8.leq (o := oAt opsF0 8) (m := m) (n := cb) rfl rfl rfl (by decide) rfl (by simp [eval_put, put_size, lt]) (by simp [eval_put, put_size, lt])
  have M10 := M9.move (o := oAt opsF0 9) rfl rfl rfl (by decide) (.inl rfl) (v := .int .i64 0) rfl
  have M11 := M10.isNil (o := oAt opsF0 10) (pa := pa) (l := l) (c := ca) rfl rfl rfl (by decide) rfl Tq.underlying23 (by simp [eval_put, put_size, lt, k0])
  have M12 := M11.isNil (o := oAt opsF0 11) (pa := pb') (l := m) (c := cb) rfl rfl rfl (by decide) rfl Tq.underlying24 (by simp [eval_put, put_size, lt, k1])
  have M13 := M12.lss (o := oAt opsF0 12) (m := 0) (n := l) rfl rfl rfl (by decide) rfl rfl (by simp [eval_put, put_size, lt])
  have M14 := M13.lss (o := oAt opsF0 13) (m := 0) (n := m) rfl rfl rfl (by decide) rfl rfl (by simp [eval_put, put_size, lt])
  have M15 := M14.region_end.seq
  generalize hA : Act.put _ (oAt opsF0 13).dst _ = a' at M15
  have ev : ∀ k, a'.eval (.tmp k) = if 42 = k then .bool (decide ((0 : Int) < m)) else if 41 = k then .bool (decide ((0 : Int) < l)) else if 40 = k then .bool pb'.isNone else if 39 = k then .bool pa.isNone else if 13 = k then .int .i64 0 else if 12 = k then .bool (decide ((m : Int) ≤ cb)) else if 11 = k then .bool (decide ((l : Int) ≤ ca)) else if 10 = k then .int .i64 cb else if 9 = k then .int .i64 ca
      else if 8 = k then .bool (decide ((m : Int) < 1048601)) else if 7 = k then .bool (decide ((l : Int) < 1048601)) else if 6 = k then .int .i64 m else if 5 = k then .int .i64 l else if 4 = k then .slice none 0 0 else a.eval (.tmp k) := by
    intro k
    rw [← hA]
    simp only [dF0_0, dF0_1, dF0_2, dF0_3, dF0_4, dF0_5, dF0_6, dF0_7, dF0_8, dF0_9, dF0_10, dF0_11, dF0_12, dF0_13]
    repeat rw [eval_put (by simp [put_size, lt])]
  have hs' : 48 ≤ a'.tmps.size := by rw [← hA]; simp [put_size]; omega
  have hdf : a'.defers = [] := by
    rw [← hA]
    simp only [dF0_0, dF0_1, dF0_2, dF0_3, dF0_4, dF0_5, dF0_6, dF0_7, dF0_8, dF0_9, dF0_10, dF0_11, dF0_12, dF0_13, put_df]
    exact hd0
  obtain ⟨c7, M16⟩ := M15.need
  obtain ⟨c8, M17⟩ := M16.seq.need
  obtain ⟨c11, M18⟩ := M17.seq.need
  obtain ⟨c12, M19⟩ := M18.seq.need
  obtain ⟨c42, M20⟩ := M19.seq.need
  rw [ev] at c7 c8 c11 c12 c42
  have d7 : (l : Int) < 1048601 := by simpa using c7
  have d8 : (m : Int) < 1048601 := by simpa using c8
  have d11 : l ≤ ca := by simpa using c11
  have d12 : m ≤ cb := by simpa using c12
  have d42 : 0 < m := by simpa using c42
  obtain ⟨t39, h39, M21⟩ := M20.seq.cond
  rw [ev] at h39
  have e39 : t39 = pa.isNone := by simpa using h39.symm
  have M22 : (pa = none → l = 0) ∧ (Must Tq.prog [junk] Q) (bF.at a' [.code (.seq (.cond (.tmp 40) stopC .skip) (.seq (.block 0 (.loop LF0)) (codeF 9)))]) cs w := by
    cases t39 with
    | false => exact ⟨fun h => (by rw [h] at e39; cases e39), M21.skip⟩
    | true =>
      obtain ⟨t41, h41, M⟩ := Must.cond (c := .tmp 41) (x := stopC) (y := .skip) M21
      rw [ev] at h41
      have e41 : t41 = decide ((0 : Int) < l) := by simpa using h41.symm
      cases t41 with
      | true => exact (M.not_stop).elim
      | false => exact ⟨fun _ => (by have := e41.symm; simp at this; omega), M.skip⟩
  obtain ⟨hnil, M23⟩ := M22
  obtain ⟨t40, h40, M24⟩ := M23.seq.cond
  rw [ev] at h40
  have e40 : t40 = pb'.isNone := by simpa using h40.symm
  cases t40 with
  | true => exact (Must.not_stop M24).elim
  | false =>
    cases pb' with
    | none => cases e40
    | some pb =>
      refine ⟨pa, l, ca, pb, m, cb, a', ⟨hs', by rw [ev]; simpa using k0, by rw [ev]; simpa using k1, by rw [ev]; rfl, by rw [ev]; rfl, hdf⟩, by rw [ev]; rfl, k0, k1, d7, d8, d11, d12, d42, hnil, (Must.skip M24).seq⟩
theorem pilesU : Tq.prog.underlying 23 = some (.slice (Tq.prog.elem 23)) := by kernel_rfl
theorem pilesS : ∀ w, (Go.sizeOf (Tq.prog.elem 23)).run Tq.prog w = .ok 2 w := by
  have : Tq.prog.elem 23 = 48 := by kernel_rfl
  rw [this]
  exact Tq.sizeOf48
theorem boolsU : Tq.prog.underlying 24 = some (.slice (Tq.prog.elem 24)) := by kernel_rfl
theorem boolsS : ∀ w, (Go.sizeOf (Tq.prog.elem 24)).run Tq.prog w = .ok 1 w := by
  have : Tq.prog.elem 24 = 4 := by kernel_rfl
  rw [this]
  exact Tq.sizeOf4
theorem dF1_0 : (oAt opsF1 0).dst = some 14 := rfl
theorem dF2_0 : (oAt opsF2 0).dst = some 15 := rfl
theorem dF2_1 : (oAt opsF2 1).dst = some 16 := rfl
theorem dF2_2 : (oAt opsF2 2).dst = some 17 := rfl
theorem dF2_3 : (oAt opsF2 3).dst = some 18 := rfl
theorem dF2_4 : (oAt opsF2 4).dst = some 19 := rfl
theorem dF2_5 : (oAt opsF2 5).dst = some 20 := rfl
theorem dF2_6 : (oAt opsF2 6).dst = some 21 := rfl
theorem dF2_7 : (oAt opsF2 7).dst = some 22 := rfl
theorem dF3_0 : (oAt opsF3 0).dst = some 23 := rfl
theorem dF3_1 : (oAt opsF3 1).dst = some 13 := rfl
theorem dF4_0 : (oAt opsF4 0).dst = some 43 := rfl
theorem dF5_0 : (oAt opsF5 0).dst = some 44 := rfl
theorem dF6_0 : (oAt opsF6 0).dst = some 45 := rfl
theorem dF6_1 : (oAt opsF6 1).dst = some 46 := rfl
theorem dF7_0 : (oAt opsF7 0).dst = some 47 := rfl
theorem dF7_1 : (oAt opsF7 1).dst = some 43 := rfl
attribute [local simp] dF1_0 dF2_0 dF2_1 dF2_2 dF2_3 dF2_4 dF2_5 dF2_6 dF2_7 dF3_0 dF3_1 dF4_0 dF5_0 dF6_0 dF6_1 dF7_0 dF7_1
theorem wrap_small {n : Int} (h0 : 0 ≤ n) (h1 : n < 2097152) : IntKind.wrap .i64 n = n := by
  rw [IntKind.wrap_i64]
  omega

section
variable {pa : Option Addr} {l ca m cb : Nat} {pb : Addr}
/-- The loop over the piles. -/
theorem piles_shape (hl : (l : Int) < LIM) (hnil : pa = none → l = 0) (hF : ∀ ad i d, pa = some ad → w.cell? ((ad.add (i * 2)).add d) = none → ∃ s, w.farLoad Tq.prog ((ad.add (i * 2)).add d) false = .error (.stuck s)) :
    ∀ (r i : Nat) (a : Act), r = l - i → i ≤ l → FA pa l ca pb m cb a → a.eval (.tmp 13) = .int .i64 i → (Must Tq.prog [junk] Q) (bF.at a (.code LF0 :: .inLoop LF0 :: .inBlock 0 :: [.code (codeF 9)])) cs w →
      (∀ j, i ≤ j → j < l → ∃ ad, pa = some ad ∧ PileAt ad j w) ∧ ∃ a', FA pa l ca pb m cb a' ∧ (Must Tq.prog [junk] Q) (bF.at a' [.code (codeF 9)]) cs w := by
  have hl' : (l : Int) < 1048601 := hl
  intro r
  induction r with
  | zero =>
    intro i a hr hi hA h13 hM
    have lt : ∀ d, d < 48 → d < a.tmps.size := fun d h => by have := hA.size; omega
    rw [LF0_eq] at hM
    have M1 := hM.seq.region.lss (o := oAt opsF1 0) (i := 0) (rest := []) (m := i) (n := l) rfl rfl rfl (by decide) rfl h13 hA.t5
    obtain ⟨t, ht, M2⟩ := M1.region_end.seq.cond
    have e : t = decide ((i : Int) < l) := by simpa [eval_put, put_size, lt] using ht.symm
    have e2 : t = false := by rw [e]; exact decide_eq_false (by omega)
    subst e2
    exact ⟨fun j h1 h2 => by omega, _, hA.put (d := 14) _ (by decide), Must.exit M2 rfl⟩
  | succ r ih =>
    intro i a hr hi hA h13 hM
    have lt : ∀ d, d < 48 → d < a.tmps.size := fun d h => by have := hA.size; omega
    rw [LF0_eq] at hM
    have M1 := hM.seq.region.lss (o := oAt opsF1 0) (i := 0) (rest := []) (m := i) (n := l) rfl rfl rfl (by decide) rfl h13 hA.t5
    obtain ⟨t, ht, M2⟩ := M1.region_end.seq.cond
    have e : t = decide ((i : Int) < l) := by simpa [eval_put, put_size, lt] using ht.symm
    have e2 : t = true := by rw [e]; exact decide_eq_true (by omega)
    subst e2
    have M3 := (Must.skip M2).seq.region
    rw [show List.range opsF2.size = [0, 1, 2, 3, 4, 5, 6, 7] from rfl] at M3
    obtain ⟨ad, had⟩ : ∃ ad, pa = some ad := by
      cases pa with
      | none => have := hnil rfl; omega
      | some ad => exact ⟨ad, rfl⟩
    subst had
    have M4 := M3.index (o := oAt opsF2 0) (ad := ad) (n := l) (c := ca) (j := i) rfl rfl rfl (by decide) rfl (by simpa [eval_put, put_size, lt] using hA.t0) (by simpa [eval_put, put_size, lt] using h13) pilesU pilesS (by omega)
    have M5 := M4.field (o := oAt opsF2 1) (ad := ad.add (i * 2)) (sz := 0) rfl rfl rfl (by decide) rfl (by simp [eval_put, put_size, lt]) Tq.underlying48 rfl Tq.sizeOf9
    obtain ⟨v, hv, M6⟩ := M5.load (o := oAt opsF2 2) (ad := (ad.add (i * 2)).add 0) rfl rfl rfl (by decide) rfl (by simp [eval_put, put_size, lt]) Tq.isAgg9 (hF ad i 0 rfl)
    obtain ⟨s, hs, M7⟩ := M6.len_string (o := oAt opsF2 3) rfl rfl rfl (by decide) rfl Tq.underlying9
    have hs1 : v = .string s := by simpa [eval_put, put_size, lt] using hs
    have M8 := M7.lss (o := oAt opsF2 4) (m := s.size) (n := 1048601) rfl rfl rfl (by decide) rfl (by simp [eval_put, put_size, lt]) rfl
    have M9 := M8.field (o := oAt opsF2 5) (ad := ad.add (i * 2)) (sz := 0) rfl rfl rfl (by decide) rfl (by simp [eval_put, put_size, lt]) Tq.underlying48 rfl Tq.sizeOf3
    obtain ⟨u, hu, M10⟩ := M9.load (o := oAt opsF2 6) (ad := (ad.add (i * 2)).add 1) rfl rfl rfl (by decide) rfl (by simp [eval_put, put_size, lt]) Tq.isAgg3 (hF ad i 1 rfl)
    obtain ⟨n, hn, M11⟩ := M10.isInt (o := oAt opsF2 7) (n := 0) rfl rfl rfl (by decide) rfl rfl
    have hn1 : u = .int .i64 n := by simpa [eval_put, put_size, lt] using hn
    obtain ⟨c19, M12⟩ := M11.region_end.seq.need
    have d19 : (s.size : Int) < LIM := by simpa [eval_put, put_size, lt] using c19
    have M13 := M12.region
    rw [show List.range opsF3.size = [0, 1] from rfl] at M13
    have M14 := M13.add (o := oAt opsF3 0) (m := i) (n := 1) rfl rfl rfl (by decide) rfl (by simpa [eval_put, put_size, lt] using h13) rfl
    have M15 := M14.move (o := oAt opsF3 1) (v := .int .i64 (IntKind.wrap .i64 (i + 1))) rfl rfl rfl (by decide) (.inl rfl) (by simp [eval_put, put_size, lt])
    have hA1 := (((((((((hA.put (d := 14) (.bool (decide ((i : Int) < l))) (by decide)).put (d := 15) (.pointer (some (ad.add (i * 2)))) (by decide)).put (d := 16) (.pointer (some ((ad.add (i * 2)).add 0))) (by decide)).put (d := 17) v (by decide)).put (d := 18) (.int .i64 (s.size : Nat)) (by decide)).put (d := 19) (.bool (decide ((s.size : Int) < 1048601))) (by decide)).put (d := 20) (.pointer (some ((ad.add (i * 2)).add 1))) (by decide)).put (d := 21) u (by decide)).put (d := 22) (.bool (decide (n < 0))) (by decide))
    have hA2 := (hA1.put (d := 23) (.int .i64 (IntKind.wrap .i64 (i + 1))) (by decide)).put (d := 13) (.int .i64 (IntKind.wrap .i64 (i + 1))) (by decide)
    obtain ⟨k1, k2⟩ := ih (i + 1) _ (by omega) (by omega) hA2 (by
      rw [eval_put (by simp [put_size, lt]), if_pos rfl, wrap_small (by omega) (by omega)]
      simp) M15.region_end.inLoop
    refine ⟨fun j h1 h2 => ?_, k2⟩
    by_cases hj : j = i
    · subst hj
      exact ⟨ad, rfl, ⟨s, by rw [hv, hs1], d19⟩, ⟨n, by rw [hu, hn1]⟩⟩
    · exact k1 j (by omega) h2
/-- The loop over the bools. -/
theorem bools_shape (hm : (m : Int) < LIM) (hF : ∀ j, w.cell? (pb.add (j * 1)) = none → ∃ s, w.farLoad Tq.prog (pb.add (j * 1)) false = .error (.stuck s)) :
    ∀ (r i : Nat) (a : Act), r = m - i → i ≤ m → FA pa l ca pb m cb a → a.eval (.tmp 43) = .int .i64 i → (Must Tq.prog [junk] Q) (bF.at a (.code LF1 :: .inLoop LF1 :: .inBlock 1 :: [.code (codeF 11)])) cs w →
      ∀ j, i ≤ j → j < m → ∃ t, w.cell? (pb.add (j * 1)) = some (.bool t) := by
  have hm' : (m : Int) < 1048601 := hm
  intro r
  induction r with
  | zero =>
    intro i a hr hi hA h13 hM j h1 h2
    omega
  | succ r ih =>
    intro i a hr hi hA h43 hM
    have lt : ∀ d, d < 48 → d < a.tmps.size := fun d h => by have := hA.size; omega
    rw [LF1_eq] at hM
    have M1 := hM.seq.region.lss (o := oAt opsF5 0) (i := 0) (rest := []) (m := i) (n := m) rfl rfl rfl (by decide) rfl h43 hA.t6
    obtain ⟨t, ht, M2⟩ := M1.region_end.seq.cond
    have e : t = decide ((i : Int) < m) := by simpa [eval_put, put_size, lt] using ht.symm
    have e2 : t = true := by rw [e]; exact decide_eq_true (by omega)
    subst e2
    have M3 := (Must.skip M2).seq.region
    rw [show List.range opsF6.size = [0, 1] from rfl] at M3
    have M4 := M3.index (o := oAt opsF6 0) (ad := pb) (n := m) (c := cb) (j := i) rfl rfl rfl (by decide) rfl (by simpa [eval_put, put_size, lt] using hA.t1) (by simpa [eval_put, put_size, lt] using h43) boolsU boolsS (by omega)
    obtain ⟨v, hv, M5⟩ := M4.load (o := oAt opsF6 1) (ad := pb.add (i * 1)) rfl rfl rfl (by decide) rfl (by simp [eval_put, put_size, lt]) Tq.isAgg4 (hF i)
    obtain ⟨u, hu, M6⟩ := M5.region_end.seq.cond
    have hu1 : v = .bool u := by simpa [eval_put, put_size, lt] using hu
    have M7 : (Must Tq.prog [junk] Q) (bF.at (((a.put (some 44) (.bool (decide ((i : Int) < m)))).put (some 45) (.pointer (some (pb.add (i * 1))))).put (some 46) v) (.code (.region 7 opsF7 false) :: .inLoop LF1 :: .inBlock 1 :: [.code (codeF 11)])) cs w := by
      cases u <;> exact Must.skip M6
    have M13 := M7.region
    rw [show List.range opsF7.size = [0, 1] from rfl] at M13
    have M14 := M13.add (o := oAt opsF7 0) (m := i) (n := 1) rfl rfl rfl (by decide) rfl (by simpa [eval_put, put_size, lt] using h43) rfl
    have M15 := M14.move (o := oAt opsF7 1) (v := .int .i64 (IntKind.wrap .i64 (i + 1))) rfl rfl rfl (by decide) (.inl rfl) (by simp [eval_put, put_size, lt])
    have hA1 := ((hA.put (d := 44) (.bool (decide ((i : Int) < m))) (by decide)).put (d := 45) (.pointer (some (pb.add (i * 1)))) (by decide)).put (d := 46) v (by decide)
    have hA2 := (hA1.put (d := 47) (.int .i64 (IntKind.wrap .i64 (i + 1))) (by decide)).put (d := 43) (.int .i64 (IntKind.wrap .i64 (i + 1))) (by decide)
    have k1 := ih (i + 1) _ (by omega) (by omega) hA2 (by
      rw [eval_put (by simp [put_size, lt]), if_pos rfl, wrap_small (by omega) (by omega)]
      simp) M15.region_end.inLoop
    intro j h1 h2
    by_cases hj : j = i
    · subst hj
      exact ⟨u, by rw [hv, hu1]⟩
    · exact k1 j (by omega) h2
end

/-- WHAT THE ARGUMENTS MUST BE. -/
theorem own_shape {c : Array Value} (hM : (Must Tq.prog [junk] Q) (Frame.enter Tq.prog 52 c .normal) cs w)
    (hF : ∀ i ad l k, c.getD i undef = .slice (some ad) l k → ∀ x : Addr, x.block = ad.block → w.cell? x = none → ∃ s, w.farLoad Tq.prog x false = .error (.stuck s)) : ∃ pa l ca pb m cb, Shape c w pa l ca pb m cb := by
  rw [enterF] at hM
  have hsz : 48 ≤ (c ++ Array.replicate (48 - c.size) undef).size := by simp; omega
  have hget : ∀ k, k < 48 → (⟨c ++ Array.replicate (48 - c.size) undef, []⟩ : Act).eval (.tmp k) = c.getD k undef := by
    intro k hk
    show (c ++ Array.replicate (48 - c.size) undef).getD k undef = c.getD k undef
    rw [Array.getD_eq_getD_getElem?, Array.getD_eq_getD_getElem?, Array.getElem?_append]
    split
    · rfl
    · rename_i h
      rw [Array.getElem?_eq_none (by omega : c.size ≤ k), Array.getElem?_replicate]
      split <;> rfl
  obtain ⟨pa, l, ca, pb, m, cb, a', hA, h13, k0, k1, d1, d2, d3, d4, d5, d6, M⟩ := head_shape hsz rfl hM
  rw [hget 0 (by decide)] at k0
  rw [hget 1 (by decide)] at k1
  obtain ⟨hp, a2, hA2, M2⟩ := piles_shape d1 d6 (fun ad i d h => hF 0 ad l ca (by rw [k0, h]) _ (by rw [add_block', add_block'])) l 0 a' (by omega) (by omega) hA h13 M.block.loop
  rw [codeF9_eq] at M2
  have M3 := M2.seq.region
  rw [show List.range opsF4.size = [0] from rfl] at M3
  have M4 := M3.move (o := oAt opsF4 0) (v := .int .i64 0) rfl rfl rfl (by decide) (.inl rfl) rfl
  have lt : ∀ d, d < 48 → d < a2.tmps.size := fun d h => by have := hA2.size; omega
  have hb := bools_shape d2 (fun j => hF 1 pb m cb k1 _ (by rw [add_block'])) m 0 _ (by omega) (by omega) (hA2.put (d := 43) (.int .i64 0) (by decide)) (by rw [eval_put (by simp [lt])]; rfl) M4.region_end.seq.block.loop
  exact ⟨pa, l, ca, pb, m, cb, k0, k1, d1, d2, d3, d4, d5, d6, fun i hi => hp i (by omega) hi, fun j hj => hb j (by omega) hj⟩
end
end Go.Proofs.Ytgkakgibgfehaaa.Ph

namespace Go.Proofs.Ytgkakgibgfehaaa.Ph
open Go.Conc Go.ConcN Go.RowKit Go.ConcR.Gen Go.ConcN.Gen Go.Proofs.Ytgkakgibgfehaaa.Sim

section
variable {ok : Cx} {T : Tables} {Fz : Fr} {R : Ren} {w w' : World}
theorem rows_getD {c c' : Array Value} (h : Sim.Rows ok R c c') (k : Nat) : VRel ok R (c.getD k undef) (c'.getD k undef) := by
  rw [Array.getD_eq_getD_getElem?, Array.getD_eq_getD_getElem?]
  cases hc : c[k]? with
  | some v =>
    obtain ⟨v', h1, h2⟩ := h.get hc
    rw [h1]
    exact h2
  | none =>
    rw [h.none hc]
    exact .undef
theorem near_far {P : Program} (hN : Near ok T Fz R w w') {x : Addr} {b' : Nat} (hb : R x.block b') : ∃ s, w.farLoad P x false = .error (.stuck s) := by
  obtain ⟨o, h1, h3⟩ := WRel.far hN hb
  have h1' : w.heap[x.block]? = some o := h1
  unfold World.farLoad World.noCell
  rw [h1']
  rcases h3 with ⟨_, _, _, rfl⟩ | ⟨_, rfl⟩ | ⟨_, _, rfl⟩ | ⟨_, rfl⟩ <;> exact ⟨_, rfl⟩
theorem near_cells (hN : Near ok T Fz R w w') {a a' : Addr} {v : Value} (ha : ARel ok R a a') (hv : w.cell? a = some v) : ∃ v', w'.cell? a' = some v' ∧ VRel ok R v v' := WRel.cells hN ha hv
end

/-- WHAT THE ARGUMENTS MUST BE, on both sides. -/
theorem both_shape {Q : Value → World → Prop} {cs : List Frame} {ok : Cx} {T : Tables} {Fz : Fr} {R : Ren} {w w' : World} {c c' : Array Value} (hM : Must Tq.prog [junk] Q (Frame.enter Tq.prog 52 c .normal) cs w) (hR : Sim.Rows ok R c c') (hN : Near ok T Fz R w w') :
    ∃ pa l ca pb m cb pa' pb', Shape c w pa l ca pb m cb ∧ Shape c' w' pa' l ca pb' m cb ∧ ARel ok R pb pb' ∧ ∀ ad, pa = some ad → ∃ ad', pa' = some ad' ∧ ARel ok R ad ad' := by
  obtain ⟨pa, l, ca, pb, m, cb, S⟩ := own_shape hM fun i ad l k hk x hx _ => by
    have h := rows_getD hR i
    rw [hk] at h
    cases hc : c'.getD i undef <;> rw [hc] at h <;> cases h
    rename_i a' ha
    exact near_far hN (x := x) (b' := a'.block) (by rw [hx]; exact ha.1)
  have r0 := rows_getD hR 0
  have r1 := rows_getD hR 1
  rw [S.s0] at r0
  rw [S.s1] at r1
  obtain ⟨pa', e0, hpa⟩ : ∃ pa', c'.getD 0 undef = .slice pa' l ca ∧ ((pa = none ∧ pa' = none) ∨ ∃ ad ad', pa = some ad ∧ pa' = some ad' ∧ ARel ok R ad ad') := by
    cases hc : c'.getD 0 undef <;> rw [hc] at r0 <;> cases r0
    · exact ⟨_, rfl, .inl ⟨rfl, rfl⟩⟩
    · rename_i ha
      exact ⟨_, rfl, .inr ⟨_, _, rfl, rfl, ha⟩⟩
  obtain ⟨pb', e1, hpb⟩ : ∃ pb', c'.getD 1 undef = .slice (some pb') m cb ∧ ARel ok R pb pb' := by
    cases hc : c'.getD 1 undef <;> rw [hc] at r1 <;> cases r1
    rename_i ha
    exact ⟨_, rfl, ha⟩
  refine ⟨pa, l, ca, pb, m, cb, pa', pb', S, ⟨e0, e1, S.short, S.short', S.room, S.room', S.pos, fun h => S.nilEmpty ?_, fun i hi => ?_, fun j hj => ?_⟩, hpb, fun ad h => ?_⟩
  · rcases hpa with ⟨h1, -⟩ | ⟨ad, ad', -, h2, -⟩
    · exact h1
    · rw [h2] at h; cases h
  · obtain ⟨ad, had, ⟨s, hs, hl⟩, ⟨n, hn⟩⟩ := S.piles i hi
    rcases hpa with ⟨h1, -⟩ | ⟨ad1, ad', h1, h2, ha⟩
    · rw [h1] at had; cases had
    · rw [h1] at had
      cases had
      obtain ⟨v, hv, hv1⟩ := near_cells hN ((ha.add (i * 2)).add 0) hs
      obtain ⟨u, hu, hu1⟩ := near_cells hN ((ha.add (i * 2)).add 1) hn
      cases hv1
      cases hu1
      exact ⟨ad', h2, ⟨s, hv, hl⟩, ⟨n, hu⟩⟩
  · obtain ⟨t, ht⟩ := S.bools j hj
    obtain ⟨v, hv, hv1⟩ := near_cells hN (hpb.add (j * 1)) ht
    cases hv1
    exact ⟨t, hv⟩
  · rcases hpa with ⟨h1, -⟩ | ⟨ad1, ad', h1, h2, ha⟩
    · rw [h1] at h; cases h
    · rw [h1] at h
      cases h
      exact ⟨ad', h2, ha⟩
end Go.Proofs.Ytgkakgibgfehaaa.Ph

namespace Go.Proofs.Ytgkakgibgfehaaa.Ph
open Go.Conc Go.ConcN Go.RowKit Go.ConcR.Gen Go.ConcN.Gen Go.Proofs.Ytgkakgibgfehaaa.Sim

/-- A value that needs no block. -/
inductive Flat : Value → Prop
  | bool (b : Bool) : Flat (.bool b)
  | int (k : IntKind) (n : Int) : Flat (.int k n)
  | string (s : ByteArray) : Flat (.string s)
theorem Flat.rel {ok : Cx} {R : Ren} {v : Value} (h : Flat v) : VRel ok R v v := by cases h <;> constructor
/-- Blocks pushed behind a world. -/
def pushed (w : World) : List Obj → World
  | [] => w
  | o :: l => pushed (w.alloc o) l
theorem pushed_size (w : World) (l : List Obj) : (pushed w l).heap.size = w.heap.size + l.length := by
  induction l generalizing w with
  | nil => rfl
  | cons o l ih =>
    show (pushed (w.alloc o) l).heap.size = _
    rw [ih]
    simp
    omega
theorem pushed_old (w : World) (l : List Obj) {b : Nat} (hb : b < w.heap.size) : (pushed w l).heap[b]? = w.heap[b]? := by
  induction l generalizing w with
  | nil => rfl
  | cons o l ih =>
    show (pushed (w.alloc o) l).heap[b]? = _
    rw [ih _ (by simp; omega)]
    exact Below.heap_alloc _ _ _ hb
theorem pushed_new (w : World) (l : List Obj) {i : Nat} {o : Obj} (h : l[i]? = some o) : (pushed w l).heap[w.heap.size + i]? = some o := by
  induction l generalizing w i with
  | nil => simp at h
  | cons o' l ih =>
    show (pushed (w.alloc o') l).heap[w.heap.size + i]? = _
    cases i with
    | zero =>
      rw [pushed_old _ _ (by simp)]
      simp at h
      subst h
      exact heap_alloc_new _ _
    | succ i =>
      have := ih (w.alloc o') (i := i) (by simpa using h)
      rw [← this]
      congr 1
      simp
      omega
/-- A copy of these cells. -/
def copyOf (c : Array Value) (e : TypeId) : Obj := .cells c e (0, c.size)

/-- The start's blocks and the copies, at another time. -/
def loneAt (W : World) (l : List Obj) (w : World) : World := { w with heap := (pushed W l).heap }
/-- A copy that stands for a part of a block. -/
structure CopyAt (W : World) (l : List Obj) (sh : Nat → Nat) (i pl : Nat) (e : TypeId) (c : Array Value) : Prop where
  at_ : l[i]? = some (copyOf c e)
  none : tabs.info? e = none
  flat : ∀ (k : Nat) v, c[k]? = some v → Flat v
  part : ∃ c' e' fr', W.heap[pl]? = some (.cells c' e' fr') ∧ ∀ (k : Nat) v, c[k]? = some v → c'[k + sh (W.heap.size + i)]? = some v
  lo : True

section
variable {W w : World} {l : List Obj} {sh : Nat → Nat} {i j pl pb : Nat} {e : TypeId} {c d : Array Value}
def R2 (N i j pl pb : Nat) : Ren := fun b b' => (b = N + i ∧ b' = pl) ∨ (b = N + j ∧ b' = pb)
def Fz2 (N i j : Nat) : Fr := ⟨fun b => b = N + i ∨ b = N + j, none, false⟩
/-- The copies stand for the parts. -/
theorem near_copies (hi : CopyAt W l sh i pl e c) (hj : CopyAt W l sh j pb e d) (hne : i ≠ j) (hsh : ∀ b, W.heap.size + l.length ≤ b → sh b = 0) (kl : w.heap[pl]? = W.heap[pl]?) (kb : w.heap[pb]? = W.heap[pb]?) (hg : tabs.globals.size ≤ W.heap.size) (hw : tabs.globals.size ≤ w.heap.size) :
    Near (okW sh) tabs (Fz2 W.heap.size i j) (R2 W.heap.size i j pl pb) (loneAt W l w) w := by
  have part : ∀ {k pk : Nat} {c : Array Value}, CopyAt W l sh k pk e c → w.heap[pk]? = W.heap[pk]? → ∃ o o', (loneAt W l w).heap[W.heap.size + k]? = some o ∧ w.heap[pk]? = some o' ∧ Part (okW sh) tabs (R2 W.heap.size i j pl pb) (sh (W.heap.size + k)) o o' := by
    intro k pk c h hr
    obtain ⟨c', e', fr', h1, h2⟩ := h.part
    exact ⟨copyOf c e, .cells c' e' fr', pushed_new W l h.at_, hr.trans h1, c, e, (0, c.size), c', e', fr', rfl, rfl, h.none, fun k v hv => ⟨v, h2 k v hv, (h.flat k v hv).rel⟩⟩
  have cells : ∀ {i pl : Nat} {c : Array Value}, CopyAt W l sh i pl e c → (loneAt W l w).heap[W.heap.size + i]? = some (.cells c e (0, c.size)) := fun h => pushed_new W l h.at_
  refine ⟨?_, ?_, ?_, fun b hb => ?_, ?_, ?_, ⟨?_, hw⟩, rfl, fun _ _ => rfl⟩
  · rintro b b' c' (⟨rfl, rfl⟩ | ⟨rfl, rfl⟩) (⟨h, rfl⟩ | ⟨h, rfl⟩)
    · rfl
    · omega
    · omega
    · rfl
  · rintro b b' c' h1 h2
    refine .inr ⟨?_, ?_⟩
    · rcases h1 with ⟨h, -⟩ | ⟨h, -⟩
      · exact .inl h
      · exact .inr h
    · rcases h2 with ⟨h, -⟩ | ⟨h, -⟩
      · exact .inl h
      · exact .inr h
  · rintro b b' (⟨rfl, rfl⟩ | ⟨rfl, rfl⟩)
    · obtain ⟨o, o', h1, h2, h3⟩ := part hi kl
      exact ⟨o, o', h1, h2, .inr ⟨.inl rfl, h3⟩⟩
    · obtain ⟨o, o', h1, h2, h3⟩ := part hj kb
      exact ⟨o, o', h1, h2, .inr ⟨.inr rfl, h3⟩⟩
  · refine hsh b ?_
    have : (pushed W l).heap.size ≤ b := hb
    rwa [pushed_size] at this
  · rintro b (rfl | rfl)
    · exact ⟨c, e, _, cells hi, fun off h => ⟨Nat.zero_le _, h⟩⟩
    · exact ⟨d, e, _, cells hj, fun off h => ⟨Nat.zero_le _, h⟩⟩
  · rintro b b' (⟨rfl, rfl⟩ | ⟨rfl, rfl⟩)
    · exact ⟨by omega, .inr (.inl rfl)⟩
    · exact ⟨by omega, .inr (.inr rfl)⟩
  · show tabs.globals.size ≤ (pushed W l).heap.size
    rw [pushed_size]
    omega
/-- A lone contract in the world of the copies, as a tree. -/
theorem must_copies (hi : CopyAt W l sh i pl e c) (hj : CopyAt W l sh j pb e d) (hg : tabs.globals.size ≤ W.heap.size) {Q : Value → World → Prop} (hQ : ∀ v w t d, Q v w → Q v (on w t d)) {n k m q : Nat}
    (hC : ∀ t d, Calls (prg tabs fsL) 88 #[.slice (some ⟨W.heap.size + i, 0, none⟩) n k, .slice (some ⟨W.heap.size + j, 0, none⟩) m q] (on (loneAt W l w) t d) fun e w' => ∃ v, e = .returned v ∧ Q v w') :
    Must (prg tabs fsL) [junk] Q (Frame.enter (prg tabs fsL) 88 #[.slice (some ⟨W.heap.size + i, 0, none⟩) n k, .slice (some ⟨W.heap.size + j, 0, none⟩) m q] .normal) [] (loneAt W l w) := by
  have cells : ∀ {i pl : Nat} {c : Array Value}, CopyAt W l sh i pl e c → (loneAt W l w).heap[W.heap.size + i]? = some (.cells c e (0, c.size)) := fun h => pushed_new W l h.at_
  obtain ⟨R0, hR0⟩ : ∃ R0 : Ren, R0 = fun b b' => b = b' ∧ (b = W.heap.size + i ∨ b = W.heap.size + j) := ⟨_, rfl⟩
  have flat : ∀ {i pl : Nat} {c : Array Value}, CopyAt W l sh i pl e c → Sim.Rows okT R0 c c := fun h => ⟨rfl, fun k v v' h1 h2 => by rw [h1] at h2; cases h2; exact (h.flat k v h1).rel⟩
  refine must_call (R := R0) soundT hQ ⟨?_, ?_, .nil, ?_⟩ hC
  · intro b b' h
    rw [hR0] at h
    exact h.1.symm
  · refine enter_rel (soundT.progs none) (by rfl) (by rfl) (by rfl) ⟨rfl, fun k v v' h1 h2 => ?_⟩
    rw [h1] at h2
    cases h2
    match k with
    | 0 => cases h1; exact .slice _ _ ⟨by rw [hR0]; exact ⟨rfl, .inl rfl⟩, rfl, rfl⟩
    | 1 => cases h1; exact .slice _ _ ⟨by rw [hR0]; exact ⟨rfl, .inr rfl⟩, rfl, rfl⟩
    | k + 2 => simp at h1
  · subst hR0
    refine ⟨?_, ?_, ?_, fun b hb => rfl, ?_, ?_, ?_, rfl, fun _ _ => rfl⟩
    · rintro b b' c' ⟨rfl, -⟩ ⟨rfl, -⟩
      rfl
    · rintro b b' c' ⟨rfl, -⟩ ⟨rfl, -⟩
      exact .inl rfl
    · rintro b b' ⟨rfl, rfl | rfl⟩
      · exact ⟨_, _, cells hi, cells hi, .inl ⟨fun h => h, rfl, .cells _ _ (flat hi)⟩⟩
      · exact ⟨_, _, cells hj, cells hj, .inl ⟨fun h => h, rfl, .cells _ _ (flat hj)⟩⟩
    · intro b h
      exact h.elim
    · rintro b b' ⟨rfl, rfl | rfl⟩ <;> exact ⟨by omega, .inl (by omega)⟩
    · have : tabs.globals.size ≤ (pushed W l).heap.size := by rw [pushed_size]; omega
      exact ⟨this, this⟩
end
end Go.Proofs.Ytgkakgibgfehaaa.Ph

namespace Go.Proofs.Ytgkakgibgfehaaa.Ph
open Go.Conc Go.ConcN Go.RowKit Go.ConcR.Gen Go.ConcN.Gen Go.Proofs.Ytgkakgibgfehaaa.Sim

/-- A row of its own, just made. -/
def RowQ (e : TypeId) (zs : Array Value) (v : Value) (w : World) : Prop := ∃ b, v = .slice (some ⟨b, 0, none⟩) zs.size zs.size ∧ w.heap[b]? = some (.cells zs e (0, 0))
/-- .. in company. -/
def RowPV (e : TypeId) (zs : Array Value) (v : Value) (rb : Nat) (ro : Obj) : Prop := v = .slice (some ⟨rb, 0, none⟩) zs.size zs.size ∧ ro = .cells zs e (0, 0)
theorem rowQ_on {e : TypeId} {zs : Array Value} (v : Value) (w : World) (t : Nat → Question → Nat) (d : Nat) (h : RowQ e zs v w) : RowQ e zs v (on w t d) := h
theorem flat_eq {ok : Cx} {R : Ren} {v v' : Value} (h : Flat v) (k : VRel ok R v v') : v' = v := by cases h <;> cases k <;> rfl
theorem flat_rows {ok : Cx} {R : Ren} {c c' : Array Value} (h : ∀ (k : Nat) v, c[k]? = some v → Flat v) (r : Sim.Rows ok R c c') : c' = c := by
  refine Array.ext r.1 fun k h1 h2 => ?_
  exact flat_eq (h k _ (Array.getElem?_eq_getElem h2)) (r.2 k _ _ (Array.getElem?_eq_getElem h2) (Array.getElem?_eq_getElem h1))
section
variable {W : World} {l : List Obj} {sh : Nat → Nat} {i j pl pb : Nat} {e er : TypeId} {c d : Array Value} {rdk : Nat → Prop} {zs : Nat → Array Value}
theorem begin_at {p : Nat} {V : World} (kl : V.heap[pl]? = W.heap[pl]?) (kb : V.heap[pb]? = W.heap[pb]?) (hi : CopyAt W l sh i pl e c) (hj : CopyAt W l sh j pb e d) (hne : i ≠ j) (hsh : ∀ b, W.heap.size + l.length ≤ b → sh b = 0) (rl : rdk pl) (rb : rdk pb) (hg : tabs.globals.size ≤ W.heap.size) {n k m q : Nat} {vp vl : Value}
    (hvp : vp = .slice (some ⟨pl, sh (W.heap.size + i), none⟩) n k) (hvl : vl = .slice (some ⟨pb, sh (W.heap.size + j), none⟩) m q) (hz : ∀ (x : Nat) v, (zs p)[x]? = some v → Flat v) (h0 : 0 < (zs p).size)
    (hC : ∀ w t d, Calls (prg tabs fsL) 88 #[.slice (some ⟨W.heap.size + i, 0, none⟩) n k, .slice (some ⟨W.heap.size + j, 0, none⟩) m q] (on (loneAt W l w) t d) fun e w' => ∃ v, e = .returned v ∧ RowQ er (zs p) v w') :
    Begin sh fsL (fun p => RowQ er (zs p)) (fun p => RowPV er (zs p)) p rdk V vp vl := by
  refine ⟨fun w hK => ?_, fun Fz mine R w1 v v' w' hq hv hN hR => ?_⟩
  · have hw : tabs.globals.size ≤ w.heap.size := by
      obtain ⟨c', e', fr', h1, -⟩ := hi.part
      have h2 := ((hK pl rl).trans kl).trans h1
      have := (Array.getElem?_eq_some_iff.1 h2).1
      have g1 : tabs.globals.size = 1 := by kernel_rfl
      omega
    refine ⟨Fz2 W.heap.size i j, R2 W.heap.size i j pl pb, loneAt W l w, _, must_copies hi hj hg rowQ_on (hC w), ?_, near_copies hi hj hne hsh ((hK pl rl).trans kl) ((hK pb rb).trans kb) hg hw, rfl, rfl, ?_⟩
    · refine enter_rel (FC := fsC) (progsW sh (noFz none)) (by rfl) (by rfl) (by rfl) ⟨rfl, fun x v v' h1 h2 => ?_⟩
      subst hvp
      subst hvl
      match x with
      | 0 => cases h1; cases h2; exact .slice _ _ ⟨.inl ⟨rfl, rfl⟩, (Nat.zero_add _).symm, rfl⟩
      | 1 => cases h1; cases h2; exact .slice _ _ ⟨.inr ⟨rfl, rfl⟩, (Nat.zero_add _).symm, rfl⟩
      | x + 2 => simp at h1
    · rintro b b' (⟨rfl, rfl⟩ | ⟨rfl, rfl⟩)
      · exact ⟨.inl rfl, rl⟩
      · exact ⟨.inr rfl, rb⟩
  · obtain ⟨b, rfl, hb⟩ := hq
    cases hv
    rename_i a' ha
    have hb' : (on w1 w'.tape w'.drawn).heap[b]? = some (.cells (zs p) er (0, 0)) := hb
    have hnf : ¬ Fz b := fun h => by
      obtain ⟨c2, e2, fr2, h2, h3⟩ := hN.fz b h
      rw [hb'] at h2
      cases h2
      have := (h3 0 h0).2
      omega
    obtain ⟨o, o', h1, h2, h3⟩ := hN.obj _ _ ha.1
    have h1' : (on w1 w'.tape w'.drawn).heap[b]? = some o := h1
    rw [hb'] at h1'
    cases h1'
    rcases h3 with ⟨-, hs, h3⟩ | ⟨h3, -⟩
    · cases h3 with
      | cells e2 f2 r =>
        have hc := flat_rows hz r
        subst hc
        refine ⟨a'.block, _, _, _, _, rfl, ?_, h2, ?_, rfl⟩
        · rcases hR b a'.block ha.1 with ⟨h, -⟩ | ⟨-, h⟩
          · exact absurd h hnf
          · exact h
        · obtain ⟨ab, ao, asp⟩ := a'
          obtain ⟨-, h5, h6⟩ := ha
          have hs' : (okW sh).sh b = 0 := hs
          simp only [hs', Nat.add_zero] at h5
          simp only at h6
          subst h5
          subst h6
          rfl
    · exact absurd h3 hnf
end
end Go.Proofs.Ytgkakgibgfehaaa.Ph

namespace Go.Proofs.Ytgkakgibgfehaaa.Ph
open Go.Conc Go.ConcN Go.RowKit Go.ConcR.Gen Go.ConcN.Gen Go.Proofs.Ytgkakgibgfehaaa.Sim

/-- A number of no type. -/
def noTy : TypeId := 1000000
theorem noTy_none : tabs.info? noTy = none := by kernel_rfl
def numParts (l : Nat) : Nat := (l + 3) / 4
def lenPart (l p : Nat) : Nat := min 4 (l - 4 * p)
/-- The cells of a block, from one place to another. -/
def cellsOf (W : World) (b : Nat) : Array Value := match W.heap[b]? with | some (.cells c _ _) => c | _ => #[]
noncomputable def copies (W : World) (ad pb : Addr) (l m : Nat) : List Obj :=
  (List.range (numParts l)).map (fun p => copyOf ((cellsOf W ad.block).extract (ad.off + 8 * p) (ad.off + 8 * p + 2 * lenPart l p)) noTy) ++ [copyOf ((cellsOf W pb.block).extract pb.off (pb.off + m)) noTy]
noncomputable def shift (W : World) (ad pb : Addr) (l : Nat) (b : Nat) : Nat :=
  if b < W.heap.size then 0 else if b < W.heap.size + numParts l then ad.off + 8 * (b - W.heap.size) else if b = W.heap.size + numParts l then pb.off else 0
theorem copies_length (W : World) (ad pb : Addr) (l m : Nat) : (copies W ad pb l m).length = numParts l + 1 := by simp [copies]
theorem shift_new (W : World) (ad pb : Addr) (l m b : Nat) (h : W.heap.size + (copies W ad pb l m).length ≤ b) : shift W ad pb l b = 0 := by
  rw [copies_length] at h
  unfold shift
  rw [if_neg (by omega), if_neg (by omega), if_neg (by omega)]
theorem extract_get {c : Array Value} {a b k : Nat} {v : Value} (h : (c.extract a b)[k]? = some v) : c[a + k]? = some v ∧ a + k < b := by
  obtain ⟨h1, h2⟩ := Array.getElem?_eq_some_iff.1 h
  rw [Array.size_extract] at h1
  rw [Array.getElem_extract] at h2
  exact ⟨Array.getElem?_eq_some_iff.2 ⟨by omega, h2⟩, by omega⟩
theorem add_off (a : Addr) (n : Nat) : (a.add n).off = a.off + n := by
  unfold Addr.add
  split
  · rename_i h; subst h; rfl
  · rfl
theorem add_zero' (a : Addr) : a.add 0 = a := rfl
section
variable {c : Array Value} {W : World} {pa : Option Addr} {ad pb : Addr} {l ca m cb : Nat}
theorem Shape.left (S : Shape c W pa l ca pb m cb) : pb.spot = none ∧ ∃ C e fr, W.heap[pb.block]? = some (.cells C e fr) ∧ ∀ j, j < m → ∃ t, C[pb.off + j]? = some (.bool t) := by
  obtain ⟨t, ht⟩ := S.bools 0 S.pos
  rw [Nat.zero_mul, add_zero'] at ht
  obtain ⟨C, e, fr, h1, hs, -⟩ := cell_some ht
  refine ⟨hs, C, e, fr, h1, fun j hj => ?_⟩
  obtain ⟨t, ht⟩ := S.bools j hj
  obtain ⟨C', e', fr', h3, -, h4⟩ := cell_some ht
  rw [add_block', h1] at h3
  cases h3
  rw [add_off, Nat.mul_one] at h4
  exact ⟨t, h4⟩
theorem Shape.list (S : Shape c W (some ad) l ca pb m cb) (hl : 0 < l) : ad.spot = none ∧ ∃ C e fr, W.heap[ad.block]? = some (.cells C e fr) ∧ ∀ i, i < l → (∃ s, C[ad.off + 2 * i]? = some (.string s)) ∧ ∃ n, C[ad.off + 2 * i + 1]? = some (.int .i64 n) := by
  have h0 := S.piles 0 hl
  obtain ⟨ad', had, ⟨s0, hs0, -⟩, -⟩ := h0
  cases had
  rw [Nat.zero_mul, add_zero', add_zero'] at hs0
  obtain ⟨C, e, fr, h1, hs, -⟩ := cell_some hs0
  refine ⟨hs, C, e, fr, h1, fun i hi => ?_⟩
  obtain ⟨ad', had, ⟨s, hs, -⟩, n, hn⟩ := S.piles i hi
  cases had
  obtain ⟨C', e', fr', h3, -, h4⟩ := cell_some hs
  rw [add_block', add_block', h1] at h3
  cases h3
  rw [add_off, add_off, Nat.add_zero] at h4
  obtain ⟨C', e', fr', h3, -, h5⟩ := cell_some hn
  rw [add_block', add_block', h1] at h3
  cases h3
  rw [add_off, add_off] at h5
  exact ⟨⟨s, by rw [Nat.mul_comm 2 i]; exact h4⟩, n, by rw [Nat.mul_comm 2 i]; exact h5⟩
/-- The copy of left. -/
theorem copy_left (S : Shape c W pa l ca pb m cb) (hg : True) : CopyAt W (copies W ad pb l m) (shift W ad pb l) (numParts l) pb.block noTy ((cellsOf W pb.block).extract pb.off (pb.off + m)) := by
  obtain ⟨hs, C, e, fr, h1, h2⟩ := S.left
  have hC : cellsOf W pb.block = C := by unfold cellsOf; rw [h1]
  have hsh : shift W ad pb l (W.heap.size + numParts l) = pb.off := by
    unfold shift
    rw [if_neg (by omega), if_neg (by omega), if_pos rfl]
  refine ⟨by simp [copies], noTy_none, fun k v hk => ?_, ⟨C, e, fr, h1, fun k v hk => ?_⟩, hg⟩
  · obtain ⟨h3, h4⟩ := extract_get hk
    obtain ⟨t, ht⟩ := h2 k (by omega)
    rw [hC, ht] at h3
    cases h3
    exact .bool t
  · obtain ⟨h3, -⟩ := extract_get hk
    rw [hC] at h3
    rw [hsh, Nat.add_comm]
    exact h3
/-- The copy of a part. -/
theorem copy_part (S : Shape c W (some ad) l ca pb m cb) (hg : True) {p : Nat} (hp : p < numParts l) :
    CopyAt W (copies W ad pb l m) (shift W ad pb l) p ad.block noTy ((cellsOf W ad.block).extract (ad.off + 8 * p) (ad.off + 8 * p + 2 * lenPart l p)) := by
  have hl : 0 < l := by unfold numParts at hp; omega
  obtain ⟨hs, C, e, fr, h1, h2⟩ := S.list hl
  have hC : cellsOf W ad.block = C := by unfold cellsOf; rw [h1]
  have hsh : shift W ad pb l (W.heap.size + p) = ad.off + 8 * p := by
    unfold shift
    rw [if_neg (by omega), if_pos (by omega)]
    congr 2
    omega
  refine ⟨?_, noTy_none, fun k v hk => ?_, ⟨C, e, fr, h1, fun k v hk => ?_⟩, hg⟩
  · unfold copies
    rw [List.getElem?_append_left (by simpa using hp)]
    simp [hp]
  · obtain ⟨h3, h4⟩ := extract_get hk
    rw [hC] at h3
    have hlen : lenPart l p ≤ l - 4 * p := by unfold lenPart; omega
    obtain ⟨⟨s, hs⟩, n, hn⟩ := h2 (4 * p + k / 2) (by omega)
    rcases Nat.mod_two_eq_zero_or_one k with hm | hm
    · have e1 : ad.off + 8 * p + k = ad.off + 2 * (4 * p + k / 2) := by omega
      rw [e1, hs] at h3
      cases h3
      exact .string s
    · have e1 : ad.off + 8 * p + k = ad.off + 2 * (4 * p + k / 2) + 1 := by omega
      rw [e1, hn] at h3
      cases h3
      exact .int _ n
  · obtain ⟨h3, -⟩ := extract_get hk
    rw [hC] at h3
    rw [hsh, Nat.add_comm]
    exact h3
/-- A part of the list. -/
def partVal (ad : Addr) (l p : Nat) : Value := .slice (some (ad.add (8 * p))) (lenPart l p) (lenPart l p)
/-- The beginning of every worker, from the contract of partCounts in the world of the copies. -/
theorem begin_part (S : Shape c W (some ad) l ca pb m cb) (hg : True) (hg' : True) (hgW : tabs.globals.size ≤ W.heap.size) {V : World} (kl : V.heap[ad.block]? = W.heap[ad.block]?) (kb : V.heap[pb.block]? = W.heap[pb.block]?) {rdk : Nat → Prop} (rl : rdk ad.block) (rb : rdk pb.block)
    {p : Nat} (hp : p < numParts l) {er : TypeId} {zs : Nat → Array Value} (hz : ∀ (x : Nat) v, (zs p)[x]? = some v → Flat v) (h0 : 0 < (zs p).size)
    (hC : ∀ w t d, Calls (prg tabs fsL) 88 #[.slice (some ⟨W.heap.size + p, 0, none⟩) (lenPart l p) (lenPart l p), .slice (some ⟨W.heap.size + numParts l, 0, none⟩) m cb] (on (loneAt W (copies W ad pb l m) w) t d) fun e w' => ∃ v, e = .returned v ∧ RowQ er (zs p) v w') :
    Begin (shift W ad pb l) fsL (fun p => RowQ er (zs p)) (fun p => RowPV er (zs p)) p rdk V (partVal ad l p) (.slice (some pb) m cb) := by
  have hl : 0 < l := by unfold numParts at hp; omega
  have hs := (S.list hl).1
  have hs' := S.left.1
  have e1 : shift W ad pb l (W.heap.size + p) = ad.off + 8 * p := by
    unfold shift
    rw [if_neg (by omega), if_pos (by omega)]
    congr 2
    omega
  have e2 : shift W ad pb l (W.heap.size + numParts l) = pb.off := by
    unfold shift
    rw [if_neg (by omega), if_neg (by omega), if_pos rfl]
  refine begin_at kl kb (copy_part S hg hp) (copy_left S hg') (Nat.ne_of_lt hp) (fun b hb => shift_new W ad pb l m b hb) rl rb hgW ?_ ?_ hz h0 hC
  · rw [e1]
    unfold partVal
    congr 2
    obtain ⟨ab, ao, asp⟩ := ad
    simp only at hs
    subst hs
    unfold Addr.add
    split
    · rename_i h; rw [h]; rfl
    · rfl
  · rw [e2]
    obtain ⟨ab, ao, asp⟩ := pb
    simp only at hs'
    subst hs'
    rfl
/-- As the phase asks it. -/
theorem begin_all {Wg C bl ba : Nat} {pp : Option Addr} (S : Shape c W (some ad) l ca pb m cb) (hg : True) (hg' : True) (hgW : tabs.globals.size ≤ W.heap.size) {er : TypeId} {zs : Nat → Array Value}
    (hz : ∀ p, p < numParts l → 0 < (zs p).size ∧ ∀ (x : Nat) v, (zs p)[x]? = some v → Flat v)
    (hC : ∀ p, p < numParts l → ∀ w t d, Calls (prg tabs fsL) 88 #[.slice (some ⟨W.heap.size + p, 0, none⟩) (lenPart l p) (lenPart l p), .slice (some ⟨W.heap.size + numParts l, 0, none⟩) m cb] (on (loneAt W (copies W ad pb l m) w) t d) fun e w' => ∃ v, e = .returned v ∧ RowQ er (zs p) v w') :
    ∀ p, p < numParts l → ∀ (X : Kn) w, MF Wg C bl ba (numParts l) pp (partVal ad l) (.slice (some pb) m cb) (fun b => b = ad.block ∨ b = pb.block) W X.ice w →
      Begin (shift W ad pb l) fsL (fun p => RowQ er (zs p)) (fun p => RowPV er (zs p)) p X.on w (partVal ad l p) (.slice (some pb) m cb) := by
  intro p hp X w hF
  have b1 := hF.base ad.block (.inl rfl)
  have b2 := hF.base pb.block (.inr rfl)
  exact begin_part S hg hg' hgW b1.2 b2.2 b1.1 b2.1 hp (hz p hp).2 (hz p hp).1 (hC p hp)
end
end Go.Proofs.Ytgkakgibgfehaaa.Ph
