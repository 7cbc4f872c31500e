/-
  WHERE A LAW'S RUN BEGINS: the lone run has its arguments in blocks of its own, each a part of a block that came in; so a walk over the program with our own function gives a good run of the given program, from every input of which the parts are known.
-/
import Derived.Test.YtgkakgibgfehaaaSh29
import Derived.Test.YtgkakgibgfehaaaSh21
import Derived.Test.YtgkakgibgfehaaaSh3
import Derived.Conc.LeavingOf
namespace Go.Proofs.Ytgkakgibgfehaaa.Sim
open Go.Conc Go.RowKit
set_option maxRecDepth 100000
inductive Plain : Value → Prop
  | bool (b : Bool) : Plain (.bool b)
  | int (k : IntKind) (n : Int) : Plain (.int k n)
  | string (s : ByteArray) : Plain (.string s)
theorem Plain.rel {ok : Cx} {R : Ren} {v : Value} (h : Plain v) : VRel ok R v v := by
  cases h <;> constructor
/-- What is known of an argument: where it lies, and its cells. -/
structure Known (W : World) (a : Option Addr) (vs : List Value) : Prop where
  spot : ∀ x, a = some x → x.spot = none
  row : ∀ x, a = some x → ∃ c e fr, W.heap[x.block]? = some (.cells c e fr) ∧ ∀ i v, vs[i]? = some v → c[x.off + i]? = some v
  plain : ∀ v ∈ vs, Plain v
section
variable (W : World) (As : List (Option Addr × List Value))
def blkL (p : Option Addr × List Value) : Obj := .cells p.2.toArray Ph.noTy (0, p.2.length)
def loneW : World := { W with heap := W.heap ++ (As.map blkL).toArray }
def loneA (i : Nat) (a : Option Addr) : Option Addr := a.map fun _ => ⟨W.heap.size + i, 0, none⟩
def shA (b : Nat) : Nat := if b < W.heap.size then 0 else match As[b - W.heap.size]? with
  | some (some x, _) => x.off
  | _ => 0
def ZA (b : Nat) : Prop := W.heap.size ≤ b ∧ b < W.heap.size + As.length
def RA : Ren := fun b b' => ∃ i x vs, As[i]? = some (some x, vs) ∧ b = W.heap.size + i ∧ b' = x.block
variable {W As}
theorem shA_at {i : Nat} {x : Addr} {vs : List Value} (h : As[i]? = some (some x, vs)) : shA W As (W.heap.size + i) = x.off := by
  unfold shA
  rw [if_neg (by omega), Nat.add_sub_cancel_left, h]
theorem loneW_at {i : Nat} {p : Option Addr × List Value} (h : As[i]? = some p) : (loneW W As).heap[W.heap.size + i]? = some (blkL p) := by
  unfold loneW
  rw [Array.getElem?_append_right (by omega), Nat.add_sub_cancel_left]
  simp [h]
theorem loneW_size : (loneW W As).heap.size = W.heap.size + As.length := by simp [loneW]
theorem near_lone (hk : ∀ p ∈ As, Known W p.1 p.2) (hg : tabs.globals.size ≤ W.heap.size) : Near (okS (shA W As)) tabs (fzB (ZA W As)) (RA W As) (loneW W As) W := by
  have zr : ∀ b b', RA W As b b' → ZA W As b := by
    rintro b b' ⟨i, x, vs, h, rfl, rfl⟩
    exact ⟨by omega, by have := (List.getElem?_eq_some_iff.1 h).1; omega⟩
  refine ⟨?_, fun b c b' x y => .inr ⟨zr _ _ x, zr _ _ y⟩, ?_, fun b hb => ?_, fun b hb => ?_, ?_, ⟨?_, hg⟩, rfl, fun _ _ => rfl⟩
  · rintro b b' c' ⟨i, x, vs, h, rfl, rfl⟩ ⟨j, y, us, k, e, rfl⟩
    obtain rfl : i = j := by omega
    rw [h] at k
    cases k
    rfl
  · rintro b b' ⟨i, x, vs, h, rfl, rfl⟩
    have K := hk _ (List.mem_of_getElem? h)
    obtain ⟨c, e, fr, h1, h2⟩ := K.row x rfl
    refine ⟨_, _, loneW_at h, h1, .inr ⟨zr _ _ ⟨i, x, vs, h, rfl, rfl⟩, ?_⟩⟩
    refine ⟨_, _, _, _, _, _, rfl, rfl, Ph.noTy_none, fun k v hv => ?_⟩
    have hv' : vs[k]? = some v := by simpa using hv
    refine ⟨v, ?_, (K.plain v (List.mem_of_getElem? hv')).rel⟩
    show c[k + shA W As (W.heap.size + i)]? = some v
    rw [shA_at h, Nat.add_comm]
    exact h2 k v hv'
  · have hb' : W.heap.size + As.length ≤ b := by rw [← loneW_size]; exact hb
    show shA W As b = 0
    unfold shA
    rw [if_neg (by omega), List.getElem?_eq_none (by omega)]
  · obtain ⟨h1, h2⟩ := hb
    obtain ⟨i, rfl⟩ : ∃ i, b = W.heap.size + i := ⟨b - W.heap.size, by omega⟩
    have hi : i < As.length := by omega
    refine ⟨_, _, _, loneW_at (List.getElem?_eq_getElem hi), fun off ho => ⟨Nat.zero_le _, by simpa using ho⟩⟩
  · rintro b b' ⟨i, x, vs, h, rfl, rfl⟩
    exact ⟨by omega, .inr ⟨by omega, by have := (List.getElem?_eq_some_iff.1 h).1; omega⟩⟩
  · show tabs.globals.size ≤ (loneW W As).heap.size
    rw [loneW_size]; omega
theorem lone_arg (hk : ∀ p ∈ As, Known W p.1 p.2) {i : Nat} {a : Option Addr} {vs : List Value} (h : As[i]? = some (a, vs)) (n c : Nat) : VRel (okS (shA W As)) (RA W As) (.slice (loneA W i a) n c) (.slice a n c) := by
  cases a with
  | none => exact .nilSlice n c
  | some x => exact .slice n c ⟨⟨i, x, vs, h, rfl, rfl⟩, by show x.off = 0 + shA W As (W.heap.size + i); rw [shA_at h]; omega, (hk _ (List.mem_of_getElem? h)).spot x rfl⟩
theorem kept_below {R₁ : Ren} {w₁ : World} {d : Nat} (h : Kept (fzB (ZA W As)) (RA W As) W R₁ w₁) : Below W.heap.size W (w₁.at d) := by
  refine ⟨h.os, h.tape, h.output, h.size, fun k hk => h.keep k hk ?_⟩
  rintro b ⟨i, x, vs, h, rfl, rfl⟩
  exact ⟨by omega, by have := (List.getElem?_eq_some_iff.1 h).1; omega⟩
/-- FROM A WALK TO A GOOD RUN: the law says true, and what was there stands. -/
theorem law_run (hk : ∀ p ∈ As, Known W p.1 p.2) (hg : tabs.globals.size ≤ W.heap.size) {args args' : Array Value} (hR : Rows (okS (shA W As)) (RA W As) args args')
    {f : Nat} (hf : goodL.contains f = true) (he : (f == 141) = false) (hr : (f != 52) = true)
    (hC : ∀ t d, Calls Tq.prog f args (on (loneW W As) t d) fun e w' => e = .returned (.bool true) ∧ Below (on (loneW W As) t d).heap.size (on (loneW W As) t d) w') :
    ∃ M last o w' t', runNT Try.prog (M + 1) (solo (G (Frame.enter Try.prog f args' .normal) []) W) #[] = (.ended o w', t') ∧ runN Try.prog M (solo (G (Frame.enter Try.prog f args' .normal) []) W) = .next last ∧ step Try.prog last = .ended o w' ∧
      Conc.Good Try.prog (fun v W' => v = .bool true ∧ Below W.heap.size W W') last o w' t' := by
  refine tq_run (Q := fun v _ => v = .bool true) Ph.jump_ours hR (near_lone hk hg) hf he hr (fun v w t d h => h) (fun t d => (hC t d).mono fun e w' h => ⟨_, h.1, rfl⟩) fun R₁ w₁ w₁' d v v' hkp hq hv hn => ?_
  subst hq
  cases hv
  exact ⟨rfl, kept_below hkp⟩
end
section
variable {H : Type} {enc : TypeId × Value → H}
/-- The row's contract, from a run at every start whose package variables are as the row says. -/
theorem leaving_shaped {a : Assume} {C : Checked} {os : Os} {f : FuncId} {fn : Func} {s : ChangeSpec} {conds : List PathCond} {apart fresh handsOn again : Bool} (own : ownKnob C.prog.godebug = none) (started : os.Started) (hfn : C.prog.funcs[f]? = some fn)
    (witness : ∃ (w : World) (tape : Tape) (i : Input), w.os = os ∧ (w.forCall tape i).Shaped C.prog ∧ i.vars = [] ∧ Input.okWide C.prog (w.forCall tape i) .any w.heap.size f i ∧
      s.pre6 enc C.prog fn conds apart (w.forCall tape i).memory i.args ∧ a.holds C.prog (lone (Frame.enter C.prog f i.args .normal) [] (w.forCall tape i)))
    (runs : ∀ (W : World) (base : Nat) (args : Array Value) (ds gs : List (DataW H)) (before : List MemPlace), W.ShapedOpen C.prog →
      (∀ (j : Nat) t v, fn.params[j]? = some t → args[j]? = some v → Value.okWide C.prog W .any base t v) → DataW.Whole enc C.prog fn.params.toList s.vars apart W args.toList ds gs before →
      conds.all (PathCond.test C.prog ⟨fn.params.toList, ds, s.plain.varTypes C.prog, gs⟩) = true →
      ∃ M last o w' t', runNT C.prog (M + 1) (solo (G (Frame.enter C.prog f args .normal) []) W) #[] = (.ended o w', t') ∧ runN C.prog M (solo (G (Frame.enter C.prog f args .normal) []) W) = .next last ∧
        step C.prog last = .ended o w' ∧ Conc.Good C.prog (fun v W' => s.post enc C.prog fn apart fresh handsOn again W args v W') last o w' t') :
    ReturnsInLeavingWide a C os f .any (s.pre6 enc C.prog fn conds apart) (s.post enc C.prog fn apart fresh handsOn again) := by
  refine returnsInLeavingWide_of_good own started witness fun w tape i _ hsh _ hok hpre _ => ?_
  obtain ⟨-, -, -, g, hg, -, -, -, -, hval⟩ := hok
  obtain rfl : g = fn := Option.some.inj (hg.symm.trans hfn)
  obtain ⟨⟨ds, gs, before, hw, hc⟩, -⟩ := hpre
  obtain ⟨M, last, o, w', t', h1, h2, h3, h4⟩ := runs (w.forCall tape i) w.heap.size i.args ds gs before hsh hval (DataW.Whole.of_heap (w' := w.forCall tape i) (by rfl) hw) hc
  exact ⟨M, last, o, w', t', h1, h2, h3, h4.mono fun v hp => ChangeSpec.post_blind hp⟩
end
theorem ownT : ownKnob Try.prog.godebug = none := by kernel_rfl
theorem laidOutT : laidOutB Try.prog = true := by kernel_rfl
/-- The one package variable is an int. -/
theorem glob_row {W : World} (h : W.ShapedOpen Try.prog) : ∃ cs, W.heap[0]? = some (.cells cs 3) := by
  obtain ⟨cs, h1, -⟩ := h.1 0 #[.int .i64 0] 3 (by rw [show Try.prog.globals.size = 1 from by kernel_rfl]; decide) (by kernel_rfl)
  exact ⟨cs, h1⟩
theorem glob_size : tabs.globals.size = 1 := by kernel_rfl
theorem glob_big {W : World} (h : W.ShapedOpen Try.prog) : tabs.globals.size ≤ W.heap.size := by
  obtain ⟨cs, h1⟩ := glob_row h
  rw [glob_size]
  exact (Array.getElem?_eq_some_iff.1 h1).1
theorem row_no {P : Program} {fits : TypeId → Bool} {k : IntKind} {d e count off n : Nat} (hf : fits e = false) (hu : P.underlying e = some (.int k)) : rowAt P fits d e count off n = false := by
  cases d with
  | zero => rfl
  | succ d => simp [rowAt, hf, hu]
theorem lies_no {P : Program} {k : IntKind} {d e count off u n : Nat} (hr : rowAt P (sameLayout P P.depth · u) P.depth e count off n = false) (hu : P.underlying u = some (.int k)) : liesAt P d e count off u n = false := by
  cases d with
  | zero => rfl
  | succ d => simp [liesAt, hr, hu]
theorem int_no_byte (cells off n : Nat) : liesAt Try.prog Try.prog.depth 3 cells off 5 n = false :=
  lies_no (row_no (by kernel_rfl) Try.underlying3) Try.underlying5
/-- A slice of bytes that came in. -/
theorem known_bytes {W : World} {base len cap : Nat} {a : Option Addr} {zs : List Int} (_hs : W.ShapedOpen Try.prog) (hv : Value.okWide Try.prog W .any base 22 (.slice a len cap)) (hz : IsRow .u8 W a len cap zs) : Known W a (zs.map (Value.int .u8)) := by
  have hok : ∀ x, a = some x → W.has Try.prog .any base x 5 cap := by
    intro x hx
    subst hx
    simp only [Value.okWide, Try.underlying22, Cell.okWide, Cell.ok] at hv
    exact hv.2.2
  have hsp : ∀ x, a = some x → x.spot = none := fun x hx => (hok x hx).2.1
  have hrow : ∀ x, a = some x → ∃ c e fr, W.heap[x.block]? = some (.cells c e fr) := by
    intro x hx
    obtain ⟨-, -, row, cells, h1, -⟩ := hok x hx
    unfold World.shape? at h1
    split at h1
    · rename_i c e fr h2
      exact ⟨c, e, fr, h2⟩
    · cases h1
  refine ⟨hsp, fun x hx => ?_, fun v hv => ?_⟩
  · obtain ⟨c, e, fr, h1⟩ := hrow x hx
    refine ⟨c, e, fr, h1, fun i v hi => ?_⟩
    rcases hz with ⟨rfl, -⟩ | ⟨y, rfl, -, -, -, hc, -⟩
    · cases hx
    · cases hx
      have hlt : i < zs.length := by have := (List.getElem?_eq_some_iff.1 hi).1; simpa using this
      have h2 := hc i hlt
      obtain ⟨b, off, sp⟩ := x
      have hsp' : sp = none := hsp _ rfl
      subst hsp'
      rw [add_spot] at h2
      have h1' : W.heap[b]? = some (.cells c e fr) := h1
      simp only [World.cell?, h1'] at h2
      have hv' : v = .int .u8 (zs.getD i 0) := by
        rw [List.getElem?_map, List.getElem?_eq_getElem hlt] at hi
        rw [List.getD_eq_getElem?_getD, List.getElem?_eq_getElem hlt]
        exact (Option.some.inj hi).symm
      rw [hv']
      exact h2
  · simp only [List.mem_map] at hv
    obtain ⟨z, -, rfl⟩ := hv
    exact .int _ _
/-- .. and as the lone run has it. -/
theorem lone_bytes {W : World} {As : List (Option Addr × List Value)} {i len cap : Nat} {a : Option Addr} {zs : List Int} (hz : IsRow .u8 W a len cap zs) (hi : As[i]? = some (a, zs.map (Value.int .u8))) (t : Tape) (d : Nat) : IsRow .u8 (on (loneW W As) t d) (loneA W i a) len cap zs := by
  rcases hz with ⟨rfl, h1, h2, h3⟩ | ⟨y, rfl, h1, h2, h3, -, h5⟩
  · exact .inl ⟨rfl, h1, h2, h3⟩
  · refine .inr ⟨⟨W.heap.size + i, 0, none⟩, rfl, h1, h2, h3, fun j hj => ?_, h5⟩
    rw [add_spot, Nat.zero_add]
    have h := loneW_at (W := W) hi
    have h' : (on (loneW W As) t d).heap[W.heap.size + i]? = some (blkL (some y, zs.map (Value.int .u8))) := h
    simp only [World.cell?, h', blkL]
    simp [hj]
end Go.Proofs.Ytgkakgibgfehaaa.Sim
