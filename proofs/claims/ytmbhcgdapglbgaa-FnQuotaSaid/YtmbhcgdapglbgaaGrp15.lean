/-
  A region that draws its order inside a round of a range over a function: what holds of it outside every round holds in it, where no operation is a defer statement. No function of the seat.
  The iterator slices.Backward at ints: it yields a list's indices and numbers from its end on, to every loop body that keeps what lay below and the slice's box. No condition but what each theorem says.
-/
import Derived.Test.YtmbhcgdapglbgaaGrp8
import Derived.OrdersIn
import Derived.RangeFuncCalls
import Derived.OwnWalkIn
import Derived.Test.YtmbhcgdapglbgaaGrp5
namespace Go.Proofs.Ytmbhcgdapglbgaa
open Go.RowKit

section
variable {P : Program} {ops : Array Oper} {l n : Nat} {Q : Exit → Act → World → Prop}

theorem uponIn_of {o : Oper} {a : Act} {K K' : Act → World → Prop} (h : ∀ a w, K a w → K' a w) (r : Result Next) (hh : o.upon P a K Q r) : o.uponIn (Fence.wide.inRound l) n P a K' Q r := by
  cases r with
  | ok x w' =>
    cases x with
    | value v => exact h _ _ hh
    | skip => exact h _ _ hh
    | defer d => exact h _ _ hh
    | enter f args => exact ⟨fun e => by simp [Fence.wide] at e, CallsIn.inRound l (callsIn_wide.2 (Calls.mono hh (fun e w'' he => by cases e <;> first | exact h _ _ he | exact he)))⟩
    | row row args => exact ⟨fun e => by simp [Fence.wide] at e, fun c cs _ => let ⟨v, w2, r, s⟩ := hh c cs; ⟨v, w2, h _ _ r, stepsIn_wide.2 s⟩⟩
    | _ => exact hh.elim
  | halt x w' =>
    cases x <;> first | exact hh | exact hh.elim
theorem wpOpIn_of {i : Nat} {a : Act} {w : World} {K K' : Act → World → Prop} (hd : ∀ (i : Nat) (o : Oper), ops[i]? = some o → ∀ c, o.op ≠ Op.defer c) (hQ : ¬ LetsOut Q) (h : ∀ a w, K a w → K' a w) (hh : wpOp P ops Q i K a w) : wpOpIn (Fence.wide.inRound l) n P ops Q i K' a w := by
  unfold wpOp at hh
  unfold wpOpIn
  cases ho : ops[i]? with
  | none => rw [ho] at hh; exact h _ _ hh
  | some o =>
    simp only [ho] at hh ⊢
    by_cases hw : Region.wanted o (yielded ops a.tmps) = true
    · rw [if_pos hw] at hh ⊢
      rcases hh with hh | ⟨_, hq⟩
      · refine ⟨fun _ _ => trivial, ?_⟩
        rw [Oper.semAt_plain _ _ _ (hd i o ho)]
        exact uponIn_of h _ hh
      · exact absurd hq hQ
    · rw [if_neg hw] at hh ⊢
      exact ⟨fun _ _ => trivial, h _ _ hh⟩
theorem wpAnyIn_of {md : Region.Mode} (hd : ∀ (i : Nat) (o : Oper), ops[i]? = some o → ∀ c, o.op ≠ Op.defer c) (hQ : ¬ LetsOut Q) : ∀ (f : Nat) (done : Array Bool) (a : Act) (w : World), wpAny P md ops Q f done a w → wpAnyIn (Fence.wide.inRound l) n P md ops Q f done a w
  | 0, _, _, _, h => h
  | f + 1, _, _, _, h => ⟨h.1, fun i hi => wpOpIn_of hd hQ (fun a' w' => wpAnyIn_of hd hQ f _ a' w') (h.2 i hi)⟩
/-- **A drawn region inside a round**: the head once, over a class of worlds; the tail in each of them. -/
theorem wpIn_region_class_tail {C : World → Prop} {id : Nat} {a : Act} {w : World} {ls : List Oper} (k : Nat) (hQ : ¬ LetsOut Q) (hd : ∀ (i : Nat) (o : Oper), ls.toArray[i]? = some o → ∀ c, o.op ≠ Op.defer c) (hm : P.follows .mixedOrders = true) (hB : Region.lexTailB .any ls.toArray k = true) (hC : C w.drew)
    (h : wpQuiet P ls.toArray C (fun a' => ∀ w', C w' → wpList P ls.toArray Q (ls.drop k) a' w') (ls.take k) a) : (Code.region id ls.toArray true).wpIn (Fence.wide.inRound l) n P Q a w := by
  simp only [Region.lexTailB, Bool.and_eq_true, decide_eq_true_eq] at hB
  obtain ⟨⟨⟨⟨hsel, hn⟩, hs⟩, hc⟩, hlex⟩ := hB
  have hnl : k < ls.length := by simpa using hn
  have htl : (ls.take k).length = k := by rw [List.length_take]; omega
  have hdl : (ls.drop k).length = ls.toArray.size - k := by simp
  have inv0 : HeadInv .any ls.toArray k (Array.replicate ls.toArray.size false) :=
    ⟨by simp, fun j oj _ hl => (by rw [getD_replicate_false] at hl; cases hl), fun t _ ht => getD_in (by simpa using ht) (getD_replicate_false _ _)⟩
  have H := headQ_lex (g := ls.toArray.size - k) hsel hs hc hn (ls.take k) 0 _ a (fun j hj => by
    rw [htl] at hj
    simp [hj]) (by rw [htl, Nat.zero_add]) inv0 (by rw [htl]; exact hlex) h
  refine wpIn_region_any hm (wpAnyIn_of hd hQ _ _ _ _ ?_)
  have := any_of_headQ (Q' := Q) (g := ls.toArray.size - k) (fun done a' w' hw' hL => by
    have := wpAny_of_seq (Q' := Q) (ls.drop k) k done a' w' (fun j => by simp) (by rw [hdl]; exact hL.1) (hL.2 w' hw')
    rw [hdl] at this
    exact this) _ _ _ w.drew hC H
  rw [htl, show k + (ls.toArray.size - k) = ls.toArray.size by simp; omega] at this
  exact this
end

end Go.Proofs.Ytmbhcgdapglbgaa

namespace Go.Proofs.Ytmbhcgdapglbgaa
open Go.RowKit Go.Shelf

attribute [local go_sem] Oper.semAt_some

/-- What a round keeps: what lay below n₀, and block Bs. -/
def KpB (n₀ Bs : Nat) (W W' : World) : Prop := Below n₀ W W' ∧ W'.heap[Bs]? = W.heap[Bs]?
theorem KpB.refl (n₀ Bs : Nat) (W : World) : KpB n₀ Bs W W := ⟨Below.refl _ _, rfl⟩
theorem KpB.trans {n₀ Bs : Nat} {A B C : World} (h : KpB n₀ Bs A B) (k : KpB n₀ Bs B C) : KpB n₀ Bs A C := ⟨h.1.trans k.1, k.2.trans h.2⟩
theorem KpB.put {n₀ Bs : Nat} {w : World} (hn : n₀ ≤ w.heap.size) (hB : Bs < w.heap.size) (W : World) (l : Nat) (o o' : Obj) (hl : w.heap.size ≤ l) (h : W.heap[l]? = some o) (h1 : o.isCells = false) (h2 : o.isWalk = false) : KpB n₀ Bs W (W.putObj l o') :=
  ⟨belowK_b hn W l o o' hl h h1 h2, (grownBy_putObj' W l o').block Bs (by have := (Array.getElem?_eq_some_iff.1 h).1; omega) (fun e => by cases e; omega)⟩

set_option maxRecDepth 100000 in
set_option maxHeartbeats 2000000 in
/-- slices.Backward's closure. -/
theorem back1_in (F : Fence) (n : Nat) (hF : F.fn 61) (hro : F.round = none) (hn : 1 ≤ n) (l Bs n₀ b off len cap : Nat) {α : Type} (fi fv : α → Int) (x : Nat → α) (hreach : len ≤ 1048600) (hb : b < n₀) (J Jx : List α → World → Prop)
    (hfi : ∀ k, k < len → fi (x k) = (len : Int) - 1 - (k : Int))
    (hY : ∀ pre x W, J pre W → pre.length < len → YieldAt F (n - 1) Try.prog l #[.int .i64 (fi x), .int .i64 (fv x)] W fun e W' =>
      (e = .returned (.bool true) ∧ J (pre ++ [x]) W' ∧ KpB n₀ Bs W W') ∨ (e = .returned (.bool false) ∧ Jx (pre ++ [x]) W'))
    (W : World) (hBs : W.cell? ⟨Bs, 0, none⟩ = some (.slice (some ⟨b, off, none⟩) len cap)) (hc : ∀ j, j < len → W.cell? ⟨b, off + j, none⟩ = some (.int .i64 (fv (x (len - 1 - j))))) (h0 : J [] W) :
    CallsIn F n Try.prog 61 #[.func (.yield l) #[] #[], .pointer (some ⟨Bs, 0, none⟩)] W fun e W' => (∃ v, e = .returned v) ∧
      ((∃ ys, ys = upto x len ∧ J ys W') ∨ (∃ pre, (∃ k, k ≤ len ∧ pre = upto x k) ∧ Jx pre W')) := by
  have HFI := Lib.hid hfi
  clear hfi
  refine callsIn_of_wp Try.func61 rfl hF ?_ hro
  simp only [Try.ntmps61, List.size_toArray, List.length_cons, List.length_nil, Nat.reduceAdd, Nat.reduceSub, Array.replicate_succ, Array.replicate_zero, List.push_toArray, List.append_toArray, List.nil_append, List.cons_append]
  gi_wp2
  gi_loopw [3] (fun i wr => ∃ k : Nat, k ≤ len ∧ i = .int .i64 ((len : Int) - 1 - (k : Int)) ∧ J (upto x k) wr ∧ Hid (KpB n₀ Bs W wr))
    (fun i _ => (intOf i + 1).toNat)
  case atStart => exact ⟨0, Nat.zero_le _, by first | rfl | (congr 1; omega), h0, KpB.refl _ _ _⟩
  case round =>
    obtain ⟨k, hk, rfl, hJs, hnx⟩ := hrel
    by_cases hlt : k < len
    · obtain ⟨j, hj⟩ : ∃ j : Nat, (len : Int) - 1 - (k : Int) = (j : Int) := ⟨len - 1 - k, by omega⟩
      have hcx := (hnx.out.1.cell (p := ⟨b, off + j, none⟩) hb).trans (hc j (by omega))
      rw [show len - 1 - j = k by omega] at hcx
      have hbx : wr.cell? ⟨Bs, 0, none⟩ = some (.slice (some ⟨b, off, none⟩) len cap) := (World.cell?_of_block (a := ⟨Bs, 0, none⟩) hnx.out.2).trans hBs
      obtain ⟨fn, tmps, assign, body, hy, hR⟩ := hY _ (x k) wr hJs (by rw [upto_length]; exact hlt)
      rw [HFI.out k hlt, hj] at hy
      rw [hj]
      have hge : decide ((0 : Int) ≤ (j : Int)) = true := decide_eq_true (by omega)
      have hjl : (j : Int) < (len : Int) := by omega
      clear hBs hc
      gi_wp2
      refine hR.mono ?_
      rintro e W3 (⟨rfl, hJ3, hk3⟩ | ⟨rfl, hJx3⟩)
      · gi_wp2
        go_roundw
        case rel => exact ⟨k + 1, by omega, by first | rfl | (congr 1; omega) | congr 1, by rw [upto_succ]; exact hJ3, hnx.out.trans hk3⟩
        case measure => simp [intOf]
      · gi_wp2
        refine bodyPost_ret (results_none rfl _ _ _) rfl ?_
        exact ⟨⟨_, rfl⟩, .inr ⟨_, ⟨k + 1, by omega, (upto_succ _ _).symm⟩, hJx3⟩⟩
    · obtain rfl : k = len := by omega
      have hge : decide ((0 : Int) ≤ (k : Int) - 1 - (k : Int)) = false := decide_eq_false (by omega)
      have hge2 : ¬ (0 : Int) ≤ (k : Int) - 1 - (k : Int) := by omega
      obtain ⟨m, hm⟩ : ∃ m : Int, (k : Int) - 1 - (k : Int) = m := ⟨_, rfl⟩
      have hm0 : m = -1 := by omega
      rw [hm]
      subst hm0
      gi_wp2
      go_end0
      first | exact ⟨⟨_, rfl⟩, .inl ⟨_, rfl, hJs⟩⟩ | exact ⟨⟨_, rfl⟩, .inl hJs⟩

set_option maxHeartbeats 1000000 in
/-- **slices.Backward(s)**: the slice value is boxed; the function value captures the box. -/
theorem backward_in (F : Fence) (n : Nat) (hF : F.fn 56) (hro : F.round = none) (a : Option Addr) (len cap : Nat) (w : World) :
    CallsIn F n Try.prog 56 #[.slice a len cap] w fun e w' => e = .returned (.func (.func 61) #[] #[.pointer (some ⟨w.heap.size, 0, none⟩)]) ∧ w' = w.alloc (.cells #[.slice a len cap] 23) := by
  refine callsIn_of_wp Try.func56 rfl hF ?_ hro
  simp only [Try.ntmps56, List.size_toArray, List.length_cons, List.length_nil, Nat.reduceAdd, Nat.reduceSub, Array.replicate_succ, Array.replicate_zero, List.push_toArray, List.append_toArray, List.nil_append, List.cons_append]
  gi_wp2
  go_ret
  exact ⟨rfl, rfl⟩

/-- **slices.Backward(s) yields the ints of s from its end on**, whatever the body does that keeps what lay below and the box. -/
theorem back_stops {α : Type} (fi fv : α → Int) (xs : List α) (F : Fence) (n : Nat) (hF : F.fn 61) (hro : F.round = none) (hn : 1 ≤ n) (Bs : Nat) (a : Option Addr) (len cap : Nat) (zs : List Int) (hxl : xs.length = len) (hl : 0 < len)
    (hfi : ∀ k (h : k < xs.length), fi xs[k] = (len : Int) - 1 - (k : Int)) (hfv : ∀ k (h : k < xs.length), fv xs[k] = zs[len - 1 - k]?.getD 0) (w0 w : World) (hBs : Bs < w.heap.size) (hb0 : Below w0.heap.size w0 w)
    (hc : w.cell? ⟨Bs, 0, none⟩ = some (.slice a len cap)) (hI : IsInts w0 a len cap zs) :
    SeqStopsK F n Try.prog 61 #[.pointer (some ⟨Bs, 0, none⟩)] (fun x : α => #[Value.int .i64 (fi x), .int .i64 (fv x)]) (KpB w0.heap.size Bs) (fun ys => ys = xs) (fun pre => pre <+: xs) len w := fun l J Jx W hW _ _ hY h0 => by
  have hc' := (hW.cell (p := ⟨Bs, 0, none⟩) hBs).trans hc
  have hB := hb0.trans (hW.mono hb0.size)
  obtain ⟨h1, h2, h3, h4⟩ := hI
  obtain ⟨b, off, rfl, hb, hcs⟩ := h4 hl
  obtain ⟨a0, at0, ha0⟩ : ∃ a0 t, xs = a0 :: t := by
    cases xs with
    | nil => simp at hxl; omega
    | cons a0 t => exact ⟨a0, t, rfl⟩
  have hget : ∀ k (h : k < xs.length), xs[k]?.getD a0 = xs[k] := fun k h => by simp [h]
  have hall : upto (fun j => xs[j]?.getD a0) len = xs := by
    apply List.ext_getElem
    · simp [upto, hxl]
    · intro i h1 h2
      simp [upto, h2]
  have htake : ∀ k, k ≤ len → upto (fun j => xs[j]?.getD a0) k = xs.take k := fun k hk => by
    apply List.ext_getElem
    · simp [upto]; omega
    · intro i h1 h2
      have : i < xs.length := by simp [upto] at h1; omega
      simp [upto, this]
  refine (back1_in F n hF hro hn l Bs w0.heap.size b off len cap fi fv (fun j => xs[j]?.getD a0) h3 hb J Jx (fun k hk => by show fi (xs[k]?.getD a0) = _; rw [hget k (by omega)]; exact hfi k (by omega)) hY W hc' (fun j hj => by
    show W.cell? _ = some (.int .i64 (fv (xs[len - 1 - j]?.getD a0)))
    rw [hget _ (by omega), hfv _ (by omega), show len - 1 - (len - 1 - j) = j by omega]
    exact (hB.cell (p := ⟨b, off + j, none⟩) hb).trans (hcs j hj)) h0).mono ?_
  rintro e W' ⟨he, ⟨ys, rfl, hj⟩ | ⟨pre, ⟨k, hk, rfl⟩, hj⟩⟩
  · exact ⟨he, .inl ⟨_, hall, hj⟩⟩
  · exact ⟨he, .inr ⟨_, by rw [htake k hk]; exact List.take_prefix _ _, hj⟩⟩

end Go.Proofs.Ytmbhcgdapglbgaa
