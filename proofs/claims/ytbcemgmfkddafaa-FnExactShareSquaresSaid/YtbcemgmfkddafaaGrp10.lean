/-
  The iterator slices.Backward at ints: it yields a list's indices and numbers from its end on, to every loop body that keeps what lay below and the slice's box. No condition but what each theorem says.
  A region that draws its order, whose last operations are one forced order and whose others only read: the others by the cheap steps of a quiet walk, in one world. No function of the seat.
  A region that draws its order, whose last operations come in one forced order and whose others only read or call what writes nothing that was there: the others once, over a class of worlds, then the tail in each world of the class. No function of the seat.
  impl's stack of remainders in memory: push, pop and insert: contracts. They write into the stack's own blocks alone.
  Slices of fractions in memory: what they hold, and two stores into one that is the call's own. Of no function.
  impl's shares (shareOf, roundedUp, sharesOf): contracts. They write into no memory that was there.
  A region that draws its order inside a round of a range over a function: what holds of it outside every round holds in it, where no operation is a defer statement. No function of the seat.
-/
import Derived.Test.YtbcemgmfkddafaaGrp4
import Derived.Test.YtbcemgmfkddafaaGrp1
import Derived.BigQuiet
import Derived.StillTailTactics
import Derived.Test.YtbcemgmfkddafaaGrp7
import Derived.Test.YtbcemgmfkddafaaGrp6
import Derived.Test.YtbcemgmfkddafaaGrp3
import Derived.OrdersIn
import Derived.RangeFuncCalls
import Derived.OwnWalkIn
namespace Go.Proofs.Ytbcemgmfkddafaa
open Go.RowKit Go.Shelf

attribute [local go_sem] Oper.semAt_some

/-- What a round keeps: what lay below n₀, and block Bs. -/
def KpB (n₀ Bs : Nat) (W W' : World) : Prop := Below n₀ W W' ∧ W'.heap[Bs]? = W.heap[Bs]?
theorem KpB.refl (n₀ Bs : Nat) (W : World) : KpB n₀ Bs W W := ⟨Below.refl _ _, rfl⟩
theorem KpB.trans {n₀ Bs : Nat} {A B C : World} (h : KpB n₀ Bs A B) (k : KpB n₀ Bs B C) : KpB n₀ Bs A C := ⟨h.1.trans k.1, k.2.trans h.2⟩
theorem KpB.put {n₀ Bs : Nat} {w : World} (hn : n₀ ≤ w.heap.size) (hB : Bs < w.heap.size) (W : World) (l : Nat) (o o' : Obj) (hl : w.heap.size ≤ l) (h : W.heap[l]? = some o) (h1 : o.isCells = false) (h2 : o.isWalk = false) : KpB n₀ Bs W (W.putObj l o') :=
  ⟨belowK_b hn W l o o' hl h h1 h2, (grownBy_putObj' W l o').block Bs (by have := (Array.getElem?_eq_some_iff.1 h).1; omega) (fun e => by cases e; omega)⟩

set_option maxRecDepth 100000 in
set_option maxHeartbeats 2000000 in
/-- slices.Backward's closure. -/
theorem back1_in (F : Fence) (n : Nat) (hF : F.fn 85) (hro : F.round = none) (hn : 1 ≤ n) (l Bs n₀ b off len cap : Nat) {α : Type} (fi fv : α → Int) (x : Nat → α) (hreach : len ≤ 1048600) (hb : b < n₀) (J Jx : List α → World → Prop)
    (hfi : ∀ k, k < len → fi (x k) = (len : Int) - 1 - (k : Int))
    (hY : ∀ pre x W, J pre W → pre.length < len → YieldAt F (n - 1) Try.prog l #[.int .i64 (fi x), .int .i64 (fv x)] W fun e W' =>
      (e = .returned (.bool true) ∧ J (pre ++ [x]) W' ∧ KpB n₀ Bs W W') ∨ (e = .returned (.bool false) ∧ Jx (pre ++ [x]) W'))
    (W : World) (hBs : W.cell? ⟨Bs, 0, none⟩ = some (.slice (some ⟨b, off, none⟩) len cap)) (hc : ∀ j, j < len → W.cell? ⟨b, off + j, none⟩ = some (.int .i64 (fv (x (len - 1 - j))))) (h0 : J [] W) :
    CallsIn F n Try.prog 85 #[.func (.yield l) #[] #[], .pointer (some ⟨Bs, 0, none⟩)] W fun e W' => (∃ v, e = .returned v) ∧
      ((∃ ys, ys = upto x len ∧ J ys W') ∨ (∃ pre, (∃ k, k ≤ len ∧ pre = upto x k) ∧ Jx pre W')) := by
  have HFI := Lib.hid hfi
  clear hfi
  refine callsIn_of_wp Try.func85 rfl hF ?_ hro
  simp only [Try.ntmps85, List.size_toArray, List.length_cons, List.length_nil, Nat.reduceAdd, Nat.reduceSub, Array.replicate_succ, Array.replicate_zero, List.push_toArray, List.append_toArray, List.nil_append, List.cons_append]
  gi_wp2
  gi_loopw [3] (fun i wr => ∃ k : Nat, k ≤ len ∧ i = .int .i64 ((len : Int) - 1 - (k : Int)) ∧ J (upto x k) wr ∧ Hid (KpB n₀ Bs W wr))
    (fun i _ => (intOf i + 1).toNat)
  case atStart => exact ⟨0, Nat.zero_le _, by first | rfl | (congr 1; omega), h0, KpB.refl _ _ _⟩
  case round =>
    obtain ⟨k, hk, rfl, hJs, hnx⟩ := hrel
    by_cases hlt : k < len
    · obtain ⟨j, hj⟩ : ∃ j : Nat, (len : Int) - 1 - (k : Int) = (j : Int) := ⟨len - 1 - k, by omega⟩
      have hcx := (hnx.out.1.cell (p := ⟨b, off + j, none⟩) hb).trans (hc j (by omega))
      rw [show len - 1 - j = k by omega] at hcx
      have hbx : wr.cell? ⟨Bs, 0, none⟩ = some (.slice (some ⟨b, off, none⟩) len cap) := (World.cell?_of_block (a := ⟨Bs, 0, none⟩) hnx.out.2).trans hBs
      obtain ⟨fn, tmps, assign, body, hy, hR⟩ := hY _ (x k) wr hJs (by rw [upto_length]; exact hlt)
      rw [HFI.out k hlt, hj] at hy
      rw [hj]
      have hge : decide ((0 : Int) ≤ (j : Int)) = true := decide_eq_true (by omega)
      have hjl : (j : Int) < (len : Int) := by omega
      clear hBs hc
      gi_wp2
      refine hR.mono ?_
      rintro e W3 (⟨rfl, hJ3, hk3⟩ | ⟨rfl, hJx3⟩)
      · gi_wp2
        go_roundw
        case rel => exact ⟨k + 1, by omega, by first | rfl | (congr 1; omega) | congr 1, by rw [upto_succ]; exact hJ3, hnx.out.trans hk3⟩
        case measure => simp [intOf]
      · gi_wp2
        refine bodyPost_ret (results_none rfl _ _ _) rfl ?_
        exact ⟨⟨_, rfl⟩, .inr ⟨_, ⟨k + 1, by omega, (upto_succ _ _).symm⟩, hJx3⟩⟩
    · obtain rfl : k = len := by omega
      have hge : decide ((0 : Int) ≤ (k : Int) - 1 - (k : Int)) = false := decide_eq_false (by omega)
      have hge2 : ¬ (0 : Int) ≤ (k : Int) - 1 - (k : Int) := by omega
      obtain ⟨m, hm⟩ : ∃ m : Int, (k : Int) - 1 - (k : Int) = m := ⟨_, rfl⟩
      have hm0 : m = -1 := by omega
      rw [hm]
      subst hm0
      gi_wp2
      go_end0
      first | exact ⟨⟨_, rfl⟩, .inl ⟨_, rfl, hJs⟩⟩ | exact ⟨⟨_, rfl⟩, .inl hJs⟩

set_option maxHeartbeats 1000000 in
/-- **slices.Backward(s)**: the slice value is boxed; the function value captures the box. -/
theorem backward_in (F : Fence) (n : Nat) (hF : F.fn 73) (hro : F.round = none) (a : Option Addr) (len cap : Nat) (w : World) :
    CallsIn F n Try.prog 73 #[.slice a len cap] w fun e w' => e = .returned (.func (.func 85) #[] #[.pointer (some ⟨w.heap.size, 0, none⟩)]) ∧ w' = w.alloc (.cells #[.slice a len cap] 23) := by
  refine callsIn_of_wp Try.func73 rfl hF ?_ hro
  simp only [Try.ntmps73, List.size_toArray, List.length_cons, List.length_nil, Nat.reduceAdd, Nat.reduceSub, Array.replicate_succ, Array.replicate_zero, List.push_toArray, List.append_toArray, List.nil_append, List.cons_append]
  gi_wp2
  go_ret
  exact ⟨rfl, rfl⟩

/-- **slices.Backward(s) yields the ints of s from its end on**, whatever the body does that keeps what lay below and the box. -/
theorem back_stops {α : Type} (fi fv : α → Int) (xs : List α) (F : Fence) (n : Nat) (hF : F.fn 85) (hro : F.round = none) (hn : 1 ≤ n) (Bs : Nat) (a : Option Addr) (len cap : Nat) (zs : List Int) (hxl : xs.length = len) (hl : 0 < len)
    (hfi : ∀ k (h : k < xs.length), fi xs[k] = (len : Int) - 1 - (k : Int)) (hfv : ∀ k (h : k < xs.length), fv xs[k] = zs[len - 1 - k]?.getD 0) (w0 w : World) (hBs : Bs < w.heap.size) (hb0 : Below w0.heap.size w0 w)
    (hc : w.cell? ⟨Bs, 0, none⟩ = some (.slice a len cap)) (hI : IsInts w0 a len cap zs) :
    SeqStopsK F n Try.prog 85 #[.pointer (some ⟨Bs, 0, none⟩)] (fun x : α => #[Value.int .i64 (fi x), .int .i64 (fv x)]) (KpB w0.heap.size Bs) (fun ys => ys = xs) (fun pre => pre <+: xs) len w := fun l J Jx W hW _ _ hY h0 => by
  have hc' := (hW.cell (p := ⟨Bs, 0, none⟩) hBs).trans hc
  have hB := hb0.trans (hW.mono hb0.size)
  obtain ⟨h1, h2, h3, h4⟩ := hI
  obtain ⟨b, off, rfl, hb, hcs⟩ := h4 hl
  obtain ⟨a0, at0, ha0⟩ : ∃ a0 t, xs = a0 :: t := by
    cases xs with
    | nil => simp at hxl; omega
    | cons a0 t => exact ⟨a0, t, rfl⟩
  have hget : ∀ k (h : k < xs.length), xs[k]?.getD a0 = xs[k] := fun k h => by simp [h]
  have hall : upto (fun j => xs[j]?.getD a0) len = xs := by
    apply List.ext_getElem
    · simp [upto, hxl]
    · intro i h1 h2
      simp [upto, h2]
  have htake : ∀ k, k ≤ len → upto (fun j => xs[j]?.getD a0) k = xs.take k := fun k hk => by
    apply List.ext_getElem
    · simp [upto]; omega
    · intro i h1 h2
      have : i < xs.length := by simp [upto] at h1; omega
      simp [upto, this]
  refine (back1_in F n hF hro hn l Bs w0.heap.size b off len cap fi fv (fun j => xs[j]?.getD a0) h3 hb J Jx (fun k hk => by show fi (xs[k]?.getD a0) = _; rw [hget k (by omega)]; exact hfi k (by omega)) hY W hc' (fun j hj => by
    show W.cell? _ = some (.int .i64 (fv (xs[len - 1 - j]?.getD a0)))
    rw [hget _ (by omega), hfv _ (by omega), show len - 1 - (len - 1 - j) = j by omega]
    exact (hB.cell (p := ⟨b, off + j, none⟩) hb).trans (hcs j hj)) h0).mono ?_
  rintro e W' ⟨he, ⟨ys, rfl, hj⟩ | ⟨pre, ⟨k, hk, rfl⟩, hj⟩⟩
  · exact ⟨he, .inl ⟨_, hall, hj⟩⟩
  · exact ⟨he, .inr ⟨_, by rw [htake k hk]; exact List.take_prefix _ _, hj⟩⟩

end Go.Proofs.Ytbcemgmfkddafaa

namespace Go.Proofs.Ytbcemgmfkddafaa
open Go.RowKit

theorem still_of_quiet {P : Program} {ops : Array Oper} {w0 : World} {Q : Act → Prop} : ∀ (l : List Oper) (a : Act), wpQuiet P ops (fun w' => w' = w0) Q l a → wpStill P ops w0 Q l a
  | [], _, h => h
  | o :: rest, a, h => by
    have ih := still_of_quiet (P := P) (ops := ops) (w0 := w0) (Q := Q) rest
    simp only [wpQuiet] at h
    simp only [wpStill]
    by_cases hw : Region.wanted o (yielded ops a.tmps) = true
    · rw [if_pos hw] at h ⊢
      obtain ⟨v, h1, h2⟩ := h
      have h3 := h1 w0 rfl
      unfold Oper.quietAt at h3
      unfold Oper.still
      generalize (execOp a.eval o).run P w0 = r at h3
      cases r with
      | ok n w' =>
        cases n <;> simp only [Oper.quietUpon] at h3 <;> simp only [Oper.stillUpon]
        case value u =>
          obtain ⟨e1, e2⟩ := h3
          subst e2
          exact ⟨e1, ih _ h2⟩
        case skip =>
          obtain ⟨e1, e2⟩ := h3
          subst e2
          exact ⟨e1, ih _ h2⟩
        case enter f args =>
          obtain ⟨e1, e2⟩ := h3
          exact ⟨e1, v, e2, ih _ h2⟩
      | halt x w' => simp only [Oper.quietUpon] at h3
    · rw [if_neg hw] at h ⊢
      exact ih _ h

/-- **The others by a quiet walk, then the tail.** -/
theorem region_quiet_tail {P : Program} {id : Nat} {Q : Exit → Act → World → Prop} {a : Act} {w : World} {l : List Oper} (n : Nat) (hm : P.follows .mixedOrders = true) (hB : Region.lexTailB .any l.toArray n = true)
    (h : wpQuiet P l.toArray (fun w' => w' = w.drew) (fun a' => wpList P l.toArray Q (l.drop n) a' w.drew) (l.take n) a) : (Code.region id l.toArray true).wp P Q a w :=
  wp_region_still_tail n hm hB (still_of_quiet _ _ h)

end Go.Proofs.Ytbcemgmfkddafaa

namespace Go.Proofs.Ytbcemgmfkddafaa
open Go.RowKit

section
variable {P : Program} {ops : Array Oper} {C : World → Prop}

/-- The head of such a region: each operation that may come up lies in the head and is quiet. -/
def headQ (P : Program) (ops : Array Oper) (C : World → Prop) (n : Nat) (L : Array Bool → Act → Prop) : Nat → Array Bool → Act → Prop
  | 0, done, a => L done a
  | f + 1, done, a => Region.ready .any ops done ≠ [] ∧ ∀ i ∈ Region.ready .any ops done, i < n ∧ qOp P ops C i (headQ P ops C n L f (done.setIfInBounds i true)) a

theorem any_of_headQ {n g : Nat} {L : Array Bool → Act → Prop} {Q' : Exit → Act → World → Prop} (hL : ∀ done a w, C w → L done a → wpAny P .any ops Q' g done a w) :
    ∀ (f : Nat) (done : Array Bool) (a : Act) (w : World), C w → headQ P ops C n L f done a → wpAny P .any ops Q' (f + g) done a w := by
  intro f
  induction f with
  | zero => intro done a w hw h; rw [Nat.zero_add]; exact hL _ _ _ hw h
  | succ f ih =>
    intro done a w hw h
    have e : f + 1 + g = (f + g) + 1 := by omega
    rw [e]
    refine ⟨fun h0 => absurd h0 h.1, fun i hi => ?_⟩
    exact wpOp_of_qOp hw (fun a' w' hw' h' => ih _ a' w' hw' h') (h.2 i hi).2

theorem headQ_take {n i : Nat} {oi : Oper} {v : Value} {L : Array Bool → Act → Prop} (hi : ops[i]? = some oi) (hno : ∀ (j : Nat) (o : Oper) cs b, ops[j]? = some o → o.op ≠ .select cs b)
    (hs : Region.sinkB .any ops n = true) (hc : Region.chainB .any ops n = true) (hn : n < ops.size) (hin : i < n) (hend : ∀ done a, L done a → ∀ j ∈ Region.ready .any ops done, n ≤ j) :
    ∀ (f : Nat) (done : Array Bool) (a : Act), HeadInv .any ops n done →
      (∀ j oj, ops[j]? = some oj → j ≠ i → done.getD j true = false → (∀ e ∈ oj.after, Region.binds .any e = true → e.on ≠ i) → oi.apart ops oj = true) →
      i ∈ Region.ready .any ops done → YieldsIn P ops C oi v a →
      headQ P ops C n L f (done.setIfInBounds i true) (a.put oi.dst v) → headQ P ops C n L (f + 1) done a := by
  intro f
  induction f with
  | zero =>
    intro done a inv _ hr hy H
    have hopen := (mem_ready.1 hr).1
    refine ⟨List.ne_nil_of_mem hr, fun j hj => ?_⟩
    have hjn : j < n := Nat.lt_of_not_le fun h => tail_waits hs hc hn inv _ i rfl hin hopen j h hj
    refine ⟨hjn, ?_⟩
    by_cases hji : j = i
    · rw [hji]; exact hy.qOp hi H
    · exact absurd (hend _ _ H j (ready_mono hj hji)) (by omega)
  | succ f ih =>
    intro done a inv hfree hr hy H
    have hopen := (mem_ready.1 hr).1
    refine ⟨List.ne_nil_of_mem hr, fun j hj => ?_⟩
    have hjn : j < n := Nat.lt_of_not_le fun h => tail_waits hs hc hn inv _ i rfl hin hopen j h hj
    refine ⟨hjn, ?_⟩
    by_cases hji : j = i
    · rw [hji]; exact hy.qOp hi H
    · have hnext := (H.2 j (ready_mono hj hji)).2
      obtain ⟨hjopen, oj, hoj, hall⟩ := mem_ready.1 hj
      have hnot : ∀ e ∈ oj.after, Region.binds .any e = true → e.on ≠ i := fun e he hb heq => by
        have := hall e he hb
        rw [heq, getD_both hopen] at this
        cases this
      have hput := qOp_put hoj (hfree j oj hoj hji hjopen hnot) (fun cs b => hno i oi cs b hi) (fun cs b => hno j oj cs b hoj) hy hnext
      refine qOp_mono (fun a' h3 => ih (done.setIfInBounds j true) a' (inv.set hj hjn) ?_ (ready_mono hr (Ne.symm hji)) h3.1 ?_) hput
      · intro k ok hk hki hkopen hkno
        refine hfree k ok hk hki ?_ hkno
        by_cases hjk : j = k
        · rw [← hjk]; exact hjopen
        · rw [getD_set_ne true hjk] at hkopen; exact hkopen
      · rw [Array.setIfInBounds_comm _ _ hji]; exact h3.2

theorem headQ_lex {n g : Nat} {Lq : Act → Prop} (hsel : Region.noSelect ops = true) (hs : Region.sinkB .any ops n = true) (hc : Region.chainB .any ops n = true) (hn : n < ops.size) :
    ∀ (l : List Oper) (k : Nat) (done : Array Bool) (a : Act), (∀ j, j < l.length → l[j]? = ops[k + j]?) → k + l.length = n → HeadInv .any ops n done →
    Region.lexHead .any ops g l.length k done = true → wpQuiet P ops C Lq l a →
    headQ P ops C n (fun done' a' => Region.seqB .any ops g n done' = true ∧ Lq a') l.length done a := by
  intro l
  induction l with
  | nil =>
    intro k done a _ hk _ hB h
    have e : k = n := by simpa using hk
    rw [e] at hB
    exact ⟨hB, h⟩
  | cons o l ih =>
    intro k done a hl hk inv hB h
    have h0 : ops[k]? = some o := by simpa using (hl 0 (by simp)).symm
    have hlen : k + (l.length + 1) = n := by simpa using hk
    simp only [List.length_cons, Region.lexHead, Bool.and_eq_true] at hB
    have hr : k ∈ Region.ready .any ops done := by simpa using hB.1.1
    have hq : qOp P ops C k (wpQuiet P ops C Lq l) a := by unfold qOp; simp only [h0]; exact h
    obtain ⟨v, hy, hK⟩ := yieldsIn_of_qOp h0 hq
    refine headQ_take h0 (Region.noSelect_spec hsel) hs hc hn (by omega) (fun _ _ hL => seqB_ready hL.1) l.length done a inv (Region.free_spec h0 hB.1.2) hr hy ?_
    refine ih (k + 1) _ _ (fun j hj => ?_) (by omega) (inv.set hr (by omega)) hB.2 hK
    have := hl (j + 1) (by simp; omega)
    rw [List.getElem?_cons_succ] at this
    rw [this]
    congr 1
    omega

/-- **The head once, over a class of worlds; the tail in each of them.** -/
theorem wp_region_class_tail {id : Nat} {Q : Exit → Act → World → Prop} {a : Act} {w : World} {l : List Oper} (n : Nat) (hm : P.follows .mixedOrders = true) (hB : Region.lexTailB .any l.toArray n = true) (hC : C w.drew)
    (h : wpQuiet P l.toArray C (fun a' => ∀ w', C w' → wpList P l.toArray Q (l.drop n) a' w') (l.take n) a) : (Code.region id l.toArray true).wp P Q a w := by
  simp only [Region.lexTailB, Bool.and_eq_true, decide_eq_true_eq] at hB
  obtain ⟨⟨⟨⟨hsel, hn⟩, hs⟩, hc⟩, hlex⟩ := hB
  have hnl : n < l.length := by simpa using hn
  have htl : (l.take n).length = n := by rw [List.length_take]; omega
  have hdl : (l.drop n).length = l.toArray.size - n := by simp
  have inv0 : HeadInv .any l.toArray n (Array.replicate l.toArray.size false) :=
    ⟨by simp, fun j oj _ hl => (by rw [getD_replicate_false] at hl; cases hl), fun t _ ht => getD_in (by simpa using ht) (getD_replicate_false _ _)⟩
  have H := headQ_lex (g := l.toArray.size - n) hsel hs hc hn (l.take n) 0 _ a (fun j hj => by
    rw [htl] at hj
    simp [hj]) (by rw [htl, Nat.zero_add]) inv0 (by rw [htl]; exact hlex) h
  refine wp_region_any hm ?_
  have := any_of_headQ (Q' := Q) (g := l.toArray.size - n) (fun done a' w' hw' hL => by
    have := wpAny_of_seq (Q' := Q) (l.drop n) n done a' w' (fun j => by simp) (by rw [hdl]; exact hL.1) (hL.2 w' hw')
    rw [hdl] at this
    exact this) _ _ _ w.drew hC H
  rw [htl, show n + (l.toArray.size - n) = l.toArray.size by simp; omega] at this
  exact this
theorem wp_region_below_tail {id : Nat} {Q : Exit → Act → World → Prop} {a : Act} {w : World} {l : List Oper} (n : Nat) (hm : P.follows .mixedOrders = true) (hB : Region.lexTailB .any l.toArray n = true)
    (h : wpQuiet P l.toArray (fun w' => ∃ u : Beh w, w' = u.w) (fun a' => ∀ w', (∃ u : Beh w, w' = u.w) → wpList P l.toArray Q (l.drop n) a' w') (l.take n) a) : (Code.region id l.toArray true).wp P Q a w :=
  wp_region_class_tail (C := fun w' => ∃ u : Beh w, w' = u.w) n hm hB ⟨⟨w.drew, (Below.refl _ _).drew⟩, rfl⟩ h
end

end Go.Proofs.Ytbcemgmfkddafaa

namespace Go.Proofs.Ytbcemgmfkddafaa
open Go.RowKit

attribute [local go_sem] Oper.semAt_some

/-- What stands in a block. -/
theorem rb_cell {w : World} {g : Nat} {c : Array Value} {e : TypeId} {z : Nat × Nat} (h : w.heap[g]? = some (.cells c e z)) (i : Nat) : w.cell? ⟨g, i, none⟩ = c[i]? := by simp [World.cell?, h]
theorem rb_frozen {w : World} {g : Nat} {c : Array Value} {e : TypeId} (h : w.heap[g]? = some (.cells c e (0, 0))) (i : Nat) : w.frozen? ⟨g, i, none⟩ = false := by simp [World.frozen?, h]
theorem rb_lt {w : World} {g : Nat} {o : Obj} (h : w.heap[g]? = some o) : g < w.heap.size := (Array.getElem?_eq_some_iff.1 h).1
theorem rb_set {w : World} {g : Nat} {c : Array Value} {e : TypeId} {z : Nat × Nat} (h : w.heap[g]? = some (.cells c e z)) (i : Nat) (v : Value) : (w.setCell ⟨g, i, none⟩ v).heap[g]? = some (.cells (c.setIfInBounds i v) e z) := by
  simp [World.setCell, Array.getElem?_modify, h]
theorem rb_other {w : World} {g k i : Nat} {v : Value} (hne : k ≠ g) : (w.setCell ⟨g, i, none⟩ v).heap[k]? = w.heap[k]? := Below.heap_setCell _ _ _ _ hne

/-- What leads to the first one of some blocks. -/
def topV (bs : List Nat) : Value := .pointer (bs.head?.map fun b => ⟨b, 0, none⟩)
theorem topV_nil : topV [] = .pointer none := rfl
theorem topV_cons (b : Nat) (bs : List Nat) : topV (b :: bs) = .pointer (some ⟨b, 0, none⟩) := rfl
/-- Block b is a remainder: a party, how much, what is below it. -/
def Nd (w : World) (b : Nat) (p r : Int) (v : Value) : Prop := w.heap[b]? = some (.cells #[.int .i64 p, .int .i64 r, v] 63 (0, 0))
/-- The blocks of some parties' remainders, each on top of the next one. -/
def Lst (w : World) (R : Int → Int) : List Nat → List Int → Prop
  | [], [] => True
  | b :: bs, p :: ps => Nd w b p (R p) (topV bs) ∧ Lst w R bs ps
  | [], _ :: _ => False
  | _ :: _, [] => False
/-- Block S is a stack with these remainders. -/
structure Stk (w : World) (S : Nat) (R : Int → Int) (bs : List Nat) (ps : List Int) : Prop where
  top : w.heap[S]? = some (.cells #[topV bs] 82 (0, 0))
  lst : Lst w R bs ps
  dis : bs.Nodup
theorem Lst.len {w : World} {R : Int → Int} : ∀ {bs : List Nat} {ps : List Int}, Lst w R bs ps → bs.length = ps.length
  | [], [], _ => rfl
  | _ :: bs, _ :: ps, h => by rw [List.length_cons, List.length_cons, Lst.len h.2]
  | [], _ :: _, h => h.elim
  | _ :: _, [], h => h.elim
theorem Lst.kept {w w' : World} {R : Int → Int} : ∀ {bs : List Nat} {ps : List Int}, Lst w R bs ps → (∀ k ∈ bs, w'.heap[k]? = w.heap[k]?) → Lst w' R bs ps
  | [], [], _, _ => trivial
  | b :: bs, p :: ps, h, hk => ⟨(hk b (by simp)).trans h.1, Lst.kept h.2 (fun k hk' => hk k (by simp [hk']))⟩
  | [], _ :: _, h, _ => h.elim
  | _ :: _, [], h, _ => h.elim
theorem Lst.mem {w : World} {R : Int → Int} : ∀ {bs : List Nat} {ps : List Int}, Lst w R bs ps → ∀ b ∈ bs, ∃ c, w.heap[b]? = some (.cells c 63 (0, 0))
  | [], [], _, b, hb => by cases hb
  | b' :: bs, p :: ps, h, b, hb => by
    rcases List.mem_cons.1 hb with e | e
    · subst e; exact ⟨_, h.1⟩
    · exact Lst.mem h.2 b e
  | [], _ :: _, h, _, _ => h.elim
  | _ :: _, [], h, _, _ => h.elim
theorem stk_type : (82 : TypeId) ≠ 63 := by decide
theorem Stk.not_in {w : World} {S : Nat} {R : Int → Int} {bs : List Nat} {ps : List Int} (h : Stk w S R bs ps) : S ∉ bs := fun hm => by
  obtain ⟨c, hc⟩ := h.lst.mem S hm
  rw [h.top] at hc
  injection hc with hc
  injection hc with _ e _
  exact stk_type e
theorem Stk.not_nd {w : World} {S b : Nat} {R : Int → Int} {bs : List Nat} {ps : List Int} {p r : Int} {v : Value} (h : Stk w S R bs ps) (hn : Nd w b p r v) : b ≠ S := fun e => by
  subst e
  have hc : w.heap[b]? = some (.cells _ _ _) := hn
  rw [h.top] at hc
  injection hc with hc
  injection hc with _ e _
  exact stk_type e
theorem Stk.kept {w w' : World} {S : Nat} {R : Int → Int} {bs : List Nat} {ps : List Int} (h : Stk w S R bs ps) (h0 : w'.heap[S]? = w.heap[S]?) (hk : ∀ k ∈ bs, w'.heap[k]? = w.heap[k]?) : Stk w' S R bs ps := ⟨h0.trans h.top, h.lst.kept hk, h.dis⟩
theorem Stk.below {w w' : World} {S : Nat} {R : Int → Int} {bs : List Nat} {ps : List Int} (h : Stk w S R bs ps) (hb : Below w.heap.size w w') : Stk w' S R bs ps :=
  h.kept (hb.block S (rb_lt h.top)) (fun k hk => by obtain ⟨c, hc⟩ := h.lst.mem k hk; exact hb.block k (rb_lt hc))

/-- From w to w' only block S and the blocks of a list have changed; no block is new. -/
structure Only (w w' : World) (S : Nat) (bs : List Nat) : Prop where
  os : w'.os = w.os
  tape : w'.tape = w.tape
  output : w'.output = w.output
  size : w'.heap.size = w.heap.size
  block : ∀ k, k ≠ S → k ∉ bs → w'.heap[k]? = w.heap[k]?
theorem Only.refl (w : World) (S : Nat) (bs : List Nat) : Only w w S bs := ⟨rfl, rfl, rfl, rfl, fun _ _ _ => rfl⟩
theorem Only.trans {a b c : World} {S : Nat} {bs bs' : List Nat} (h : Only a b S bs) (g : Only b c S bs') (hs : ∀ k ∈ bs', k ∈ bs) : Only a c S bs :=
  ⟨g.os.trans h.os, g.tape.trans h.tape, g.output.trans h.output, g.size.trans h.size, fun k h1 h2 => (g.block k h1 (fun hm => h2 (hs k hm))).trans (h.block k h1 h2)⟩
theorem Only.mono {w w' : World} {S : Nat} {bs bs' : List Nat} (h : Only w w' S bs) (hs : ∀ k ∈ bs, k ∈ bs') : Only w w' S bs' := ⟨h.os, h.tape, h.output, h.size, fun k h1 h2 => h.block k h1 (fun hm => h2 (hs k hm))⟩
theorem Only.below {w w' : World} {S B : Nat} {bs : List Nat} (h : Only w w' S bs) (hS : B ≤ S) (hb : ∀ k ∈ bs, B ≤ k) : Below B w w' :=
  ⟨h.os, h.tape, h.output, Nat.le_of_eq h.size.symm, fun k hk => h.block k (by omega) (fun hm => by have := hb k hm; omega)⟩
theorem Only.drew {w w' : World} {S : Nat} {bs : List Nat} (h : Only w.drew w' S bs) : Only w w' S bs := ⟨h.os, h.tape, h.output, h.size, h.block⟩
theorem Only.drewN (w : World) (n : Nat) (S : Nat) (bs : List Nat) : Only w (w.drewN n) S bs := ⟨rfl, rfl, rfl, rfl, fun _ _ _ => rfl⟩
theorem Only.sets {w : World} {S : Nat} {bs : List Nat} {b i : Nat} (v : Value) (hb : b ∈ S :: bs) : Only w (w.setCell ⟨b, i, none⟩ v) S bs :=
  ⟨rfl, rfl, rfl, by simp [World.setCell], fun k h1 h2 => rb_other (fun e => by
    subst e
    rcases List.mem_cons.1 hb with e | e
    · exact h1 e
    · exact h2 e)⟩

set_option maxHeartbeats 1000000 in
/-- **push**. -/
theorem push_as (S b : Nat) (R : Int → Int) (bs : List Nat) (ps : List Int) (p r : Int) (v : Value) (w : World) (h : Stk w S R bs ps) (hn : Nd w b p r v) (hr : R p = r) (hb : b ∉ bs) :
    Calls Try.prog 86 #[.pointer (some ⟨S, 0, none⟩), .pointer (some ⟨b, 0, none⟩)] w fun e w' => e = .returned (.tuple #[]) ∧ Stk w' S R (b :: bs) (p :: ps) ∧ Only w w' S [b] := by
  have hbS := h.not_nd hn
  have c0 : w.cell? ⟨S, 0, none⟩ = some (topV bs) := rb_cell h.top 0
  have f0 : w.frozen? ⟨S, 0, none⟩ = false := rb_frozen h.top 0
  have c2 : w.cell? ⟨b, 2, none⟩ = some v := rb_cell hn 2
  have f2 : w.frozen? ⟨b, 2, none⟩ = false := rb_frozen hn 2
  have T1 : Hid (Stk ((w.setCell ⟨b, 2, none⟩ (topV bs)).setCell ⟨S, 0, none⟩ (.pointer (some ⟨b, 0, none⟩))) S R (b :: bs) (p :: ps)) := by
    have hS1 : (w.setCell ⟨b, 2, none⟩ (topV bs)).heap[S]? = some (.cells #[topV bs] 82 (0, 0)) := (rb_other (Ne.symm hbS)).trans h.top
    have hn1 := rb_set hn 2 (topV bs)
    refine ⟨rb_set hS1 0 _, ⟨?_, h.lst.kept (fun k hk => ?_)⟩, List.nodup_cons.2 ⟨hb, h.dis⟩⟩
    · unfold Nd
      rw [rb_other hbS, hr]
      exact hn1
    · rw [rb_other (fun e => h.not_in (by rw [← e]; exact hk)), rb_other (fun e => hb (by rw [← e]; exact hk))]
  have O1 : Hid (Only w ((w.setCell ⟨b, 2, none⟩ (topV bs)).setCell ⟨S, 0, none⟩ (.pointer (some ⟨b, 0, none⟩))) S [b]) :=
    (Only.sets (i := 2) (topV bs) (by simp)).trans (Only.sets (i := 0) _ (by simp)) (fun _ hk => hk)
  have hcS : (w.setCell ⟨b, 2, none⟩ (topV bs)).cell? ⟨S, 0, none⟩ = some (topV bs) := by
    rw [World.cell?_setCell_other _ _ _ _ (by intro e; injection e with e _ _; exact hbS e)]
    exact rb_cell h.top 0
  have hfS : (w.setCell ⟨b, 2, none⟩ (topV bs)).frozen? ⟨S, 0, none⟩ = false := by rw [World.frozen?_setCell]; exact f0
  obtain ⟨tv, htv⟩ : ∃ tv, topV bs = .pointer tv := ⟨_, rfl⟩
  rw [htv] at c0 T1 O1 hcS hfS
  clear h hn htv
  go_enter Try.func86, Try.ntmps86
  go_wp2
  go_end0
  exact ⟨rfl, T1.out, O1.out⟩

set_option maxHeartbeats 1000000 in
/-- **pop**. -/
theorem pop_as (S b : Nat) (R : Int → Int) (bs : List Nat) (p : Int) (ps : List Int) (w : World) (h : Stk w S R (b :: bs) (p :: ps)) :
    Calls Try.prog 53 #[.pointer (some ⟨S, 0, none⟩)] w fun e w' => e = .returned (.pointer (some ⟨b, 0, none⟩)) ∧ Stk w' S R bs ps ∧ Nd w' b p (R p) (topV bs) ∧ b ∉ bs ∧ Only w w' S [] := by
  have hn := h.lst.1
  have hbS := h.not_nd hn
  have hbb := (List.nodup_cons.1 h.dis)
  have c0 : w.cell? ⟨S, 0, none⟩ = some (topV (b :: bs)) := rb_cell h.top 0
  have f0 : w.frozen? ⟨S, 0, none⟩ = false := rb_frozen h.top 0
  have c2 : w.cell? ⟨b, 2, none⟩ = some (topV bs) := rb_cell hn 2
  have T1 : Hid (Stk (w.setCell ⟨S, 0, none⟩ (topV bs)) S R bs ps ∧ Nd (w.setCell ⟨S, 0, none⟩ (topV bs)) b p (R p) (topV bs)) :=
    ⟨⟨rb_set h.top 0 _, h.lst.2.kept (fun k hk => rb_other (fun e => h.not_in (by rw [← e]; simp [hk]))), hbb.2⟩, (rb_other hbS).trans hn⟩
  have O1 : Hid (Only w (w.setCell ⟨S, 0, none⟩ (topV bs)) S []) := Only.sets (i := 0) _ (by simp)
  have HB := Lib.hid hbb.1
  obtain ⟨tv, htv⟩ : ∃ tv, topV bs = .pointer tv := ⟨_, rfl⟩
  rw [htv] at c2 T1 O1
  rw [topV_cons] at c0
  rw [htv]
  clear h hn htv hbb
  go_enter Try.func53, Try.ntmps53
  go_wp2
  go_ret
  exact ⟨rfl, T1.out.1, T1.out.2, HB.out, O1.out⟩

theorem Nd.kept {w w' : World} {b : Nat} {p r : Int} {v : Value} (h : Nd w b p r v) (hb : w'.heap[b]? = w.heap[b]?) : Nd w' b p r v := hb.trans h

set_option maxRecDepth 100000 in
set_option maxHeartbeats 4000000 in
/-- **insert**: below all greater ones, above all others. -/
theorem insert_as (S : Nat) (R : Int → Int) : ∀ (ps : List Int) (bs : List Nat) (b : Nat) (p r : Int) (v : Value) (w : World), Stk w S R bs ps → Nd w b p r v → R p = r → b ∉ bs →
    Calls Try.prog 74 #[.pointer (some ⟨S, 0, none⟩), .pointer (some ⟨b, 0, none⟩)] w fun e w' => e = .returned (.tuple #[]) ∧ ∃ bs', Stk w' S R bs' (insR R p ps) ∧ (∀ k, k ∈ bs' ↔ k = b ∨ k ∈ bs) ∧ Only w w' S (b :: bs) := by
  intro ps
  induction ps with
  | nil =>
    intro bs b p r v w h hn hr hb
    obtain rfl : bs = [] := List.length_eq_zero_iff.1 h.lst.len
    have c0 : w.cell? ⟨S, 0, none⟩ = some (.pointer none) := rb_cell h.top 0
    have HS := Lib.hid h
    have HN := Lib.hid hn
    have HR := Lib.hid hr
    clear h hn hr hb
    go_enter Try.func74, Try.ntmps74
    go_wp2_with fail
    go_quiet (fail)
    have HO1 := Lib.hid (Only.drewN w nq S [b])
    have HB1 := Lib.hid (below_drewN w.heap.size w nq)
    obtain ⟨w1, hw1⟩ : ∃ w1, w.drewN nq = w1 := ⟨_, rfl⟩
    rw [hw1] at HB1 HO1 ⊢
    have HS1 := Lib.hid (HS.out.below HB1.out)
    have HN1 : Hid (Nd w1 b p r v) := HN.out.kept (HB1.out.block b (rb_lt HN.out))
    go_wp2_with fail
    refine (push_as S b R [] [] p r v _ HS1.out HN1.out HR.out (by simp)).mono ?_
    rintro e w2 ⟨rfl, hs, ho⟩
    go_wp2
    refine bodyPost_ret (results_none rfl _ _ _) rfl ?_
    exact ⟨rfl, [b], hs, by simp, HO1.out.trans ho (fun _ hk => hk)⟩
  | cons q ps ih =>
    intro bs b p r v w h hn hr hb
    obtain ⟨b0, bs, rfl⟩ : ∃ b0 bs0, bs = b0 :: bs0 := by
      cases bs with
      | nil => exact h.lst.elim
      | cons b0 bs0 => exact ⟨b0, bs0, rfl⟩
    have h0 := h.lst.1
    have c0 : w.cell? ⟨S, 0, none⟩ = some (.pointer (some ⟨b0, 0, none⟩)) := rb_cell h.top 0
    have c1 : w.cell? ⟨b0, 1, none⟩ = some (.int .i64 (R q)) := rb_cell h0 1
    have c2 : w.cell? ⟨b, 1, none⟩ = some (.int .i64 r) := rb_cell hn 1
    have hbS := h.not_nd hn
    have hb0S := h.not_nd h0
    have hbb : b ≠ b0 := fun e => hb (by simp [e])
    have HBN : Hid (b ∉ bs) := fun e => hb (by simp [e])
    have HB0 : Hid (b0 ∉ bs) := (List.nodup_cons.1 h.dis).1
    have HNS : Hid (S ∉ bs) := fun e => h.not_in (by simp [e])
    have HS := Lib.hid h
    have HN := Lib.hid hn
    have HR := Lib.hid hr
    have HIH := Lib.hid ih
    obtain ⟨rq, hrq⟩ : ∃ rq, R q = rq := ⟨_, rfl⟩
    rw [hrq] at c1
    have HQ := Lib.hid hrq
    by_cases hle : rq ≤ r
    · have hd : decide (rq ≤ r) = true := decide_eq_true hle
      have HE : Hid (insR R p (q :: ps) = p :: q :: ps) := by rw [Hid, insR, if_pos (by rw [hrq, hr]; exact hle)]
      have HBM := Lib.hid hb
      clear h hn hr hb ih hrq h0 hle
      go_enter Try.func74, Try.ntmps74
      go_wp2_with fail
      go_quiet (fail)
      have HO1 := Lib.hid (Only.drewN w nq S (b :: b0 :: bs))
      have HB1 := Lib.hid (below_drewN w.heap.size w nq)
      obtain ⟨w1, hw1⟩ : ∃ w1, w.drewN nq = w1 := ⟨_, rfl⟩
      rw [hw1] at HB1 HO1 ⊢
      have HS1 := Lib.hid (HS.out.below HB1.out)
      have HN1 : Hid (Nd w1 b p r v) := HN.out.kept (HB1.out.block b (rb_lt HN.out))
      clear hw1 c0 c1 c2
      go_wp2_with fail
      refine (push_as S b R (b0 :: bs) (q :: ps) p r v _ HS1.out HN1.out HR.out HBM.out).mono ?_
      rintro e w2 ⟨rfl, hs, ho⟩
      go_wp2
      refine bodyPost_ret (results_none rfl _ _ _) rfl ?_
      exact ⟨rfl, b :: b0 :: bs, HE.out ▸ hs, by simp, HO1.out.trans ho (fun k hk => by simp at hk; simp [hk])⟩
    · have hd : decide (rq ≤ r) = false := decide_eq_false hle
      have HE : Hid (insR R p (q :: ps) = q :: insR R p ps) := by rw [Hid, insR, if_neg (by rw [hrq, hr]; exact hle)]
      clear h hn hr hb ih hrq h0 hle
      go_enter Try.func74, Try.ntmps74
      go_wp2_with fail
      go_quiet (fail)
      have HO1 := Lib.hid (Only.drewN w nq S (b :: b0 :: bs))
      have HB1 := Lib.hid (below_drewN w.heap.size w nq)
      obtain ⟨w1, hw1⟩ : ∃ w1, w.drewN nq = w1 := ⟨_, rfl⟩
      rw [hw1] at HB1 HO1 ⊢
      have HS1 := Lib.hid (HS.out.below HB1.out)
      have HN1 : Hid (Nd w1 b p r v) := HN.out.kept (HB1.out.block b (rb_lt HN.out))
      clear hw1 c0 c1 c2
      go_wp2_with fail
      refine (pop_as S b0 R bs q ps _ HS1.out).mono ?_
      rintro e w2 ⟨rfl, hs2, hn2, -, ho2⟩
      have HS2 := Lib.hid hs2
      have HN2 : Hid (Nd w2 b p r v) := HN1.out.kept (ho2.block b hbS (by simp))
      have HM2 := Lib.hid hn2
      have HO2 := Lib.hid (HO1.out.trans ho2 (fun k hk => by simp at hk))
      clear hs2 hn2 ho2
      go_wp2_with fail
      refine (HIH.out bs b p r v _ HS2.out HN2.out HR.out HBN.out).mono ?_
      rintro e w3 ⟨rfl, bs3, hs3, hm3, ho3⟩
      have HS3 := Lib.hid hs3
      have HM3 := Lib.hid hm3
      have HN3 : Hid (Nd w3 b0 q (R q) (topV bs)) := HM2.out.kept (ho3.block b0 hb0S (by simp [HB0.out, Ne.symm hbb]))
      have HO3 := Lib.hid (HO2.out.trans ho3 (fun k hk => by simp at hk ⊢; rcases hk with e | e <;> simp [e]))
      have HNB : Hid (b0 ∉ bs3) := fun e => by
        rcases (hm3 b0).1 e with e | e
        · exact hbb e.symm
        · exact HB0.out e
      clear hs3 hm3 ho3
      go_wp2_with fail
      refine (push_as S b0 R bs3 (insR R p ps) q _ (topV bs) _ HS3.out HN3.out rfl HNB.out).mono ?_
      rintro e w4 ⟨rfl, hs4, ho4⟩
      go_wp2
      go_end0
      refine ⟨rfl, b0 :: bs3, HE.out ▸ hs4, fun k => ?_, HO3.out.trans ho4 (fun k hk => by simp at hk; simp [hk])⟩
      rw [List.mem_cons, HM3.out k, List.mem_cons]
      exact ⟨fun h => by rcases h with h | h | h <;> simp [h], fun h => by rcases h with h | h | h <;> simp [h]⟩

end Go.Proofs.Ytbcemgmfkddafaa

namespace Go.Proofs.Ytbcemgmfkddafaa
open Go.RowKit

/-- The cells of fractions. -/
def cellsF : List Fr → List Value
  | [] => []
  | p :: ps => .int .i64 p.1 :: .int .i64 p.2 :: cellsF ps
theorem cellsF_length : ∀ ps : List Fr, (cellsF ps).length = ps.length * 2
  | [] => rfl
  | p :: ps => by rw [cellsF, List.length_cons, List.length_cons, cellsF_length ps, List.length_cons]; omega
theorem cellsF_app (a b : List Fr) : cellsF (a ++ b) = cellsF a ++ cellsF b := by
  induction a with
  | nil => rfl
  | cons p a ih => rw [List.cons_append, cellsF, cellsF, ih]; rfl
theorem cellsF_one (p : Fr) : cellsF [p] = [.int .i64 p.1, .int .i64 p.2] := rfl
/-- The fraction at a place. -/
def fAt (cs : List Fr) (j : Nat) : Fr := cs[j]?.getD (0, 1)
theorem fAt_cons (p : Fr) (ps : List Fr) (j : Nat) : fAt (p :: ps) (j + 1) = fAt ps j := by simp [fAt]
theorem cellsF_num : ∀ (ps : List Fr) (j : Nat), j < ps.length → (cellsF ps)[j * 2]? = some (.int .i64 (fAt ps j).1)
  | [], j, h => by simp at h
  | p :: ps, 0, _ => rfl
  | p :: ps, j + 1, h => by
    rw [fAt_cons, cellsF, show (j + 1) * 2 = j * 2 + 1 + 1 by omega, List.getElem?_cons_succ, List.getElem?_cons_succ]
    exact cellsF_num ps j (by simpa using h)
theorem cellsF_den : ∀ (ps : List Fr) (j : Nat), j < ps.length → (cellsF ps)[j * 2 + 1]? = some (.int .i64 (fAt ps j).2)
  | [], j, h => by simp at h
  | p :: ps, 0, _ => rfl
  | p :: ps, j + 1, h => by
    rw [fAt_cons, cellsF, show (j + 1) * 2 + 1 = j * 2 + 1 + 1 + 1 by omega, List.getElem?_cons_succ, List.getElem?_cons_succ]
    exact cellsF_den ps j (by simpa using h)
theorem cellsF_set : ∀ (ps : List Fr) (k : Nat) (x y : Int), ((cellsF ps).set (k * 2) (.int .i64 x)).set (k * 2 + 1) (.int .i64 y) = cellsF (ps.set k (x, y))
  | [], k, x, y => rfl
  | p :: ps, 0, x, y => rfl
  | p :: ps, k + 1, x, y => by
    rw [cellsF, show (k + 1) * 2 = k * 2 + 1 + 1 by omega, show k * 2 + 1 + 1 + 1 = (k * 2 + 1) + 1 + 1 by omega, List.set_cons_succ, List.set_cons_succ, List.set_cons_succ, List.set_cons_succ, cellsF_set ps k x y, List.set_cons_succ, cellsF]
theorem cellsF_repl (n : Nat) : (List.replicate n [Value.int .i64 0, .int .i64 1]).flatten = cellsF (List.replicate n (0, 1)) := by
  induction n with
  | zero => rfl
  | succ n ih => rw [List.replicate_succ, List.flatten_cons, ih, List.replicate_succ, cellsF]; rfl

/-- The slice value reads as these fractions. -/
def IsFr (w : World) (a : Option Addr) (len cap : Nat) (cs : List Fr) : Prop :=
  cs.length = len ∧ len ≤ cap ∧ len ≤ 1048600 ∧ (0 < len → ∃ b off, a = some ⟨b, off, none⟩ ∧ b < w.heap.size ∧
    ∀ j, j < len → w.cell? ⟨b, off + j * 2, none⟩ = some (.int .i64 (fAt cs j).1) ∧ w.cell? ⟨b, off + j * 2 + 1, none⟩ = some (.int .i64 (fAt cs j).2))
theorem IsFr.below {w w' : World} {a : Option Addr} {len cap : Nat} {cs : List Fr} (h : IsFr w a len cap cs) (hb : Below w.heap.size w w') : IsFr w' a len cap cs := by
  obtain ⟨h1, h2, h3, h4⟩ := h
  refine ⟨h1, h2, h3, fun hl => ?_⟩
  obtain ⟨b, off, e, hlt, hc⟩ := h4 hl
  exact ⟨b, off, e, Nat.lt_of_lt_of_le hlt hb.size, fun j hj => ⟨(hb.cell (p := ⟨b, off + j * 2, none⟩) hlt).trans (hc j hj).1, (hb.cell (p := ⟨b, off + j * 2 + 1, none⟩) hlt).trans (hc j hj).2⟩⟩
theorem IsFr.at {w : World} {a : Option Addr} {len cap : Nat} {cs : List Fr} (h : IsFr w a len cap cs) {i : Nat} (hi : i < len) : ∃ b off, a = some ⟨b, off, none⟩ ∧ b < w.heap.size ∧ w.cell? ⟨b, off + i * 2, none⟩ = some (.int .i64 (fAt cs i).1) ∧ w.cell? ⟨b, off + i * 2 + 1, none⟩ = some (.int .i64 (fAt cs i).2) := by
  obtain ⟨b, off, e, hlt, hc⟩ := h.2.2.2 (by omega)
  exact ⟨b, off, e, hlt, hc i hi⟩
theorem IsFr.of_owned {w : World} {base len cap : Nat} {e : TypeId} {a : Option Addr} {cs : List Fr} (h : w.ownsRow base e 2 (.slice a len cap) len (cellsF cs)) (hl : len ≤ 1048600) : IsFr w a len cap cs := by
  have hlen : cs.length = len := by have h1 := h.1; rw [cellsF_length] at h1; omega
  rcases h.2 with ⟨e1, e0⟩ | ⟨g, c, cur, e1, hb, hg, hcap, hmax, hcur, htake⟩
  · subst e0
    have hz : cs = [] := List.length_eq_zero_iff.1 hlen
    subst hz
    exact ⟨rfl, Nat.zero_le _, hl, fun hp => by omega⟩
  · injection e1 with e1 e2 e3
    subst e1
    subst e3
    refine ⟨hlen, hcap, hl, fun hp => ⟨g, 0, rfl, (h.lt g rfl).2, fun j hj => ⟨?_, ?_⟩⟩⟩
    · rw [Nat.zero_add, h.cellAt (j * 2) (by omega)]
      exact cellsF_num cs j (by omega)
    · rw [Nat.zero_add, h.cellAt (j * 2 + 1) (by omega)]
      exact cellsF_den cs j (by omega)
/-- Two stores into a row of fractions that is owned. -/
theorem owns_setF {w : World} {base n cap g : Nat} {e : TypeId} {cs : List Fr} (h : w.ownsRow base e 2 (.slice (some ⟨g, 0, none⟩) n cap) n (cellsF cs)) (k : Nat) (x y : Int) :
    ((w.setCell ⟨g, k * 2, none⟩ (.int .i64 x)).setCell ⟨g, k * 2 + 1, none⟩ (.int .i64 y)).ownsRow base e 2 (.slice (some ⟨g, 0, none⟩) n cap) n (cellsF (cs.set k (x, y))) ∧ w.grownBy ((w.setCell ⟨g, k * 2, none⟩ (.int .i64 x)).setCell ⟨g, k * 2 + 1, none⟩ (.int .i64 y)) (some g) := by
  have h1 := h.stored (k * 2) (.int .i64 x)
  have h2 := h1.1.stored (k * 2 + 1) (.int .i64 y)
  rw [cellsF_set] at h2
  refine ⟨h2.1, ⟨rfl, rfl, rfl, by simp [World.setCell], fun j hj hne => ?_⟩⟩
  exact (h2.2.block j (by simp [World.setCell]; exact hj) hne).trans (h1.2.block j hj hne)

/-- What two stores into such a row meet. -/
theorem meets_setF {w : World} {base n cap g : Nat} {e : TypeId} {cs : List Fr} (h : w.ownsRow base e 2 (.slice (some ⟨g, 0, none⟩) n cap) n (cellsF cs)) {k : Nat} (hk : k < n) (u : Value) :
    (w.cell? ⟨g, k * 2, none⟩ = some (.int .i64 (fAt cs k).1) ∧ w.frozen? ⟨g, k * 2, none⟩ = false) ∧ (w.setCell ⟨g, k * 2, none⟩ u).cell? ⟨g, k * 2 + 1, none⟩ = some (.int .i64 (fAt cs k).2) ∧ (w.setCell ⟨g, k * 2, none⟩ u).frozen? ⟨g, k * 2 + 1, none⟩ = false := by
  have hlen : cs.length = n := by have h1 := h.1; rw [cellsF_length] at h1; omega
  refine ⟨⟨?_, h.frozenAt _⟩, ?_, ?_⟩
  · rw [h.cellAt (k * 2) (by omega)]; exact cellsF_num cs k (by omega)
  · rw [World.cell?_setCell_other _ _ _ _ (by intro e; injection e with _ e2; omega), h.cellAt (k * 2 + 1) (by omega)]; exact cellsF_den cs k (by omega)
  · rw [World.frozen?_setCell]; exact h.frozenAt _


end Go.Proofs.Ytbcemgmfkddafaa

namespace Go.Proofs.Ytbcemgmfkddafaa
open Go.RowKit

attribute [local go_sem] Oper.semAt_some

theorem mul_in {v s : Int} (hv : 0 ≤ v ∧ v ≤ 99) (hs : 0 ≤ s ∧ s ≤ 20) : 0 ≤ v * s ∧ v * s ≤ 1980 := by
  have h0 : 0 ≤ v * s := Int.mul_nonneg hv.1 hs.1
  have h1 := Int.mul_le_mul_of_nonneg_right hv.2 hs.1
  omega

set_option maxRecDepth 100000 in
set_option maxHeartbeats 2000000 in
/-- **shareOf**. -/
theorem share_as (v t s x y : Int) (w : World) (ht : 0 < t ∧ t ≤ 495) (hv : 0 ≤ v ∧ v ≤ 99) (hs : 0 ≤ s ∧ s ≤ 20) (hx : lowI v s t = x) (hy : overI v s t = y) :
    Calls Try.prog 72 #[.int .i64 v, .int .i64 t, .int .i64 s] w fun e w' => e = .returned (.agg #[.int .i64 x, .int .i64 y]) ∧ Below w.heap.size w w' := by
  have hm := mul_in hv hs
  have hlo : 0 ≤ x ∧ x ≤ 1980 := by
    rw [← hx]
    exact ⟨Int.ediv_nonneg hm.1 (by omega), Int.le_trans (Int.ediv_le_self _ hm.1) hm.2⟩
  have hov : 0 ≤ y ∧ y < t := by rw [← hy]; exact over_range ht.1
  unfold lowI at hx
  unfold overI at hy
  obtain ⟨p, hp⟩ : ∃ p, v * s = p := ⟨_, rfl⟩
  rw [hp] at hm hx hy
  have hw1 : IntKind.i64.wrap (v * s) = p := by rw [hp]; exact IntWalk.i64_in _ (by omega)
  have hz : (t == 0) = false := beq_eq_false_iff_ne.2 (by omega)
  have hd : p.tdiv t = x := by rw [← hx]; exact Int.tdiv_eq_ediv_of_nonneg (by omega)
  have hr : p.tmod t = y := by rw [← hy]; exact Int.tmod_eq_emod_of_nonneg (by omega)
  have hwx : IntKind.i64.wrap x = x := IntWalk.i64_in _ (by omega)
  have hwy : IntKind.i64.wrap y = y := IntWalk.i64_in _ (by omega)
  have T0 := Lib.hid (Two.new w 0 0 58)
  have B0 := Lib.hid ((Below.refl _ w).alloc (Nat.le_refl _) (.cells #[.int .i64 0, .int .i64 0] 58))
  clear hx hy hp hm
  go_enter Try.func72, Try.ntmps72
  go_wp2_with fail
  obtain ⟨w1, hw⟩ : ∃ w1, w.alloc (.cells #[.int .i64 0, .int .i64 0] 58) = w1 := ⟨_, rfl⟩
  rw [hw] at T0 B0 ⊢
  have T2 := Lib.hid (T0.out.below ((Below.refl _ w1).drew))
  have B2 := Lib.hid (below_on B0.out ((Below.refl _ w1).drew))
  clear T0 B0 hw
  refine region_quiet_tail 11 (by kernel_rfl) (by kernel_rfl) ?_
  simp only [List.take_succ_cons, List.take_zero, List.drop_succ_cons, List.drop_zero]
  repeat (go_big_quiet_step (fail))
  refine wpQuiet_nil ?_
  generalize w1.drew = w6 at T2 B2 ⊢
  obtain ⟨lr, r0, r9, g0, g9⟩ := T2.out
  have k0 := Two.set0 T2.out (.int .i64 x)
  have k9 := Two.set1 T2.out (.int .i64 x) (.int .i64 y)
  go_wp2
  refine bodyPost_ret (v := .agg #[.int .i64 x, .int .i64 y]) (by simp [results, Try.results72, go_sem, k0, k9]) rfl ?_
  exact ⟨rfl, below_set2 B2.out (Nat.le_refl _) _ _⟩

/-- The shares. -/
def shL (vs : List Int) (s : Int) : List Fr := (List.range vs.length).map fun (i : Nat) => (loF vs s (i : Int), ovF vs s (i : Int))
theorem shL_length (vs : List Int) (s : Int) : (shL vs s).length = vs.length := by simp [shL]
theorem shL_at {vs : List Int} {i : Nat} (s : Int) (h : i < vs.length) : fAt (shL vs s) i = (loF vs s (i : Int), ovF vs s (i : Int)) := by simp [shL, fAt, h]

theorem share_info : (Try.prog.info? 58).map (fun i => (i.zero, i.size, i.bytes)) = some (some (.agg #[.int .i64 0, .int .i64 0]), 2, 16) := by kernel_rfl
theorem zerosH_made (n : Nat) : (madeCells (Value.agg #[.int .i64 0, .int .i64 0]).cells (n * 2)).toList = cellsF (List.replicate n (0, 0)) := by
  have e : (Value.agg #[.int .i64 0, .int .i64 0]).cells = #[.int .i64 0, .int .i64 0] := by rfl
  rw [e]
  refine List.ext_getElem? (fun i => ?_)
  have hl : (cellsF (List.replicate n (0, 0))).length = n * 2 := by rw [cellsF_length, List.length_replicate]
  by_cases h : i < n * 2
  · have h2 : (cellsF (List.replicate n ((0, 0) : Fr)))[i]? = some (.int .i64 0) := by
      have hr : fAt (List.replicate n ((0, 0) : Fr)) (i / 2) = (0, 0) := by unfold fAt; simp [show i / 2 < n by omega]
      rcases Nat.mod_two_eq_zero_or_one i with g | g
      · have := cellsF_num (List.replicate n ((0, 0) : Fr)) (i / 2) (by simp; omega)
        rw [hr, show i / 2 * 2 = i by omega] at this; exact this
      · have := cellsF_den (List.replicate n ((0, 0) : Fr)) (i / 2) (by simp; omega)
        rw [hr, show i / 2 * 2 + 1 = i by omega] at this; exact this
    rw [h2]
    simp [madeCells, h]
    rcases Nat.mod_two_eq_zero_or_one i with g | g <;> simp [g]
  · rw [List.getElem?_eq_none (by rw [Array.length_toList, size_madeCells]; omega), List.getElem?_eq_none (by rw [hl]; omega)]
/-- The first i of some pairs, zeros for the others. -/
def shPart (cs : List Fr) (n i : Nat) : List Fr := (List.range n).map fun k => if k < i then fAt cs k else (0, 0)
theorem shPart_zero (cs : List Fr) (n : Nat) : shPart cs n 0 = List.replicate n (0, 0) := by
  refine List.ext_getElem (by simp [shPart]) (fun k h1 h2 => ?_)
  simp [shPart]
theorem shPart_all {cs : List Fr} {n : Nat} (h : cs.length = n) : shPart cs n n = cs := by
  refine List.ext_getElem (by simp [shPart, h]) (fun k h1 h2 => ?_)
  simp [shPart, fAt, h2, show k < n by rw [← h]; exact h2]
theorem shPart_next {cs : List Fr} {n i : Nat} (_ : i < n) : shPart cs n (i + 1) = (shPart cs n i).set i (fAt cs i) := by
  refine List.ext_getElem (by simp [shPart]) (fun k h1 h2 => ?_)
  rw [List.getElem_set]
  simp only [shPart, List.getElem_map, List.getElem_range]
  by_cases e : i = k
  · subst e; simp
  · rw [if_neg e]
    by_cases g : k < i
    · rw [if_pos (by omega), if_pos g]
    · rw [if_neg (by omega), if_neg g]

set_option maxRecDepth 100000 in
set_option maxHeartbeats 4000000 in
/-- **sharesOf**. -/
theorem shares_as (a : Option Addr) (n cap : Nat) (vs : List Int) (s : Int) (cs : List Fr) (w : World) (h : IsInts w a n cap vs) (hv : voteB vs = true) (hs : 0 ≤ s ∧ s ≤ 20) (hcs : shL vs s = cs) :
    Calls Try.prog 50 #[.slice a n cap, .int .i64 s] w fun e w' => ∃ g, e = .returned (.slice (some ⟨g, 0, none⟩) n n) ∧ w'.ownsRow w.heap.size 58 2 (.slice (some ⟨g, 0, none⟩) n n) n (cellsF cs) ∧ Below w.heap.size w w' := by
  obtain ⟨i0, hi, hz0, hz1, hz2⟩ := info_parts share_info
  obtain ⟨⟨x1, x2, x3⟩, x4⟩ := (voteB_iff vs).1 hv
  have hnv := h.1
  rw [hnv] at x1 x2 x3
  have HN := Lib.hid hnv
  obtain ⟨b, off, rfl, hb, hc⟩ := h.2.2.2 (by omega)
  have HC := Lib.hid hc
  have HI := Lib.hid h
  have HSH : Hid (∀ i : Nat, i < n → fAt cs i = (loF vs s (i : Int), ovF vs s (i : Int))) := fun i hi => by rw [← hcs]; exact shL_at s (by omega)
  have HIN : Hid (∀ i : Nat, i < n → 0 < totI vs ∧ totI vs ≤ 495 ∧ (0 ≤ vs[i]?.getD 0 ∧ vs[i]?.getD 0 ≤ 99)) := fun i hi => by
    have := share_in hv hs (z := (i : Int)) (by omega) (by omega)
    rw [seV_nat] at this
    exact ⟨this.1, this.2.1, this.2.2.1⟩
  have HLV : Hid (∀ i : Nat, loF vs s (i : Int) = lowI (vs[i]?.getD 0) s (totI vs) ∧ ovF vs s (i : Int) = overI (vs[i]?.getD 0) s (totI vs)) := fun i => by
    unfold loF ovF; rw [seV_nat]; exact ⟨rfl, rfl⟩
  have HCL : Hid (cs.length = n) := by rw [Hid, ← hcs, shL_length]; exact hnv
  obtain ⟨t, ht⟩ : ∃ t, totI vs = t := ⟨_, rfl⟩
  rw [ht] at HIN HLV
  have HT := Lib.hid ht
  have HX1 : Hid (∀ x : Nat, x < n → 0 ≤ vs[x]?.getD 0 ∧ vs[x]?.getD 0 ≤ 100000) := fun x hx => by have := toB_at x1 hx; omega
  obtain ⟨G, hG⟩ : ∃ G, w.heap.size = G := ⟨_, rfl⟩
  have HWG := Lib.hid hG
  clear h hv hc x1 x4 hnv ht hcs
  go_enter Try.func50, Try.ntmps50
  go_wp2_with fail
  refine (implSum_as _ n cap vs t _ HI.out (by omega) HX1.out HT.out).mono ?_
  rintro e w1 ⟨rfl, rfl⟩
  go_wp2_with (at_make; refine wpList_make_full _ rfl _ _ 55 rfl G 58 i0 (.agg #[.int .i64 0, .int .i64 0]) 2 Try.underlying55 hi hz0 hz1 .i64 .i64 _ _ n rfl rfl rfl rfl (by rw [hz2]; omega) (by unfold maxLen; omega) (by omega) ?_; intro w2 hown hgrow)
  have B2 : Hid (Below w.heap.size w w2) := (Below.refl _ w).grown hgrow (Nat.le_refl _) (fun k e => by cases e)
  rw [zerosH_made, ← shPart_zero cs n, hG] at hown
  have OC2 := Lib.hid hown
  clear hown hgrow
  go_wp2
  go_loopw [7, 8, 16] (fun _ _ iv wr => ∃ i : Nat, i ≤ n ∧ iv = .int .i64 (i : Int) ∧ Hid (wr.ownsRow G 58 2 (.slice (some ⟨G, 0, none⟩) n n) n (cellsF (shPart cs n i))) ∧ Hid (Below w.heap.size w wr)) (fun _ _ iv _ => n - (intOf iv).toNat)
  case atStart => exact ⟨0, Nat.zero_le _, rfl, OC2, B2⟩
  case round =>
    clear OC2 B2
    obtain ⟨i, hin, rfl, hO, hB⟩ := hrel
    by_cases hlt : i < n
    · have ci := (hB.out.cell (p := ⟨b, off + i, none⟩) hb).trans (HC.out i hlt)
      have HII := HIN.out i hlt
      have HLI := HLV.out i
      have HSI := Lib.hid (HSH.out i hlt)
      obtain ⟨z, hz⟩ : ∃ z, vs[i]?.getD 0 = z := ⟨_, rfl⟩
      rw [hz] at ci HII HLI
      obtain ⟨x, hx⟩ : ∃ x, loF vs s (i : Int) = x := ⟨_, rfl⟩
      obtain ⟨y, hy⟩ : ∃ y, ovF vs s (i : Int) = y := ⟨_, rfl⟩
      rw [hx, hy] at HLI HSI
      obtain ⟨hl1, hl2⟩ := HLI
      have L1 := Lib.hid hl1.symm
      have L2 := Lib.hid hl2.symm
      obtain ⟨q1, q2, q3⟩ := HII
      have hii : (i : Int) < (n : Int) := by omega
      clear hz hx hy hl1 hl2
      go_wp2_with fail
      refine (share_as z t s x y _ ⟨q1, q2⟩ q3 hs L1.out L2.out).mono ?_
      rintro e w3 ⟨rfl, hb3⟩
      have O3 := Lib.hid (owns_under hO.out hb3)
      have B3 := Lib.hid (below_on hB.out hb3)
      obtain ⟨⟨m0, m1⟩, m2, m3⟩ := meets_setF O3.out hlt (.int .i64 x)
      obtain ⟨O4', -⟩ := owns_setF O3.out i x y
      have O4 : Hid (((w3.setCell ⟨G, i * 2, none⟩ (.int .i64 x)).setCell ⟨G, i * 2 + 1, none⟩ (.int .i64 y)).ownsRow G 58 2 (.slice (some ⟨G, 0, none⟩) n n) n (cellsF (shPart cs n (i + 1)))) := by
        unfold Hid; rw [shPart_next hlt, HSI.out]; exact O4'
      have B4 : Hid (Below w.heap.size w ((w3.setCell ⟨G, i * 2, none⟩ (.int .i64 x)).setCell ⟨G, i * 2 + 1, none⟩ (.int .i64 y))) := (B3.out.setCell (p := ⟨G, i * 2, none⟩) (by show w.heap.size ≤ G; omega) _).setCell (p := ⟨G, i * 2 + 1, none⟩) (by show w.heap.size ≤ G; omega) _
      clear O3 B3 O4' hO hB hb3 ci
      go_wp2
      go_roundw
      case rel => exact ⟨i + 1, by omega, by go_num, O4, B4⟩
      case measure => simp [intOf]; omega
    · obtain rfl : i = n := by omega
      have hO2 := hO.out
      rw [shPart_all HCL.out] at hO2
      have OC := Lib.hid hO2
      clear hO2
      go_wp2
      go_ret
      exact ⟨G, rfl, by rw [HWG.out]; exact OC.out, hB.out⟩

end Go.Proofs.Ytbcemgmfkddafaa

namespace Go.Proofs.Ytbcemgmfkddafaa
open Go.RowKit

section
variable {P : Program} {ops : Array Oper} {l n : Nat} {Q : Exit → Act → World → Prop}

theorem uponIn_of {o : Oper} {a : Act} {K K' : Act → World → Prop} (h : ∀ a w, K a w → K' a w) (r : Result Next) (hh : o.upon P a K Q r) : o.uponIn (Fence.wide.inRound l) n P a K' Q r := by
  cases r with
  | ok x w' =>
    cases x with
    | value v => exact h _ _ hh
    | skip => exact h _ _ hh
    | defer d => exact h _ _ hh
    | enter f args => exact ⟨fun e => by simp [Fence.wide] at e, CallsIn.inRound l (callsIn_wide.2 (Calls.mono hh (fun e w'' he => by cases e <;> first | exact h _ _ he | exact he)))⟩
    | row row args => exact ⟨fun e => by simp [Fence.wide] at e, fun c cs _ => let ⟨v, w2, r, s⟩ := hh c cs; ⟨v, w2, h _ _ r, stepsIn_wide.2 s⟩⟩
    | _ => exact hh.elim
  | halt x w' =>
    cases x <;> first | exact hh | exact hh.elim
theorem wpOpIn_of {i : Nat} {a : Act} {w : World} {K K' : Act → World → Prop} (hd : ∀ (i : Nat) (o : Oper), ops[i]? = some o → ∀ c, o.op ≠ Op.defer c) (hQ : ¬ LetsOut Q) (h : ∀ a w, K a w → K' a w) (hh : wpOp P ops Q i K a w) : wpOpIn (Fence.wide.inRound l) n P ops Q i K' a w := by
  unfold wpOp at hh
  unfold wpOpIn
  cases ho : ops[i]? with
  | none => rw [ho] at hh; exact h _ _ hh
  | some o =>
    simp only [ho] at hh ⊢
    by_cases hw : Region.wanted o (yielded ops a.tmps) = true
    · rw [if_pos hw] at hh ⊢
      rcases hh with hh | ⟨_, hq⟩
      · refine ⟨fun _ _ => trivial, ?_⟩
        rw [Oper.semAt_plain _ _ _ (hd i o ho)]
        exact uponIn_of h _ hh
      · exact absurd hq hQ
    · rw [if_neg hw] at hh ⊢
      exact ⟨fun _ _ => trivial, h _ _ hh⟩
theorem wpAnyIn_of {md : Region.Mode} (hd : ∀ (i : Nat) (o : Oper), ops[i]? = some o → ∀ c, o.op ≠ Op.defer c) (hQ : ¬ LetsOut Q) : ∀ (f : Nat) (done : Array Bool) (a : Act) (w : World), wpAny P md ops Q f done a w → wpAnyIn (Fence.wide.inRound l) n P md ops Q f done a w
  | 0, _, _, _, h => h
  | f + 1, _, _, _, h => ⟨h.1, fun i hi => wpOpIn_of hd hQ (fun a' w' => wpAnyIn_of hd hQ f _ a' w') (h.2 i hi)⟩
/-- **A drawn region inside a round**: the head once, over a class of worlds; the tail in each of them. -/
theorem wpIn_region_class_tail {C : World → Prop} {id : Nat} {a : Act} {w : World} {ls : List Oper} (k : Nat) (hQ : ¬ LetsOut Q) (hd : ∀ (i : Nat) (o : Oper), ls.toArray[i]? = some o → ∀ c, o.op ≠ Op.defer c) (hm : P.follows .mixedOrders = true) (hB : Region.lexTailB .any ls.toArray k = true) (hC : C w.drew)
    (h : wpQuiet P ls.toArray C (fun a' => ∀ w', C w' → wpList P ls.toArray Q (ls.drop k) a' w') (ls.take k) a) : (Code.region id ls.toArray true).wpIn (Fence.wide.inRound l) n P Q a w := by
  simp only [Region.lexTailB, Bool.and_eq_true, decide_eq_true_eq] at hB
  obtain ⟨⟨⟨⟨hsel, hn⟩, hs⟩, hc⟩, hlex⟩ := hB
  have hnl : k < ls.length := by simpa using hn
  have htl : (ls.take k).length = k := by rw [List.length_take]; omega
  have hdl : (ls.drop k).length = ls.toArray.size - k := by simp
  have inv0 : HeadInv .any ls.toArray k (Array.replicate ls.toArray.size false) :=
    ⟨by simp, fun j oj _ hl => (by rw [getD_replicate_false] at hl; cases hl), fun t _ ht => getD_in (by simpa using ht) (getD_replicate_false _ _)⟩
  have H := headQ_lex (g := ls.toArray.size - k) hsel hs hc hn (ls.take k) 0 _ a (fun j hj => by
    rw [htl] at hj
    simp [hj]) (by rw [htl, Nat.zero_add]) inv0 (by rw [htl]; exact hlex) h
  refine wpIn_region_any hm (wpAnyIn_of hd hQ _ _ _ _ ?_)
  have := any_of_headQ (Q' := Q) (g := ls.toArray.size - k) (fun done a' w' hw' hL => by
    have := wpAny_of_seq (Q' := Q) (ls.drop k) k done a' w' (fun j => by simp) (by rw [hdl]; exact hL.1) (hL.2 w' hw')
    rw [hdl] at this
    exact this) _ _ _ w.drew hC H
  rw [htl, show k + (ls.toArray.size - k) = ls.toArray.size by simp; omega] at this
  exact this
end

end Go.Proofs.Ytbcemgmfkddafaa
