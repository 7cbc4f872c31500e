/-
  A region that draws its order, whose first operation only reads a local variable and may come late, whose last operations come in one forced order, and whose others only read or call: the first taken ahead, the others by the cheap steps of a quiet walk in one world, then the tail. No function of the seat.
  impl.ShareGap and impl.ShareSquares: contracts at all arguments. They write into no memory that was there.
  spec.ShareGap and spec.ShareSquares: contracts at all arguments. They write into no memory that was there.
-/
import Derived.Test.YtbcemgmfkddafaaGrp10
import Derived.Deep.RegionHeld3
import Derived.Test.YtbcemgmfkddafaaGrp8
import Derived.Test.YtbcemgmfkddafaaGrp9
import Derived.Test.YtbcemgmfkddafaaRemI
import Derived.Deep.AppendLies
namespace Go.Proofs.Ytbcemgmfkddafaa
open Go.RowKit

section
variable {P : Program} {ops : Array Oper} {C : World → Prop}

/-- Each operation of the head but the first is waited for. -/
def sinkX (ops : Array Oper) (n : Nat) : Bool := (List.range n).all fun i => i == 0 || (List.range (n + 1)).any fun j => decide (i < j) && Region.waitsFor .any ops j i
def tailX (ops : Array Oper) (n : Nat) : Bool :=
  Region.noSelect ops && (decide (0 < n) && (decide (n < ops.size) && (sinkX ops n && (Region.chainB .any ops n && ((Region.ready .any ops (Array.replicate ops.size false)).contains 0 && (Region.free .any ops (Array.replicate ops.size false) 0 && Region.lexHead .any ops (ops.size - n) (n - 1) 1 ((Array.replicate ops.size false).setIfInBounds 0 true)))))))

theorem late_waits {n : Nat} {done : Array Bool} (hs : sinkX ops n = true) (hc : Region.chainB .any ops n = true) (hn : n < ops.size) (inv : HeadInv .any ops n done) (h0 : done.getD 0 true = true) :
    ∀ (d i : Nat), n - i = d → i < n → done.getD i true = false → ∀ t, n ≤ t → t ∉ Region.ready .any ops done := by
  intro d
  induction d using Nat.strongRecOn with
  | _ d ih =>
    intro i hd hi hopen t ht hr
    have hi0 : i ≠ 0 := fun e => by rw [e, h0] at hopen; cases hopen
    obtain ⟨-, ot, hot, hall⟩ := mem_ready.1 hr
    have htl : t < ops.size := (Array.getElem?_eq_some_iff.1 hot).1
    rcases Nat.lt_or_ge n t with hlt | hge
    · have h1 := List.all_eq_true.1 hc t (List.mem_range.2 htl)
      rw [Bool.or_eq_true, decide_eq_true_eq] at h1
      rcases h1 with h1 | h1
      · omega
      · obtain ⟨o', ho', e, he, hb, hon⟩ := Region.waitsFor_spec h1
        obtain rfl : o' = ot := Option.some.inj (ho'.symm.trans hot)
        have h2 := hall e he hb
        rw [hon, getD_both (inv.tail (t - 1) (by omega) (by omega))] at h2
        cases h2
    · obtain rfl : t = n := by omega
      have h1 := List.all_eq_true.1 hs i (List.mem_range.2 hi)
      rw [Bool.or_eq_true, beq_iff_eq] at h1
      rcases h1 with h1 | h1
      · exact hi0 h1
      obtain ⟨j, hj, hj2⟩ := List.any_eq_true.1 h1
      rw [Bool.and_eq_true, decide_eq_true_eq] at hj2
      obtain ⟨oj, hoj, e, he, hb, hon⟩ := Region.waitsFor_spec hj2.2
      have hjle : j ≤ t := by have := List.mem_range.1 hj; omega
      cases hl : done.getD j false with
      | true =>
        have h2 := inv.closed j oj hoj hl e he hb
        rw [hon, getD_both hopen] at h2
        cases h2
      | false =>
        rcases Nat.lt_or_ge j t with hjt | hjt
        · exact ih (t - j) (by omega) j rfl hjt (getD_in (by rw [inv.size]; omega) hl) t (Nat.le_refl _) hr
        · obtain rfl : j = t := by omega
          obtain rfl : oj = ot := Option.some.inj (hoj.symm.trans hot)
          have h2 := hall e he hb
          rw [hon, getD_both hopen] at h2
          cases h2

theorem late_take {n i : Nat} {oi : Oper} {v : Value} {L : Array Bool → Act → Prop} (hi : ops[i]? = some oi) (hno : ∀ (j : Nat) (o : Oper) cs b, ops[j]? = some o → o.op ≠ .select cs b)
    (hs : sinkX ops n = true) (hc : Region.chainB .any ops n = true) (hn : n < ops.size) (hin : i < n) (hend : ∀ done a, L done a → ∀ j ∈ Region.ready .any ops done, n ≤ j) :
    ∀ (f : Nat) (done : Array Bool) (a : Act), HeadInv .any ops n done → done.getD 0 true = true →
      (∀ j oj, ops[j]? = some oj → j ≠ i → done.getD j true = false → (∀ e ∈ oj.after, Region.binds .any e = true → e.on ≠ i) → oi.apart ops oj = true) →
      i ∈ Region.ready .any ops done → YieldsIn P ops C oi v a →
      headQ P ops C n L f (done.setIfInBounds i true) (a.put oi.dst v) → headQ P ops C n L (f + 1) done a := by
  intro f
  induction f with
  | zero =>
    intro done a inv h0 _ hr hy H
    have hopen := (mem_ready.1 hr).1
    refine ⟨List.ne_nil_of_mem hr, fun j hj => ?_⟩
    have hjn : j < n := Nat.lt_of_not_le fun h => late_waits hs hc hn inv h0 _ i rfl hin hopen j h hj
    refine ⟨hjn, ?_⟩
    by_cases hji : j = i
    · rw [hji]; exact hy.qOp hi H
    · exact absurd (hend _ _ H j (ready_mono hj hji)) (by omega)
  | succ f ih =>
    intro done a inv h0 hfree hr hy H
    have hopen := (mem_ready.1 hr).1
    refine ⟨List.ne_nil_of_mem hr, fun j hj => ?_⟩
    have hjn : j < n := Nat.lt_of_not_le fun h => late_waits hs hc hn inv h0 _ i rfl hin hopen j h hj
    refine ⟨hjn, ?_⟩
    by_cases hji : j = i
    · rw [hji]; exact hy.qOp hi H
    · have hnext := (H.2 j (ready_mono hj hji)).2
      obtain ⟨hjopen, oj, hoj, hall⟩ := mem_ready.1 hj
      have hnot : ∀ e ∈ oj.after, Region.binds .any e = true → e.on ≠ i := fun e he hb heq => by
        have := hall e he hb
        rw [heq, getD_both hopen] at this
        cases this
      have hput := qOp_put hoj (hfree j oj hoj hji hjopen hnot) (fun cs b => hno i oi cs b hi) (fun cs b => hno j oj cs b hoj) hy hnext
      have hj0 : j ≠ 0 := fun e => by rw [e, h0] at hjopen; cases hjopen
      refine qOp_mono (fun a' h3 => ih (done.setIfInBounds j true) a' (inv.set hj hjn) (by rw [getD_set_ne true hj0]; exact h0) ?_ (ready_mono hr (Ne.symm hji)) h3.1 ?_) hput
      · intro k ok hk hki hkopen hkno
        refine hfree k ok hk hki ?_ hkno
        by_cases hjk : j = k
        · rw [← hjk]; exact hjopen
        · rw [getD_set_ne true hjk] at hkopen; exact hkopen
      · rw [Array.setIfInBounds_comm _ _ hji]; exact h3.2

theorem late_lex {n g : Nat} {Lq : Act → Prop} (hsel : Region.noSelect ops = true) (hs : sinkX ops n = true) (hc : Region.chainB .any ops n = true) (hn : n < ops.size) :
    ∀ (l : List Oper) (k : Nat) (done : Array Bool) (a : Act), 0 < k → (∀ j, j < l.length → l[j]? = ops[k + j]?) → k + l.length = n → HeadInv .any ops n done → done.getD 0 true = true →
    Region.lexHead .any ops g l.length k done = true → wpQuiet P ops C Lq l a →
    headQ P ops C n (fun done' a' => Region.seqB .any ops g n done' = true ∧ Lq a') l.length done a := by
  intro l
  induction l with
  | nil =>
    intro k done a _ _ hk _ _ hB h
    have e : k = n := by simpa using hk
    rw [e] at hB
    exact ⟨hB, h⟩
  | cons o l ih =>
    intro k done a hkp hl hk inv hd0 hB h
    have h0 : ops[k]? = some o := by simpa using (hl 0 (by simp)).symm
    have hlen : k + (l.length + 1) = n := by simpa using hk
    simp only [List.length_cons, Region.lexHead, Bool.and_eq_true] at hB
    have hr : k ∈ Region.ready .any ops done := by simpa using hB.1.1
    have hq : qOp P ops C k (wpQuiet P ops C Lq l) a := by unfold qOp; simp only [h0]; exact h
    obtain ⟨v, hy, hK⟩ := yieldsIn_of_qOp h0 hq
    refine late_take h0 (Region.noSelect_spec hsel) hs hc hn (by omega) (fun _ _ hL => seqB_ready hL.1) l.length done a inv hd0 (Region.free_spec h0 hB.1.2) hr hy ?_
    refine ih (k + 1) _ _ (by omega) (fun j hj => ?_) (by omega) (inv.set hr (by omega)) (by rw [getD_set_ne true (by omega)]; exact hd0) hB.2 hK
    have := hl (j + 1) (by simp; omega)
    rw [List.getElem?_cons_succ] at this
    rw [this]
    congr 1
    omega

/-- **The first ahead, the others once, then the tail.** -/
theorem region_late_tail {id : Nat} {Q : Exit → Act → World → Prop} {a : Act} {w : World} {o0 : Oper} {l : List Oper} (n : Nat) (x : Operand) (hop : o0.op = .move x) (hg : o0.guard = none) (hm : P.follows .mixedOrders = true) (hB : tailX (o0 :: l).toArray n = true)
    (h : wpQuiet P (o0 :: l).toArray (fun w' => w' = w.drew) (fun a' => wpList P (o0 :: l).toArray (NoPanic Q) ((o0 :: l).drop n) a' w.drew) (l.take (n - 1)) (a.put o0.dst (a.eval x))) : (Code.region id (o0 :: l).toArray true).wp P Q a w := by
  simp only [tailX, Bool.and_eq_true, decide_eq_true_eq] at hB
  obtain ⟨hsel, h0n, hn, hs, hc, hr0, hf0, hlex⟩ := hB
  have hnl : n < l.length + 1 := by simpa using hn
  have htl : (l.take (n - 1)).length = n - 1 := by rw [List.length_take]; omega
  have hdl : ((o0 :: l).drop n).length = (o0 :: l).toArray.size - n := by simp
  have h0 : (o0 :: l).toArray[0]? = some o0 := by simp
  have hr : 0 ∈ Region.ready .any (o0 :: l).toArray (Array.replicate (o0 :: l).toArray.size false) := by simpa using hr0
  have inv0 : HeadInv .any (o0 :: l).toArray n (Array.replicate (o0 :: l).toArray.size false) :=
    ⟨by simp, fun j oj _ hl => (by rw [getD_replicate_false] at hl; cases hl), fun t _ ht => getD_in (by simpa using ht) (getD_replicate_false _ _)⟩
  have hd0 : ((Array.replicate (o0 :: l).toArray.size false).setIfInBounds 0 true).getD 0 true = true := by simp
  have H := late_lex (g := (o0 :: l).toArray.size - n) hsel hs hc hn (l.take (n - 1)) 1 _ (a.put o0.dst (a.eval x)) Nat.one_pos (fun j hj => by
    rw [htl] at hj
    have e : (l.take (n - 1))[j]? = l[j]? := by rw [List.getElem?_take]; simp [hj]
    rw [e]
    have e2 : (o0 :: l).toArray[1 + j]? = (o0 :: l)[1 + j]? := by simp
    rw [e2, Nat.add_comm 1 j, List.getElem?_cons_succ]) (by rw [htl]; omega) (inv0.set hr h0n) hd0 (by rw [htl]; exact hlex) h
  refine wp_region_noPanic (wp_region_any hm ?_)
  have hany := any_of_headQ (C := fun w' => w' = w.drew) (L := fun done' a' => Region.seqB .any (o0 :: l).toArray ((o0 :: l).toArray.size - n) n done' = true ∧ wpList P (o0 :: l).toArray (NoPanic Q) ((o0 :: l).drop n) a' w.drew) (Q' := NoPanic Q) (g := (o0 :: l).toArray.size - n) (fun done a' w' hw' hL => by
    have hw' : w' = w.drew := hw'
    subst hw'
    have := wpAny_of_seq (Q' := NoPanic Q) ((o0 :: l).drop n) n done a' w.drew (fun j => by simp) (by rw [hdl]; exact hL.1) hL.2
    rw [hdl] at this
    exact this) _ _ _ w.drew rfl H
  rw [htl, show n - 1 + ((o0 :: l).toArray.size - n) = (o0 :: l).toArray.size - 1 by omega] at hany
  have hsz : (o0 :: l).toArray.size = ((o0 :: l).toArray.size - 1) + 1 := by omega
  have hy : Yields P (o0 :: l).toArray o0 (a.eval x) a := .inl ⟨by unfold Region.wanted; rw [hg], fun w' => by unfold execOp; rw [hop]; rfl⟩
  have hfin := wpAny_take (fuel := (o0 :: l).toArray.size - 1) h0 hsel hf0 hr0 (fun c a w h => h) hy hany
  rw [← hsz] at hfin
  exact hfin
end

end Go.Proofs.Ytbcemgmfkddafaa

namespace Go.Proofs.Ytbcemgmfkddafaa
open Go.RowKit

attribute [local go_sem] Oper.semAt_some

theorem dif_info : (Try.prog.info? 49).map (fun i => (i.zero, i.size, i.bytes)) = some (some (.int .i64 0), 1, 8) := by kernel_rfl

set_option maxHeartbeats 1000000 in
/-- **size**. -/
theorem size_as (d v : Int) (w : World) (hd : -9900 ≤ d ∧ d ≤ 9900) (hv : absI d = v) :
    Calls Try.prog 39 #[.int .i64 d] w fun e w' => e = .returned (.int .i64 v) ∧ w = w' := by
  have hc := absI_cases d
  rw [hv] at hc
  have hw : IntKind.i64.wrap (-d) = -d := IntWalk.i64_in _ (by omega)
  have hw0 : IntKind.i64.wrap (0 - d) = 0 - d := IntWalk.i64_in _ (by omega)
  clear hv
  by_cases h : d < -d
  · have e : v = -d := by omega
    subst e
    clear hc
    go_enter Try.func39, Try.ntmps39
    go_wp2
    go_ret
    exact ⟨by first | rfl | (exact ret_int (by omega)), rfl⟩
  · have e : v = d := by omega
    subst e
    clear hc
    go_enter Try.func39, Try.ntmps39
    go_wp2
    go_ret
    exact ⟨by first | rfl | (exact ret_int (by omega)), rfl⟩

set_option maxHeartbeats 1000000 in
/-- **square**. -/
theorem square_as (d v : Int) (w : World) (hd : -9900 ≤ d ∧ d ≤ 9900) (hv : d * d = v) :
    Calls Try.prog 43 #[.int .i64 d] w fun e w' => e = .returned (.int .i64 v) ∧ w = w' := by
  have hs := sq_in hd
  have hw : IntKind.i64.wrap (d * d) = d * d := IntWalk.i64_in _ (by omega)
  subst hv
  clear hs
  go_enter Try.func43, Try.ntmps43
  go_wp2
  go_ret
  exact ⟨by first | rfl | (exact ret_int (by omega)), rfl⟩

theorem gapL_bound {ds : List Int} {n : Nat} (h : ∀ x : Nat, x < n → -9900 ≤ ds[x]?.getD 0 ∧ ds[x]?.getD 0 ≤ 9900) : ∀ k, k ≤ n → k ≤ ds.length → 0 ≤ gapL (ds.take k) ∧ gapL (ds.take k) ≤ 9900 * (k : Int)
  | 0, _, _ => by simp [gapL, totI_nil]
  | k + 1, h1, h2 => by
    have ih := gapL_bound h k (by omega) (by omega)
    have hd := abs_in (h k (by omega))
    rw [gap_take (by omega)]
    omega
set_option maxHeartbeats 2000000 in
/-- **sum**, of what is told by size. -/
theorem sumGap_as (a : Option Addr) (len cap : Nat) (ds : List Int) (s : Int) (w : World) (h : IsInts w a len cap ds) (hl : len ≤ 5) (hb : ∀ x : Nat, x < len → -9900 ≤ ds[x]?.getD 0 ∧ ds[x]?.getD 0 ≤ 9900) (hs : gapL ds = s) :
    Calls Try.prog 68 #[.slice a len cap, .func (.func 39) #[] #[]] w fun e w' => e = .returned (.int .i64 s) ∧ w = w' := by
  obtain ⟨h1, h2, h3, h4⟩ := h
  have H1 := Lib.hid h1
  have H4 := Lib.hid h4
  have HB := Lib.hid hb
  have HS := Lib.hid hs
  clear h1 h4 hb hs
  go_enter Try.func68, Try.ntmps68
  go_wp2
  go_loop [5, 7, 10] (fun nv _ iv => ∃ (i : Nat) (t : Int), i ≤ len ∧ iv = .int .i64 (i : Int) ∧ nv = .int .i64 t ∧ Hid (gapL (ds.take i) = t)) (fun _ _ iv => len - (intOf iv).toNat)
  case atStart => exact ⟨0, 0, Nat.zero_le _, rfl, rfl, by unfold Hid; simp [gapL, totI_nil]⟩
  case round =>
    obtain ⟨i, t, hil, rfl, rfl, hT⟩ := hrel
    by_cases hlt : i < len
    · obtain ⟨b, off, rfl, hb, hc⟩ := H4.out (by omega)
      have ci := hc i hlt
      have htb := gapL_bound HB.out i (by omega) (by rw [H1.out]; omega)
      rw [hT.out] at htb
      have hzb := HB.out i hlt
      have HT2 : Hid (gapL (ds.take (i + 1)) = t + absI (ds[i]?.getD 0)) := by rw [Hid, gap_take (by rw [H1.out]; exact hlt), hT.out]
      obtain ⟨z, hz⟩ : ∃ z, ds[i]?.getD 0 = z := ⟨_, rfl⟩
      rw [hz] at ci hzb HT2
      obtain ⟨u, hu⟩ : ∃ u, absI z = u := ⟨_, rfl⟩
      have hub := abs_in hzb
      rw [hu] at HT2 hub
      have HU := Lib.hid hu
      clear hc hz hu
      go_wp2_with fail
      refine (size_as z u _ hzb HU.out).mono ?_
      rintro e w1 ⟨rfl, rfl⟩
      go_wp2
      go_round
      case rel => exact ⟨i + 1, t + u, by omega, by go_num, rfl, HT2⟩
      case measure => simp [intOf]; omega
    · obtain rfl : i = len := by omega
      have HE : Hid (t = s) := by rw [Hid, ← HS.out, ← hT.out, List.take_of_length_le (by rw [H1.out]; exact Nat.le_refl _)]
      go_wp2
      go_ret
      exact ⟨ret_int HE.out, rfl⟩

theorem sqL_bound {ds : List Int} {n : Nat} (h : ∀ x : Nat, x < n → -9900 ≤ ds[x]?.getD 0 ∧ ds[x]?.getD 0 ≤ 9900) : ∀ k, k ≤ n → k ≤ ds.length → 0 ≤ sqL (ds.take k) ∧ sqL (ds.take k) ≤ 98010000 * (k : Int)
  | 0, _, _ => by simp [sqL, totI_nil]
  | k + 1, h1, h2 => by
    have ih := sqL_bound h k (by omega) (by omega)
    have hd := sq_in (h k (by omega))
    rw [sq_take (by omega)]
    omega
set_option maxHeartbeats 2000000 in
/-- **sum**, of what is told by square. -/
theorem sumSq_as (a : Option Addr) (len cap : Nat) (ds : List Int) (s : Int) (w : World) (h : IsInts w a len cap ds) (hl : len ≤ 5) (hb : ∀ x : Nat, x < len → -9900 ≤ ds[x]?.getD 0 ∧ ds[x]?.getD 0 ≤ 9900) (hs : sqL ds = s) :
    Calls Try.prog 68 #[.slice a len cap, .func (.func 43) #[] #[]] w fun e w' => e = .returned (.int .i64 s) ∧ w = w' := by
  obtain ⟨h1, h2, h3, h4⟩ := h
  have H1 := Lib.hid h1
  have H4 := Lib.hid h4
  have HB := Lib.hid hb
  have HS := Lib.hid hs
  clear h1 h4 hb hs
  go_enter Try.func68, Try.ntmps68
  go_wp2
  go_loop [5, 7, 10] (fun nv _ iv => ∃ (i : Nat) (t : Int), i ≤ len ∧ iv = .int .i64 (i : Int) ∧ nv = .int .i64 t ∧ Hid (sqL (ds.take i) = t)) (fun _ _ iv => len - (intOf iv).toNat)
  case atStart => exact ⟨0, 0, Nat.zero_le _, rfl, rfl, by unfold Hid; simp [sqL, totI_nil]⟩
  case round =>
    obtain ⟨i, t, hil, rfl, rfl, hT⟩ := hrel
    by_cases hlt : i < len
    · obtain ⟨b, off, rfl, hb, hc⟩ := H4.out (by omega)
      have ci := hc i hlt
      have htb := sqL_bound HB.out i (by omega) (by rw [H1.out]; omega)
      rw [hT.out] at htb
      have hzb := HB.out i hlt
      have HT2 : Hid (sqL (ds.take (i + 1)) = t + (ds[i]?.getD 0) * (ds[i]?.getD 0)) := by rw [Hid, sq_take (by rw [H1.out]; exact hlt), hT.out]
      obtain ⟨z, hz⟩ : ∃ z, ds[i]?.getD 0 = z := ⟨_, rfl⟩
      rw [hz] at ci hzb HT2
      obtain ⟨u, hu⟩ : ∃ u, z * z = u := ⟨_, rfl⟩
      have hub := sq_in hzb
      rw [hu] at HT2 hub
      have HU := Lib.hid hu
      clear hc hz hu
      go_wp2_with fail
      refine (square_as z u _ hzb HU.out).mono ?_
      rintro e w1 ⟨rfl, rfl⟩
      go_wp2
      go_round
      case rel => exact ⟨i + 1, t + u, by omega, by go_num, rfl, HT2⟩
      case measure => simp [intOf]; omega
    · obtain rfl : i = len := by omega
      have HE : Hid (t = s) := by rw [Hid, ← HS.out, ← hT.out, List.take_of_length_le (by rw [H1.out]; exact Nat.le_refl _)]
      go_wp2
      go_ret
      exact ⟨ret_int HE.out, rfl⟩

set_option maxRecDepth 100000 in
set_option maxHeartbeats 4000000 in
/-- **differencesOf**, at valid arguments: a row of the call's own. -/
theorem difs_as (a : Option Addr) (n cap : Nat) (vs : List Int) (a' : Option Addr) (cap' : Nat) (gs : List Int) (w : World) (h : IsInts w a n cap vs) (h' : IsInts w a' n cap' gs) (hk : okG vs gs = true) :
    Calls Try.prog 67 #[.slice a n cap, .slice a' n cap'] w fun e w' => ∃ g, e = .returned (.slice (some ⟨g, 0, none⟩) n n) ∧ w'.ownsRow w.heap.size 49 1 (.slice (some ⟨g, 0, none⟩) n n) n ((dfL vs gs).map (Value.int .i64)) ∧ Below w.heap.size w w' := by
  obtain ⟨i0, hi, hz0, hz1, hz2⟩ := info_parts dif_info
  obtain ⟨v1, v2, v3, g1, g2, g3⟩ := okG_parts hk
  have hnv := h.1
  rw [hnv] at v1 v2 g1 g2
  have HI := Lib.hid h
  have HJ := Lib.hid h'
  have HNV := Lib.hid hnv
  have HK := Lib.hid hk
  have HX1 : Hid (∀ x : Nat, x < n → 0 ≤ vs[x]?.getD 0 ∧ vs[x]?.getD 0 ≤ 100000) := fun x hx => by have := toB_at v1 hx; omega
  have HX2 : Hid (∀ x : Nat, x < n → 0 ≤ gs[x]?.getD 0 ∧ gs[x]?.getD 0 ≤ 100000) := fun x hx => by have := toB_at g1 hx; omega
  obtain ⟨T, hT⟩ : ∃ T, totI vs = T := ⟨_, rfl⟩
  obtain ⟨S, hS⟩ : ∃ S, totI gs = S := ⟨_, rfl⟩
  have HT := Lib.hid hT
  have HS := Lib.hid hS
  have HD : Hid (∀ i : Nat, i < n → (0 ≤ vs[i]?.getD 0 * S ∧ vs[i]?.getD 0 * S ≤ 1980) ∧ (0 ≤ gs[i]?.getD 0 * T ∧ gs[i]?.getD 0 * T ≤ 9900) ∧ vs[i]?.getD 0 * S - gs[i]?.getD 0 * T = (dfL vs gs)[i]?.getD 0) := fun i hi => by
    have := dfF_in HK.out (i := i) (by rw [HNV.out]; exact hi)
    rw [HS.out, HT.out] at this
    refine ⟨this.1, this.2.1, ?_⟩
    rw [dfL_at gs (by rw [HNV.out]; exact hi)]
    unfold dfF
    rw [HS.out, HT.out]
  obtain ⟨G, hG⟩ : ∃ G, w.heap.size = G := ⟨_, rfl⟩
  have HG := Lib.hid hG
  have hGw : G ≤ w.heap.size := by omega
  obtain ⟨b, off, rfl, hb, hc⟩ := h.2.2.2 (by omega)
  obtain ⟨b', off', rfl, hb', hc'⟩ := h'.2.2.2 (by omega)
  have HC := Lib.hid hc
  have HC' := Lib.hid hc'
  clear h h' hk hnv v1 g1 g2 hT hS hc hc'
  go_enter Try.func67, Try.ntmps67
  go_wp2_with fail
  refine (implSum_as _ n cap vs T _ HI.out (by omega) HX1.out HT.out).mono ?_
  rintro e w1 ⟨rfl, rfl⟩
  go_wp2_with fail
  refine (implSum_as _ n cap' gs S _ HJ.out (by omega) HX2.out HS.out).mono ?_
  rintro e w1 ⟨rfl, rfl⟩
  go_wp2_with (at_make; refine wpList_make_full _ rfl _ _ 75 rfl G 49 i0 (.int .i64 0) 1 Try.underlying75 hi hz0 hz1 .i64 .i64 _ _ n rfl rfl rfl rfl (by rw [hz2]; omega) (by unfold maxLen; omega) hGw ?_; intro w3 hown hgrow)
  have HB3 : Hid (Below G w w3) := ((Below.refl _ w).grown hgrow (by omega) (fun k e => by cases e))
  rw [hG] at hown
  have O3 : Hid (w3.ownsRow G 49 1 (.slice (some ⟨G, 0, none⟩) n n) n ((inPart (dfL vs gs) n 0).map (Value.int .i64))) := by
    unfold Hid; rw [inPart_zero, ← zeros_made]; exact hown
  clear hown hgrow
  go_wp2
  go_loopw [8, 9, 19] (fun _ _ iv wr => ∃ (i : Nat), i ≤ n ∧ iv = .int .i64 (i : Int) ∧ Hid (wr.ownsRow G 49 1 (.slice (some ⟨G, 0, none⟩) n n) n ((inPart (dfL vs gs) n i).map (Value.int .i64))) ∧ Hid (Below G w wr)) (fun _ _ iv _ => n - (intOf iv).toNat)
  case atStart => exact ⟨0, Nat.zero_le _, rfl, O3, HB3⟩
  case round =>
    clear O3 HB3
    obtain ⟨i, hin, rfl, hO, hB⟩ := hrel
    by_cases hlt : i < n
    · have ci := (hB.out.cell (p := ⟨b, off + i, none⟩) (by show b < G; omega)).trans (HC.out i hlt)
      have ci' := (hB.out.cell (p := ⟨b', off' + i, none⟩) (by show b' < G; omega)).trans (HC'.out i hlt)
      obtain ⟨d1, d2, d3⟩ := HD.out i hlt
      obtain ⟨x, hx⟩ : ∃ x, (dfL vs gs)[i]?.getD 0 = x := ⟨_, rfl⟩
      obtain ⟨z, hz⟩ : ∃ z, vs[i]?.getD 0 = z := ⟨_, rfl⟩
      obtain ⟨y, hy⟩ : ∃ y, gs[i]?.getD 0 = y := ⟨_, rfl⟩
      rw [hx, hz, hy] at d3
      rw [hz] at ci d1
      rw [hy] at ci' d2
      have HXX := Lib.hid hx
      obtain ⟨p, hp⟩ : ∃ p, z * S = p := ⟨_, rfl⟩
      obtain ⟨q, hq⟩ : ∃ q, y * T = q := ⟨_, rfl⟩
      rw [hp] at d1 d3
      rw [hq] at d2 d3
      have hw1 : IntKind.i64.wrap (z * S) = p := by rw [hp]; exact IntWalk.i64_in _ (by omega)
      have hw2 : IntKind.i64.wrap (y * T) = q := by rw [hq]; exact IntWalk.i64_in _ (by omega)
      have hw3 : IntKind.i64.wrap (p - q) = x := by rw [d3]; exact IntWalk.i64_in _ (by omega)
      have hii : (i : Int) < (n : Int) := by omega
      have hgw : G < wr.heap.size := (hO.out.lt G rfl).2
      have c0 : wr.cell? ⟨G, i, none⟩ = some (.int .i64 0) := by rw [hO.out.cellAt i (by omega)]; simp [inPart, hlt]
      have f0 : wr.frozen? ⟨G, i, none⟩ = false := hO.out.frozenAt i
      have HST := Lib.hid (hO.out.stored i (.int .i64 x))
      have hgG : G ≤ G := by omega
      have O4 : Hid ((wr.setCell ⟨G, i, none⟩ (.int .i64 x)).ownsRow G 49 1 (.slice (some ⟨G, 0, none⟩) n n) n ((inPart (dfL vs gs) n (i + 1)).map (Value.int .i64))) := by
        unfold Hid; rw [inPart_next hlt, HXX.out, ← map_set_int]; exact HST.out.1
      have B4 : Hid (Below G w (wr.setCell ⟨G, i, none⟩ (.int .i64 x))) := hB.out.setCell (p := ⟨G, i, none⟩) hgG _
      clear hx hz hy hp hq d3 HST hO hB
      go_wp2
      go_roundw
      case rel => exact ⟨i + 1, by omega, by go_num, O4, B4⟩
      case measure => simp [intOf]; omega
    · obtain rfl : i = n := by omega
      have O6 := hO.out
      rw [inPart_all (by rw [dfL_length]; exact HNV.out)] at O6
      have O6 := Lib.hid O6
      clear hO
      go_wp2
      go_ret
      refine ⟨G, rfl, ?_, ?_⟩
      · rw [HG.out]; exact O6.out
      · rw [HG.out]; exact hB.out

set_option maxHeartbeats 2000000 in
/-- **sumOfDifferences**, told by size. -/
theorem sodGap_as (a : Option Addr) (n cap : Nat) (vs : List Int) (a' : Option Addr) (n' cap' : Nat) (gs : List Int) (v : Int) (w : World) (h : IsInts w a n cap vs) (h' : IsInts w a' n' cap' gs) (hv : gapR vs gs = v) :
    Calls Try.prog 38 #[.slice a n cap, .slice a' n' cap', .func (.func 39) #[] #[]] w fun e w' => e = .returned (.int .i64 v) ∧ Below w.heap.size w w' := by
  have HI := Lib.hid h
  have HJ := Lib.hid h'
  cases hk : okG vs gs
  · have hv1 : v = -1 := by rw [← hv, gapR, if_neg (by rw [hk]; decide)]
    subst hv1
    clear hv
    cases h1 : voteB vs
    · have V1 := Lib.hid h1
      clear h h' hk h1
      go_enter Try.func38, Try.ntmps38
      go_wp2_with fail
      refine (votes_as _ n cap vs false _ HI.out V1.out).mono ?_
      rintro e w1 ⟨rfl, rfl⟩
      go_wp2
      go_ret
      exact ⟨rfl, Below.refl _ _⟩
    · have hn := ((voteB_iff vs).1 h1).1
      rw [h.1] at hn
      have h2 : giveB gs n = false := by
        have := hk
        unfold okG at this
        rw [h1, h.1, Bool.true_and] at this
        exact this
      have V1 := Lib.hid h1
      have V2 := Lib.hid h2
      clear h h' hk h1 h2
      go_enter Try.func38, Try.ntmps38
      go_wp2_with fail
      refine (votes_as _ n cap vs true _ HI.out V1.out).mono ?_
      rintro e w1 ⟨rfl, rfl⟩
      go_wp2_with fail
      refine (given_as _ n' cap' gs n false _ HJ.out ⟨by omega, by omega⟩ V2.out).mono ?_
      rintro e w1 ⟨rfl, rfl⟩
      go_wp2
      go_ret
      exact ⟨rfl, Below.refl _ _⟩
  · obtain ⟨h1, h2⟩ := (okG_iff _ _).1 hk
    obtain ⟨-, hn5, -, -, hgl, -⟩ := okG_parts hk
    rw [h.1] at h2 hn5 hgl
    have hnn : n' = n := by rw [← h'.1]; exact hgl
    subst hnn
    have hv1 : gapL (dfL vs gs) = v := by rw [← hv, gapR, if_pos hk]
    have HV := Lib.hid hv1
    have V1 := Lib.hid h1
    have V2 := Lib.hid h2
    have HK := Lib.hid hk
    have HDL : Hid ((dfL vs gs).length = n') := by rw [Hid, dfL_length]; exact h.1
    have HDB : Hid (∀ x : Nat, x < n' → -9900 ≤ (dfL vs gs)[x]?.getD 0 ∧ (dfL vs gs)[x]?.getD 0 ≤ 9900) := fun x hx => by
      rw [dfL_at gs (by rw [HI.out.1]; exact hx)]
      exact (dfF_in HK.out (by rw [HI.out.1]; exact hx)).2.2
    clear h h' hv hk h1 h2 hgl hv1
    go_enter Try.func38, Try.ntmps38
    go_wp2_with fail
    refine (votes_as _ n' cap vs true _ HI.out V1.out).mono ?_
    rintro e w1 ⟨rfl, rfl⟩
    go_wp2_with fail
    refine (given_as _ n' cap' gs n' true _ HJ.out ⟨by omega, by omega⟩ V2.out).mono ?_
    rintro e w1 ⟨rfl, rfl⟩
    go_wp2_with fail
    refine (difs_as _ n' cap vs _ cap' gs _ HI.out HJ.out HK.out).mono ?_
    rintro e w2 ⟨g, rfl, ho, hb⟩
    have hlt := (ho.lt g rfl).2
    have ID : Hid (IsInts w2 (some ⟨g, 0, none⟩) n' n' (dfL vs gs)) := ⟨HDL.out, Nat.le_refl _, by omega, fun _ => ⟨g, 0, rfl, hlt, fun i hi => by rw [Nat.zero_add, ho.cellAt i (by simp; omega)]; simp [HDL.out, hi]⟩⟩
    have B2 := Lib.hid hb
    clear ho hb hlt
    go_wp2_with fail
    refine (sumGap_as _ n' n' (dfL vs gs) v _ ID.out (by omega) HDB.out HV.out).mono ?_
    rintro e w3 ⟨rfl, rfl⟩
    go_wp2
    go_ret
    exact ⟨rfl, B2.out⟩

set_option maxHeartbeats 2000000 in
/-- **sumOfDifferences**, told by square. -/
theorem sodSq_as (a : Option Addr) (n cap : Nat) (vs : List Int) (a' : Option Addr) (n' cap' : Nat) (gs : List Int) (v : Int) (w : World) (h : IsInts w a n cap vs) (h' : IsInts w a' n' cap' gs) (hv : sqR vs gs = v) :
    Calls Try.prog 38 #[.slice a n cap, .slice a' n' cap', .func (.func 43) #[] #[]] w fun e w' => e = .returned (.int .i64 v) ∧ Below w.heap.size w w' := by
  have HI := Lib.hid h
  have HJ := Lib.hid h'
  cases hk : okG vs gs
  · have hv1 : v = -1 := by rw [← hv, sqR, if_neg (by rw [hk]; decide)]
    subst hv1
    clear hv
    cases h1 : voteB vs
    · have V1 := Lib.hid h1
      clear h h' hk h1
      go_enter Try.func38, Try.ntmps38
      go_wp2_with fail
      refine (votes_as _ n cap vs false _ HI.out V1.out).mono ?_
      rintro e w1 ⟨rfl, rfl⟩
      go_wp2
      go_ret
      exact ⟨rfl, Below.refl _ _⟩
    · have hn := ((voteB_iff vs).1 h1).1
      rw [h.1] at hn
      have h2 : giveB gs n = false := by
        have := hk
        unfold okG at this
        rw [h1, h.1, Bool.true_and] at this
        exact this
      have V1 := Lib.hid h1
      have V2 := Lib.hid h2
      clear h h' hk h1 h2
      go_enter Try.func38, Try.ntmps38
      go_wp2_with fail
      refine (votes_as _ n cap vs true _ HI.out V1.out).mono ?_
      rintro e w1 ⟨rfl, rfl⟩
      go_wp2_with fail
      refine (given_as _ n' cap' gs n false _ HJ.out ⟨by omega, by omega⟩ V2.out).mono ?_
      rintro e w1 ⟨rfl, rfl⟩
      go_wp2
      go_ret
      exact ⟨rfl, Below.refl _ _⟩
  · obtain ⟨h1, h2⟩ := (okG_iff _ _).1 hk
    obtain ⟨-, hn5, -, -, hgl, -⟩ := okG_parts hk
    rw [h.1] at h2 hn5 hgl
    have hnn : n' = n := by rw [← h'.1]; exact hgl
    subst hnn
    have hv1 : sqL (dfL vs gs) = v := by rw [← hv, sqR, if_pos hk]
    have HV := Lib.hid hv1
    have V1 := Lib.hid h1
    have V2 := Lib.hid h2
    have HK := Lib.hid hk
    have HDL : Hid ((dfL vs gs).length = n') := by rw [Hid, dfL_length]; exact h.1
    have HDB : Hid (∀ x : Nat, x < n' → -9900 ≤ (dfL vs gs)[x]?.getD 0 ∧ (dfL vs gs)[x]?.getD 0 ≤ 9900) := fun x hx => by
      rw [dfL_at gs (by rw [HI.out.1]; exact hx)]
      exact (dfF_in HK.out (by rw [HI.out.1]; exact hx)).2.2
    clear h h' hv hk h1 h2 hgl hv1
    go_enter Try.func38, Try.ntmps38
    go_wp2_with fail
    refine (votes_as _ n' cap vs true _ HI.out V1.out).mono ?_
    rintro e w1 ⟨rfl, rfl⟩
    go_wp2_with fail
    refine (given_as _ n' cap' gs n' true _ HJ.out ⟨by omega, by omega⟩ V2.out).mono ?_
    rintro e w1 ⟨rfl, rfl⟩
    go_wp2_with fail
    refine (difs_as _ n' cap vs _ cap' gs _ HI.out HJ.out HK.out).mono ?_
    rintro e w2 ⟨g, rfl, ho, hb⟩
    have hlt := (ho.lt g rfl).2
    have ID : Hid (IsInts w2 (some ⟨g, 0, none⟩) n' n' (dfL vs gs)) := ⟨HDL.out, Nat.le_refl _, by omega, fun _ => ⟨g, 0, rfl, hlt, fun i hi => by rw [Nat.zero_add, ho.cellAt i (by simp; omega)]; simp [HDL.out, hi]⟩⟩
    have B2 := Lib.hid hb
    clear ho hb hlt
    go_wp2_with fail
    refine (sumSq_as _ n' n' (dfL vs gs) v _ ID.out (by omega) HDB.out HV.out).mono ?_
    rintro e w3 ⟨rfl, rfl⟩
    go_wp2
    go_ret
    exact ⟨rfl, B2.out⟩

set_option maxHeartbeats 2000000 in
/-- **impl.ShareGap**. -/
theorem implGap_as (a : Option Addr) (n cap : Nat) (vs : List Int) (a' : Option Addr) (n' cap' : Nat) (gs : List Int) (v : Int) (w : World) (h : IsInts w a n cap vs) (h' : IsInts w a' n' cap' gs) (hv : gapR vs gs = v) :
    Calls Try.prog 16 #[.slice a n cap, .slice a' n' cap'] w fun e w' => e = .returned (.int .i64 v) ∧ Below w.heap.size w w' := by
  have HI := Lib.hid h
  have HJ := Lib.hid h'
  have HV := Lib.hid hv
  clear h h' hv
  go_enter Try.func16, Try.ntmps16
  go_wp2_with fail
  refine (sodGap_as _ n cap vs _ n' cap' gs v _ HI.out HJ.out HV.out).mono ?_
  rintro e w1 ⟨rfl, hb⟩
  go_wp2
  go_ret
  exact ⟨rfl, hb⟩

set_option maxHeartbeats 2000000 in
/-- **impl.ShareSquares**. -/
theorem implSq_as (a : Option Addr) (n cap : Nat) (vs : List Int) (a' : Option Addr) (n' cap' : Nat) (gs : List Int) (v : Int) (w : World) (h : IsInts w a n cap vs) (h' : IsInts w a' n' cap' gs) (hv : sqR vs gs = v) :
    Calls Try.prog 20 #[.slice a n cap, .slice a' n' cap'] w fun e w' => e = .returned (.int .i64 v) ∧ Below w.heap.size w w' := by
  have HI := Lib.hid h
  have HJ := Lib.hid h'
  have HV := Lib.hid hv
  clear h h' hv
  go_enter Try.func20, Try.ntmps20
  go_wp2_with fail
  refine (sodSq_as _ n cap vs _ n' cap' gs v _ HI.out HJ.out HV.out).mono ?_
  rintro e w1 ⟨rfl, hb⟩
  go_wp2
  go_ret
  exact ⟨rfl, hb⟩

end Go.Proofs.Ytbcemgmfkddafaa

namespace Go.Proofs.Ytbcemgmfkddafaa
open Go.RowKit

attribute [local go_sem] Oper.semAt_some

set_option maxRecDepth 100000 in
set_option maxHeartbeats 8000000 in
/-- **l23Diffs**, at valid arguments: a row of the call's own. -/
theorem diffs_as (a : Option Addr) (n cap : Nat) (vs : List Int) (a' : Option Addr) (cap' : Nat) (gs : List Int) (w : World) (h : IsInts w a n cap vs) (h' : IsInts w a' n cap' gs) (hk : okG vs gs = true) :
    Calls Try.prog 42 #[.slice a n cap, .slice a' n cap'] w fun e w' => ∃ g c, e = .returned (.slice (some ⟨g, 0, none⟩) n c) ∧ w'.ownsRow w.heap.size 3 1 (.slice (some ⟨g, 0, none⟩) n c) n ((dfL vs gs).map (Value.int .i64)) ∧ Below w.heap.size w w' := by
  obtain ⟨i0, hi, hz0, hz1, hz2⟩ := info_parts int_info
  obtain ⟨v1, v2, v3, g1, g2, g3⟩ := okG_parts hk
  have hnv := h.1
  rw [hnv] at v1 v2 g1 g2
  have HI := Lib.hid h
  have HJ := Lib.hid h'
  have HNV := Lib.hid hnv
  have HK := Lib.hid hk
  have HX1 : Hid (∀ x : Nat, x < n → 0 ≤ vs[x]?.getD 0 ∧ vs[x]?.getD 0 ≤ 100000) := fun x hx => by have := toB_at v1 hx; omega
  have HX2 : Hid (∀ x : Nat, x < n → 0 ≤ gs[x]?.getD 0 ∧ gs[x]?.getD 0 ≤ 100000) := fun x hx => by have := toB_at g1 hx; omega
  obtain ⟨T, hT⟩ : ∃ T, totI vs = T := ⟨_, rfl⟩
  obtain ⟨S, hS⟩ : ∃ S, totI gs = S := ⟨_, rfl⟩
  have HT := Lib.hid hT
  have HS := Lib.hid hS
  have HD : Hid (∀ i : Nat, i < n → (0 ≤ vs[i]?.getD 0 * S ∧ vs[i]?.getD 0 * S ≤ 1980) ∧ (0 ≤ gs[i]?.getD 0 * T ∧ gs[i]?.getD 0 * T ≤ 9900) ∧ vs[i]?.getD 0 * S - gs[i]?.getD 0 * T = (dfL vs gs)[i]?.getD 0) := fun i hi => by
    have := dfF_in HK.out (i := i) (by rw [HNV.out]; exact hi)
    rw [HS.out, HT.out] at this
    refine ⟨this.1, this.2.1, ?_⟩
    rw [dfL_at gs (by rw [HNV.out]; exact hi)]
    unfold dfF
    rw [HS.out, HT.out]
  obtain ⟨G, hG⟩ : ∃ G, w.heap.size = G := ⟨_, rfl⟩
  have HG := Lib.hid hG
  have E1 := Lib.hid (World.ownsRow_lit (base := G) (e := 3) (size := 1) w #[] 0 (by omega) (by unfold maxLen; omega) rfl)
  rw [hG] at E1
  have B1 : Hid (Below G w (w.alloc (.cells #[] 3))) := (Below.refl _ w).alloc (by omega) _
  obtain ⟨b, off, rfl, hb, hc⟩ := h.2.2.2 (by omega)
  obtain ⟨b', off', rfl, hb', hc'⟩ := h'.2.2.2 (by omega)
  have HC := Lib.hid hc
  have HC' := Lib.hid hc'
  clear h h' hk hnv v1 g1 g2 hT hS hc hc'
  go_enter Try.func42, Try.ntmps42
  go_wp2
  go_loopw [5, 6] (fun ov iv wr => ∃ (k g c : Nat), k ≤ n ∧ iv = .int .i64 (k : Int) ∧ ov = .slice (some ⟨g, 0, none⟩) k c ∧ Hid (wr.ownsRow G 3 1 (.slice (some ⟨g, 0, none⟩) k c) k (((dfL vs gs).take k).map (Value.int .i64))) ∧ Hid (Below G w wr)) (fun _ iv _ => n - (intOf iv).toNat)
  case atStart => exact ⟨0, _, _, Nat.zero_le _, rfl, rfl, E1, B1⟩
  case round =>
    clear E1 B1
    obtain ⟨k, g, c, hkn, rfl, rfl, hO, hB⟩ := hrel
    have hBw : Below w.heap.size w wr.drew := HG.out.symm ▸ hB.out.drew
    by_cases hlt : k < n
    · have ck : wr.cell? ⟨b, off + k, none⟩ = _ := (hB.out.cell (p := ⟨b, off + k, none⟩) (by show b < G; omega)).trans (HC.out k hlt)
      have ck' : wr.cell? ⟨b', off' + k, none⟩ = _ := (hB.out.cell (p := ⟨b', off' + k, none⟩) (by show b' < G; omega)).trans (HC'.out k hlt)
      obtain ⟨d1, d2, d3⟩ := HD.out k hlt
      have HLN : Hid ((dfL vs gs).take (k + 1) = (dfL vs gs).take k ++ [(dfL vs gs)[k]?.getD 0]) := take_next (by rw [dfL_length, HNV.out]; exact hlt)
      obtain ⟨x, hx⟩ : ∃ x, (dfL vs gs)[k]?.getD 0 = x := ⟨_, rfl⟩
      obtain ⟨z, hz⟩ : ∃ z, vs[k]?.getD 0 = z := ⟨_, rfl⟩
      obtain ⟨y, hy⟩ : ∃ y, gs[k]?.getD 0 = y := ⟨_, rfl⟩
      rw [hx] at HLN
      rw [hx, hz, hy] at d3
      rw [hz] at ck d1
      rw [hy] at ck' d2
      obtain ⟨p, hp⟩ : ∃ p, z * S = p := ⟨_, rfl⟩
      obtain ⟨q, hq⟩ : ∃ q, y * T = q := ⟨_, rfl⟩
      rw [hp] at d1 d3
      rw [hq] at d2 d3
      have hw1 : IntKind.i64.wrap (z * S) = p := by rw [hp]; exact IntWalk.i64_in _ (by omega)
      have hw2 : IntKind.i64.wrap (y * T) = q := by rw [hq]; exact IntWalk.i64_in _ (by omega)
      have hw3 : IntKind.i64.wrap (p - q) = x := by rw [d3]; exact IntWalk.i64_in _ (by omega)
      have hki : (k : Int) < (n : Int) := by omega
      have IG := HJ.out.below hBw
      have IV := HI.out.below hBw
      have HC1 := Lib.hid ((sum22_as _ n cap' gs S _ IG (by omega) HX2.out HS.out).mono (R' := fun e w' => e = .returned (.int .i64 S) ∧ w' = wr.drew) (by rintro e w5 ⟨rfl, rfl⟩; exact ⟨rfl, rfl⟩))
      have HC2 := Lib.hid ((sum22_as _ n cap vs T _ IV (by omega) HX1.out HT.out).mono (R' := fun e w' => e = .returned (.int .i64 T) ∧ w' = wr.drew) (by rintro e w5 ⟨rfl, rfl⟩; exact ⟨rfl, rfl⟩))
      have O2 : Hid (wr.drew.ownsRow G 3 1 (.slice (some ⟨g, 0, none⟩) k c) k (((dfL vs gs).take k).map (Value.int .i64))) := hO.out.drew
      have B2 : Hid (Below G w wr.drew) := hB.out.drew
      clear hx hz hy hp hq d3 IG IV hBw hO hB
      go_wp2_with fail
      refine region_late_tail 16 _ (by rfl) (by rfl) (by kernel_rfl) (by kernel_rfl) ?_
      simp only [Nat.reduceSub, List.take_succ_cons, List.take_zero, List.drop_succ_cons, List.drop_zero]
      go_simp
      iterate 5 (go_big_quiet_step (fail))
      go_big_quiet_want
      go_big_quiet_op
      refine ⟨_, HC1.out, ?_⟩
      go_big_quiet_on
      iterate 6 (go_big_quiet_step (fail))
      go_big_quiet_want
      go_big_quiet_op
      refine ⟨_, HC2.out, ?_⟩
      go_big_quiet_on
      iterate 2 (go_big_quiet_step (fail))
      refine wpQuiet_nil ?_
      clear ck ck' HC1 HC2
      generalize wr.drew = w6 at O2 B2 ⊢
      have hsw : G ≤ w6.heap.size := by have := B2.out.size; omega
      go_wp2_with (at_builtin; refine wpList_append_lies _ rfl _ _ 23 rfl G 3 i0 (.int .i64 0) 1 8 Try.underlying23 hi hz0 hz1 hz2 rfl (by decide) _ _ _ rfl (O2.out.alloc _) ⟨w6.heap.size, 0, none⟩ 1 1 [.int .i64 x] rfl rfl (cell_one_new _ _ _) (by simp [Value.oneCell']) Nat.one_pos (by unfold maxLen; omega) (by omega) (by simp; omega) _ rfl ?_; intro g4 c4 w4 hown hgrow hat hg4)
      have hgG : G ≤ g := (O2.out.lt g rfl).1
      have B4 : Hid (Below G w w4) := (B2.out.alloc hsw _).grown hgrow (by simp; omega) (fun j e => by have e : some g = some j := e; injection e with e; omega)
      have O4 : Hid (w4.ownsRow G 3 1 (.slice (some ⟨g4, 0, none⟩) (k + 1) c4) (k + 1) (((dfL vs gs).take (k + 1)).map (Value.int .i64))) := by
        unfold Hid; rw [HLN.out, List.map_append]; exact hown
      clear hown hgrow hat O2 B2
      refine NoPanic.normal ?_
      go_wp2
      go_roundw
      case rel => exact ⟨k + 1, g4, c4, by omega, by go_num, rfl, O4, B4⟩
      case measure => simp [intOf]; omega
    · obtain rfl : k = n := by omega
      have O6 : Hid (wr.ownsRow G 3 1 (.slice (some ⟨g, 0, none⟩) k c) k ((dfL vs gs).map (Value.int .i64))) := by
        have := hO.out
        rw [List.take_of_length_le (by rw [dfL_length, HNV.out]; exact Nat.le_refl _)] at this
        exact this
      clear hO hBw
      go_wp2
      go_ret
      refine ⟨g, c, rfl, ?_, ?_⟩
      · rw [HG.out]; exact O6.out
      · rw [HG.out]; exact hB.out

theorem dfL_have {vs gs : List Int} {n : Nat} (hk : okG vs gs = true) (hn : vs.length = n) : (dfL vs gs).length = n ∧ (∀ x : Nat, x < n → -9900 ≤ (dfL vs gs)[x]?.getD 0 ∧ (dfL vs gs)[x]?.getD 0 ≤ 9900) := by
  refine ⟨by rw [dfL_length]; exact hn, fun x hx => ?_⟩
  rw [dfL_at gs (by omega)]
  exact (dfF_in hk (by omega)).2.2

set_option maxRecDepth 100000 in
set_option maxHeartbeats 4000000 in
/-- **spec.ShareGap**. -/
theorem specGap_as (a : Option Addr) (n cap : Nat) (vs : List Int) (a' : Option Addr) (n' cap' : Nat) (gs : List Int) (v : Int) (w : World) (h : IsInts w a n cap vs) (h' : IsInts w a' n' cap' gs) (hv : gapR vs gs = v) :
    Calls Try.prog 17 #[.slice a n cap, .slice a' n' cap'] w fun e w' => e = .returned (.int .i64 v) ∧ Below w.heap.size w w' := by
  have HI := Lib.hid h
  have HJ := Lib.hid h'
  cases hk : okG vs gs
  · have hv1 : v = -1 := by rw [← hv, gapR, if_neg (by rw [hk]; decide)]
    subst hv1
    clear hv
    cases h1 : voteB vs
    · have V1 := Lib.hid h1
      clear h h' hk h1
      go_enter Try.func17, Try.ntmps17
      go_wp2_with fail
      refine (specVotes_as _ n cap vs false _ HI.out V1.out).mono ?_
      rintro e w1 ⟨rfl, rfl⟩
      go_wp2
      go_ret
      exact ⟨rfl, Below.refl _ _⟩
    · have hn := ((voteB_iff vs).1 h1).1
      rw [h.1] at hn
      have h2 : giveB gs n = false := by
        have := hk
        unfold okG at this
        rw [h1, h.1, Bool.true_and] at this
        exact this
      have V1 := Lib.hid h1
      have V2 := Lib.hid h2
      clear h h' hk h1 h2
      go_enter Try.func17, Try.ntmps17
      go_wp2_with fail
      refine (specVotes_as _ n cap vs true _ HI.out V1.out).mono ?_
      rintro e w1 ⟨rfl, rfl⟩
      go_wp2_with fail
      refine (specGiven_as _ n' cap' gs n false _ HJ.out (by omega) V2.out).mono ?_
      rintro e w1 ⟨rfl, rfl⟩
      go_wp2
      go_ret
      exact ⟨rfl, Below.refl _ _⟩
  · obtain ⟨h1, h2⟩ := (okG_iff _ _).1 hk
    obtain ⟨-, hn5, -, -, hgl, -⟩ := okG_parts hk
    rw [h.1] at h2 hn5 hgl
    have hnn : n' = n := by rw [← h'.1]; exact hgl
    subst hnn
    have hv1 : gapL (dfL vs gs) = v := by rw [← hv, gapR, if_pos hk]
    have HV := Lib.hid hv1
    have V1 := Lib.hid h1
    have V2 := Lib.hid h2
    have HK := Lib.hid hk
    obtain ⟨hdl, hdb⟩ := dfL_have hk h.1
    have HDL := Lib.hid hdl
    have HDB := Lib.hid hdb
    have HNV := Lib.hid h.1
    clear h h' hv hk h1 h2 hgl hv1 hdl hdb
    go_enter Try.func17, Try.ntmps17
    go_wp2_with fail
    refine (specVotes_as _ n' cap vs true _ HI.out V1.out).mono ?_
    rintro e w1 ⟨rfl, rfl⟩
    go_wp2_with fail
    refine (specGiven_as _ n' cap' gs n' true _ HJ.out (by omega) V2.out).mono ?_
    rintro e w1 ⟨rfl, rfl⟩
    go_wp2_with fail
    refine (diffs_as _ n' cap vs _ cap' gs _ HI.out HJ.out HK.out).mono ?_
    rintro e w2 ⟨g, c, rfl, ho, hb⟩
    have hgl := (ho.lt g rfl).2
    have HCL : Hid (∀ i, i < n' → w2.cell? ⟨g, i, none⟩ = some (.int .i64 ((dfL vs gs)[i]?.getD 0))) := fun i hi => owns_int ho HDL.out hi rfl
    have B2 := Lib.hid hb
    clear ho hb
    go_wp2
    go_loopw [6, 7] (fun sv iv wr => ∃ (i : Nat) (t : Int), i ≤ n' ∧ iv = .int .i64 (i : Int) ∧ sv = .int .i64 t ∧ Hid (gapL ((dfL vs gs).take i) = t) ∧ Hid (Dr w2 wr)) (fun _ iv _ => n' - (intOf iv).toNat)
    case atStart => exact ⟨0, 0, Nat.zero_le _, rfl, rfl, by simp [Hid, gapL, totI_nil], Dr.refl _⟩
    case round =>
      obtain ⟨i, t, hil, rfl, rfl, hT, hD⟩ := hrel
      by_cases hlt : i < n'
      · have ci := ((hD.out.below w2.heap.size).cell (p := ⟨g, i, none⟩) hgl).trans (HCL.out i hlt)
        have hii : (i : Int) < (n' : Int) := by omega
        have hzb := HDB.out i hlt
        have htb := gap_in HK.out i (by rw [HNV.out]; omega)
        rw [hT.out] at htb
        have HT2 : Hid (gapL ((dfL vs gs).take (i + 1)) = t + absI ((dfL vs gs)[i]?.getD 0)) := by rw [Hid, gap_take (by rw [HDL.out]; exact hlt), hT.out]
        obtain ⟨z, hz⟩ : ∃ z, (dfL vs gs)[i]?.getD 0 = z := ⟨_, rfl⟩
        rw [hz] at ci hzb HT2
        have hc := absI_cases z
        have hw0 : IntKind.i64.wrap (0 - z) = 0 - z := IntWalk.i64_in _ (by omega)
        clear hz
        by_cases hs : z < 0 - z
        · have HT3 : Hid (gapL ((dfL vs gs).take (i + 1)) = t + (0 - z)) := by rw [Hid, HT2.out]; omega
          have hw1 : IntKind.i64.wrap (t + (0 - z)) = t + (0 - z) := IntWalk.i64_in _ (by omega)
          clear HT2 hc
          go_wp2_with fail
          go_quiet (fail)
          go_wp2
          go_roundw
          case rel => exact ⟨i + 1, t + (0 - z), by omega, by go_num, by first | rfl | (congr 1; omega), HT3, hD.out.drewN _⟩
          case measure => simp [intOf]; omega
        · have HT3 : Hid (gapL ((dfL vs gs).take (i + 1)) = t + z) := by rw [Hid, HT2.out]; omega
          have hw1 : IntKind.i64.wrap (t + z) = t + z := IntWalk.i64_in _ (by omega)
          clear HT2 hc
          go_wp2_with fail
          go_quiet (fail)
          go_wp2
          go_roundw
          case rel => exact ⟨i + 1, t + z, by omega, by go_num, by first | rfl | (congr 1; omega), HT3, hD.out.drewN _⟩
          case measure => simp [intOf]; omega
      · obtain rfl : i = n' := by omega
        have HE : Hid (t = v) := by rw [Hid, ← HV.out, ← hT.out, List.take_of_length_le (by rw [HDL.out]; exact Nat.le_refl _)]
        go_wp2
        go_ret
        exact ⟨ret_int HE.out, B2.out.trans (hD.out.below _ |>.mono B2.out.size)⟩

set_option maxRecDepth 100000 in
set_option maxHeartbeats 4000000 in
/-- **spec.ShareSquares**. -/
theorem specSq_as (a : Option Addr) (n cap : Nat) (vs : List Int) (a' : Option Addr) (n' cap' : Nat) (gs : List Int) (v : Int) (w : World) (h : IsInts w a n cap vs) (h' : IsInts w a' n' cap' gs) (hv : sqR vs gs = v) :
    Calls Try.prog 21 #[.slice a n cap, .slice a' n' cap'] w fun e w' => e = .returned (.int .i64 v) ∧ Below w.heap.size w w' := by
  have HI := Lib.hid h
  have HJ := Lib.hid h'
  cases hk : okG vs gs
  · have hv1 : v = -1 := by rw [← hv, sqR, if_neg (by rw [hk]; decide)]
    subst hv1
    clear hv
    cases h1 : voteB vs
    · have V1 := Lib.hid h1
      clear h h' hk h1
      go_enter Try.func21, Try.ntmps21
      go_wp2_with fail
      refine (specVotes_as _ n cap vs false _ HI.out V1.out).mono ?_
      rintro e w1 ⟨rfl, rfl⟩
      go_wp2
      go_ret
      exact ⟨rfl, Below.refl _ _⟩
    · have hn := ((voteB_iff vs).1 h1).1
      rw [h.1] at hn
      have h2 : giveB gs n = false := by
        have := hk
        unfold okG at this
        rw [h1, h.1, Bool.true_and] at this
        exact this
      have V1 := Lib.hid h1
      have V2 := Lib.hid h2
      clear h h' hk h1 h2
      go_enter Try.func21, Try.ntmps21
      go_wp2_with fail
      refine (specVotes_as _ n cap vs true _ HI.out V1.out).mono ?_
      rintro e w1 ⟨rfl, rfl⟩
      go_wp2_with fail
      refine (specGiven_as _ n' cap' gs n false _ HJ.out (by omega) V2.out).mono ?_
      rintro e w1 ⟨rfl, rfl⟩
      go_wp2
      go_ret
      exact ⟨rfl, Below.refl _ _⟩
  · obtain ⟨h1, h2⟩ := (okG_iff _ _).1 hk
    obtain ⟨-, hn5, -, -, hgl, -⟩ := okG_parts hk
    rw [h.1] at h2 hn5 hgl
    have hnn : n' = n := by rw [← h'.1]; exact hgl
    subst hnn
    have hv1 : sqL (dfL vs gs) = v := by rw [← hv, sqR, if_pos hk]
    have HV := Lib.hid hv1
    have V1 := Lib.hid h1
    have V2 := Lib.hid h2
    have HK := Lib.hid hk
    obtain ⟨hdl, hdb⟩ := dfL_have hk h.1
    have HDL := Lib.hid hdl
    have HDB := Lib.hid hdb
    have HNV := Lib.hid h.1
    clear h h' hv hk h1 h2 hgl hv1 hdl hdb
    go_enter Try.func21, Try.ntmps21
    go_wp2_with fail
    refine (specVotes_as _ n' cap vs true _ HI.out V1.out).mono ?_
    rintro e w1 ⟨rfl, rfl⟩
    go_wp2_with fail
    refine (specGiven_as _ n' cap' gs n' true _ HJ.out (by omega) V2.out).mono ?_
    rintro e w1 ⟨rfl, rfl⟩
    go_wp2_with fail
    refine (diffs_as _ n' cap vs _ cap' gs _ HI.out HJ.out HK.out).mono ?_
    rintro e w2 ⟨g, c, rfl, ho, hb⟩
    have hgl := (ho.lt g rfl).2
    have HCL : Hid (∀ i, i < n' → w2.cell? ⟨g, i, none⟩ = some (.int .i64 ((dfL vs gs)[i]?.getD 0))) := fun i hi => owns_int ho HDL.out hi rfl
    have B2 := Lib.hid hb
    clear ho hb
    go_wp2
    go_loopw [6, 7] (fun sv iv wr => ∃ (i : Nat) (t : Int), i ≤ n' ∧ iv = .int .i64 (i : Int) ∧ sv = .int .i64 t ∧ Hid (sqL ((dfL vs gs).take i) = t) ∧ Hid (Dr w2 wr)) (fun _ iv _ => n' - (intOf iv).toNat)
    case atStart => exact ⟨0, 0, Nat.zero_le _, rfl, rfl, by simp [Hid, sqL, totI_nil], Dr.refl _⟩
    case round =>
      obtain ⟨i, t, hil, rfl, rfl, hT, hD⟩ := hrel
      by_cases hlt : i < n'
      · have ci := ((hD.out.below w2.heap.size).cell (p := ⟨g, i, none⟩) hgl).trans (HCL.out i hlt)
        have hii : (i : Int) < (n' : Int) := by omega
        have hzb := HDB.out i hlt
        have htb := sqs_in HK.out i (by rw [HNV.out]; omega)
        rw [hT.out] at htb
        have HT2 : Hid (sqL ((dfL vs gs).take (i + 1)) = t + ((dfL vs gs)[i]?.getD 0) * ((dfL vs gs)[i]?.getD 0)) := by rw [Hid, sq_take (by rw [HDL.out]; exact hlt), hT.out]
        obtain ⟨z, hz⟩ : ∃ z, (dfL vs gs)[i]?.getD 0 = z := ⟨_, rfl⟩
        rw [hz] at ci hzb HT2
        have hub := sq_in hzb
        obtain ⟨u, hu⟩ : ∃ u, z * z = u := ⟨_, rfl⟩
        rw [hu] at HT2 hub
        have hw0 : IntKind.i64.wrap (z * z) = u := by rw [hu]; exact IntWalk.i64_in _ (by omega)
        have hw1 : IntKind.i64.wrap (t + u) = t + u := IntWalk.i64_in _ (by omega)
        have HT3 := HT2
        clear hu HT2
        clear hz
        go_wp2_with fail
        go_quiet (fail)
        go_wp2
        go_roundw
        case rel => exact ⟨i + 1, t + u, by omega, by go_num, by first | rfl | (congr 1; omega), HT3, hD.out.drewN _⟩
        case measure => simp [intOf]; omega
      · obtain rfl : i = n' := by omega
        have HE : Hid (t = v) := by rw [Hid, ← HV.out, ← hT.out, List.take_of_length_le (by rw [HDL.out]; exact Nat.le_refl _)]
        go_wp2
        go_ret
        exact ⟨ret_int HE.out, B2.out.trans (hD.out.below _ |>.mono B2.out.size)⟩

end Go.Proofs.Ytbcemgmfkddafaa
