/-
  impl's shares (shareOf, roundedUp, sharesOf): contracts. They write into no memory that was there.
  impl's stack of remainders in memory: push, pop and insert: contracts. They write into the stack's own blocks alone.
-/
import Derived.Test.YtmbhcgdapglbgaaGrp4
import Derived.Test.YtmbhcgdapglbgaaGrp8
namespace Go.Proofs.Ytmbhcgdapglbgaa
open Go.RowKit

attribute [local go_sem] Oper.semAt_some

theorem mul_in {v s : Int} (hv : 0 ≤ v ∧ v ≤ 99) (hs : 0 ≤ s ∧ s ≤ 20) : 0 ≤ v * s ∧ v * s ≤ 1980 := by
  have h0 : 0 ≤ v * s := Int.mul_nonneg hv.1 hs.1
  have h1 := Int.mul_le_mul_of_nonneg_right hv.2 hs.1
  omega

set_option maxRecDepth 100000 in
set_option maxHeartbeats 2000000 in
/-- **shareOf**. -/
theorem share_as (v t s x y : Int) (w : World) (ht : 0 < t ∧ t ≤ 495) (hv : 0 ≤ v ∧ v ≤ 99) (hs : 0 ≤ s ∧ s ≤ 20) (hx : lowI v s t = x) (hy : overI v s t = y) :
    Calls Try.prog 49 #[.int .i64 v, .int .i64 t, .int .i64 s] w fun e w' => e = .returned (.agg #[.int .i64 x, .int .i64 y]) ∧ Below w.heap.size w w' := by
  have hm := mul_in hv hs
  have hlo : 0 ≤ x ∧ x ≤ 1980 := by
    rw [← hx]
    exact ⟨Int.ediv_nonneg hm.1 (by omega), Int.le_trans (Int.ediv_le_self _ hm.1) hm.2⟩
  have hov : 0 ≤ y ∧ y < t := by rw [← hy]; exact over_range ht.1
  unfold lowI at hx
  unfold overI at hy
  obtain ⟨p, hp⟩ : ∃ p, v * s = p := ⟨_, rfl⟩
  rw [hp] at hm hx hy
  have hw1 : IntKind.i64.wrap (v * s) = p := by rw [hp]; exact IntWalk.i64_in _ (by omega)
  have hz : (t == 0) = false := beq_eq_false_iff_ne.2 (by omega)
  have hd : p.tdiv t = x := by rw [← hx]; exact Int.tdiv_eq_ediv_of_nonneg (by omega)
  have hr : p.tmod t = y := by rw [← hy]; exact Int.tmod_eq_emod_of_nonneg (by omega)
  have hwx : IntKind.i64.wrap x = x := IntWalk.i64_in _ (by omega)
  have hwy : IntKind.i64.wrap y = y := IntWalk.i64_in _ (by omega)
  have T0 := Lib.hid (Two.new w 0 0 51)
  have B0 := Lib.hid ((Below.refl _ w).alloc (Nat.le_refl _) (.cells #[.int .i64 0, .int .i64 0] 51))
  clear hx hy hp hm
  go_enter Try.func49, Try.ntmps49
  go_wp2_with fail
  obtain ⟨w1, hw⟩ : ∃ w1, w.alloc (.cells #[.int .i64 0, .int .i64 0] 51) = w1 := ⟨_, rfl⟩
  rw [hw] at T0 B0 ⊢
  have T2 := Lib.hid (T0.out.below ((Below.refl _ w1).drew))
  have B2 := Lib.hid (below_on B0.out ((Below.refl _ w1).drew))
  clear T0 B0 hw
  refine region_quiet_tail 11 (by kernel_rfl) (by kernel_rfl) ?_
  simp only [List.take_succ_cons, List.take_zero, List.drop_succ_cons, List.drop_zero]
  repeat (go_big_quiet_step (fail))
  refine wpQuiet_nil ?_
  generalize w1.drew = w6 at T2 B2 ⊢
  obtain ⟨lr, r0, r9, g0, g9⟩ := T2.out
  have k0 := Two.set0 T2.out (.int .i64 x)
  have k9 := Two.set1 T2.out (.int .i64 x) (.int .i64 y)
  go_wp2
  refine bodyPost_ret (v := .agg #[.int .i64 x, .int .i64 y]) (by simp [results, Try.results49, go_sem, k0, k9]) rfl ?_
  exact ⟨rfl, below_set2 B2.out (Nat.le_refl _) _ _⟩

set_option maxHeartbeats 1000000 in
/-- **roundedUp**. -/
theorem round_as (x y r : Int) (w : World) (hx : 0 ≤ x ∧ x ≤ 1980) (hr : (if y = 0 then x else x + 1) = r) :
    Calls Try.prog 48 #[.agg #[.int .i64 x, .int .i64 y]] w fun e w' => e = .returned (.int .i64 r) ∧ Below w.heap.size w w' := by
  have B0 := Lib.hid ((Below.refl _ w).alloc (Nat.le_refl _) (.cells #[.int .i64 x, .int .i64 y] 51))
  cases hy : (y == 0)
  · have HR : Hid (r = x + 1) := by rw [Hid, ← hr, if_neg (by simpa using hy)]
    clear hr
    go_enter Try.func48, Try.ntmps48
    go_wp2
    go_ret
    exact ⟨ret_int HR.out.symm, B0.out⟩
  · have HR : Hid (r = x) := by rw [Hid, ← hr, if_pos (by simpa using hy)]
    have hy0 : y = 0 := by simpa using hy
    subst hy0
    clear hr
    go_enter Try.func48, Try.ntmps48
    go_wp2
    go_ret
    exact ⟨ret_int HR.out.symm, B0.out⟩

/-- The shares. -/
def shL (vs : List Int) (s : Int) : List Fr := (List.range vs.length).map fun (i : Nat) => (loF vs s (i : Int), ovF vs s (i : Int))
theorem shL_length (vs : List Int) (s : Int) : (shL vs s).length = vs.length := by simp [shL]
theorem shL_at {vs : List Int} {i : Nat} (s : Int) (h : i < vs.length) : fAt (shL vs s) i = (loF vs s (i : Int), ovF vs s (i : Int)) := by simp [shL, fAt, h]

theorem share_info : (Try.prog.info? 51).map (fun i => (i.zero, i.size, i.bytes)) = some (some (.agg #[.int .i64 0, .int .i64 0]), 2, 16) := by kernel_rfl
theorem zerosH_made (n : Nat) : (madeCells (Value.agg #[.int .i64 0, .int .i64 0]).cells (n * 2)).toList = cellsF (List.replicate n (0, 0)) := by
  have e : (Value.agg #[.int .i64 0, .int .i64 0]).cells = #[.int .i64 0, .int .i64 0] := by rfl
  rw [e]
  refine List.ext_getElem? (fun i => ?_)
  have hl : (cellsF (List.replicate n (0, 0))).length = n * 2 := by rw [cellsF_length, List.length_replicate]
  by_cases h : i < n * 2
  · have h2 : (cellsF (List.replicate n ((0, 0) : Fr)))[i]? = some (.int .i64 0) := by
      have hr : fAt (List.replicate n ((0, 0) : Fr)) (i / 2) = (0, 0) := by unfold fAt; simp [show i / 2 < n by omega]
      rcases Nat.mod_two_eq_zero_or_one i with g | g
      · have := cellsF_num (List.replicate n ((0, 0) : Fr)) (i / 2) (by simp; omega)
        rw [hr, show i / 2 * 2 = i by omega] at this; exact this
      · have := cellsF_den (List.replicate n ((0, 0) : Fr)) (i / 2) (by simp; omega)
        rw [hr, show i / 2 * 2 + 1 = i by omega] at this; exact this
    rw [h2]
    simp [madeCells, h]
    rcases Nat.mod_two_eq_zero_or_one i with g | g <;> simp [g]
  · rw [List.getElem?_eq_none (by rw [Array.length_toList, size_madeCells]; omega), List.getElem?_eq_none (by rw [hl]; omega)]
/-- The first i of some pairs, zeros for the others. -/
def shPart (cs : List Fr) (n i : Nat) : List Fr := (List.range n).map fun k => if k < i then fAt cs k else (0, 0)
theorem shPart_zero (cs : List Fr) (n : Nat) : shPart cs n 0 = List.replicate n (0, 0) := by
  refine List.ext_getElem (by simp [shPart]) (fun k h1 h2 => ?_)
  simp [shPart]
theorem shPart_all {cs : List Fr} {n : Nat} (h : cs.length = n) : shPart cs n n = cs := by
  refine List.ext_getElem (by simp [shPart, h]) (fun k h1 h2 => ?_)
  simp [shPart, fAt, h2, show k < n by rw [← h]; exact h2]
theorem shPart_next {cs : List Fr} {n i : Nat} (_ : i < n) : shPart cs n (i + 1) = (shPart cs n i).set i (fAt cs i) := by
  refine List.ext_getElem (by simp [shPart]) (fun k h1 h2 => ?_)
  rw [List.getElem_set]
  simp only [shPart, List.getElem_map, List.getElem_range]
  by_cases e : i = k
  · subst e; simp
  · rw [if_neg e]
    by_cases g : k < i
    · rw [if_pos (by omega), if_pos g]
    · rw [if_neg (by omega), if_neg g]

set_option maxRecDepth 100000 in
set_option maxHeartbeats 4000000 in
/-- **sharesOf**. -/
theorem shares_as (a : Option Addr) (n cap : Nat) (vs : List Int) (s : Int) (cs : List Fr) (w : World) (h : IsInts w a n cap vs) (hv : voteB vs = true) (hs : 0 ≤ s ∧ s ≤ 20) (hcs : shL vs s = cs) :
    Calls Try.prog 36 #[.slice a n cap, .int .i64 s] w fun e w' => ∃ g, e = .returned (.slice (some ⟨g, 0, none⟩) n n) ∧ w'.ownsRow w.heap.size 51 2 (.slice (some ⟨g, 0, none⟩) n n) n (cellsF cs) ∧ Below w.heap.size w w' := by
  obtain ⟨i0, hi, hz0, hz1, hz2⟩ := info_parts share_info
  obtain ⟨⟨x1, x2, x3⟩, x4⟩ := (voteB_iff vs).1 hv
  have hnv := h.1
  rw [hnv] at x1 x2 x3
  have HN := Lib.hid hnv
  obtain ⟨b, off, rfl, hb, hc⟩ := h.2.2.2 (by omega)
  have HC := Lib.hid hc
  have HI := Lib.hid h
  have HSH : Hid (∀ i : Nat, i < n → fAt cs i = (loF vs s (i : Int), ovF vs s (i : Int))) := fun i hi => by rw [← hcs]; exact shL_at s (by omega)
  have HIN : Hid (∀ i : Nat, i < n → 0 < totI vs ∧ totI vs ≤ 495 ∧ (0 ≤ vs[i]?.getD 0 ∧ vs[i]?.getD 0 ≤ 99)) := fun i hi => by
    have := share_in hv hs (z := (i : Int)) (by omega) (by omega)
    rw [seV_nat] at this
    exact ⟨this.1, this.2.1, this.2.2.1⟩
  have HLV : Hid (∀ i : Nat, loF vs s (i : Int) = lowI (vs[i]?.getD 0) s (totI vs) ∧ ovF vs s (i : Int) = overI (vs[i]?.getD 0) s (totI vs)) := fun i => by
    unfold loF ovF; rw [seV_nat]; exact ⟨rfl, rfl⟩
  have HCL : Hid (cs.length = n) := by rw [Hid, ← hcs, shL_length]; exact hnv
  obtain ⟨t, ht⟩ : ∃ t, totI vs = t := ⟨_, rfl⟩
  rw [ht] at HIN HLV
  have HT := Lib.hid ht
  have HX1 : Hid (∀ x : Nat, x < n → 0 ≤ vs[x]?.getD 0 ∧ vs[x]?.getD 0 ≤ 100000) := fun x hx => by have := toB_at x1 hx; omega
  obtain ⟨G, hG⟩ : ∃ G, w.heap.size = G := ⟨_, rfl⟩
  have HWG := Lib.hid hG
  clear h hv hc x1 x4 hnv ht hcs
  go_enter Try.func36, Try.ntmps36
  go_wp2_with fail
  refine (implSum_as _ n cap vs t _ HI.out (by omega) HX1.out HT.out).mono ?_
  rintro e w1 ⟨rfl, rfl⟩
  go_wp2_with (at_make; refine wpList_make_full _ rfl _ _ 48 rfl G 51 i0 (.agg #[.int .i64 0, .int .i64 0]) 2 Try.underlying48 hi hz0 hz1 .i64 .i64 _ _ n rfl rfl rfl rfl (by rw [hz2]; omega) (by unfold maxLen; omega) (by omega) ?_; intro w2 hown hgrow)
  have B2 : Hid (Below w.heap.size w w2) := (Below.refl _ w).grown hgrow (Nat.le_refl _) (fun k e => by cases e)
  rw [zerosH_made, ← shPart_zero cs n, hG] at hown
  have OC2 := Lib.hid hown
  clear hown hgrow
  go_wp2
  go_loopw [7, 8, 16] (fun _ _ iv wr => ∃ i : Nat, i ≤ n ∧ iv = .int .i64 (i : Int) ∧ Hid (wr.ownsRow G 51 2 (.slice (some ⟨G, 0, none⟩) n n) n (cellsF (shPart cs n i))) ∧ Hid (Below w.heap.size w wr)) (fun _ _ iv _ => n - (intOf iv).toNat)
  case atStart => exact ⟨0, Nat.zero_le _, rfl, OC2, B2⟩
  case round =>
    clear OC2 B2
    obtain ⟨i, hin, rfl, hO, hB⟩ := hrel
    by_cases hlt : i < n
    · have ci := (hB.out.cell (p := ⟨b, off + i, none⟩) hb).trans (HC.out i hlt)
      have HII := HIN.out i hlt
      have HLI := HLV.out i
      have HSI := Lib.hid (HSH.out i hlt)
      obtain ⟨z, hz⟩ : ∃ z, vs[i]?.getD 0 = z := ⟨_, rfl⟩
      rw [hz] at ci HII HLI
      obtain ⟨x, hx⟩ : ∃ x, loF vs s (i : Int) = x := ⟨_, rfl⟩
      obtain ⟨y, hy⟩ : ∃ y, ovF vs s (i : Int) = y := ⟨_, rfl⟩
      rw [hx, hy] at HLI HSI
      obtain ⟨hl1, hl2⟩ := HLI
      have L1 := Lib.hid hl1.symm
      have L2 := Lib.hid hl2.symm
      obtain ⟨q1, q2, q3⟩ := HII
      have hii : (i : Int) < (n : Int) := by omega
      clear hz hx hy hl1 hl2
      go_wp2_with fail
      refine (share_as z t s x y _ ⟨q1, q2⟩ q3 hs L1.out L2.out).mono ?_
      rintro e w3 ⟨rfl, hb3⟩
      have O3 := Lib.hid (owns_under hO.out hb3)
      have B3 := Lib.hid (below_on hB.out hb3)
      obtain ⟨⟨m0, m1⟩, m2, m3⟩ := meets_setF O3.out hlt (.int .i64 x)
      obtain ⟨O4', -⟩ := owns_setF O3.out i x y
      have O4 : Hid (((w3.setCell ⟨G, i * 2, none⟩ (.int .i64 x)).setCell ⟨G, i * 2 + 1, none⟩ (.int .i64 y)).ownsRow G 51 2 (.slice (some ⟨G, 0, none⟩) n n) n (cellsF (shPart cs n (i + 1)))) := by
        unfold Hid; rw [shPart_next hlt, HSI.out]; exact O4'
      have B4 : Hid (Below w.heap.size w ((w3.setCell ⟨G, i * 2, none⟩ (.int .i64 x)).setCell ⟨G, i * 2 + 1, none⟩ (.int .i64 y))) := (B3.out.setCell (p := ⟨G, i * 2, none⟩) (by show w.heap.size ≤ G; omega) _).setCell (p := ⟨G, i * 2 + 1, none⟩) (by show w.heap.size ≤ G; omega) _
      clear O3 B3 O4' hO hB hb3 ci
      go_wp2
      go_roundw
      case rel => exact ⟨i + 1, by omega, by go_num, O4, B4⟩
      case measure => simp [intOf]; omega
    · obtain rfl : i = n := by omega
      have hO2 := hO.out
      rw [shPart_all HCL.out] at hO2
      have OC := Lib.hid hO2
      clear hO2
      go_wp2
      go_ret
      exact ⟨G, rfl, by rw [HWG.out]; exact OC.out, hB.out⟩

end Go.Proofs.Ytmbhcgdapglbgaa

namespace Go.Proofs.Ytmbhcgdapglbgaa
open Go.RowKit

attribute [local go_sem] Oper.semAt_some

/-- What stands in a block. -/
theorem rb_cell {w : World} {g : Nat} {c : Array Value} {e : TypeId} {z : Nat × Nat} (h : w.heap[g]? = some (.cells c e z)) (i : Nat) : w.cell? ⟨g, i, none⟩ = c[i]? := by simp [World.cell?, h]
theorem rb_frozen {w : World} {g : Nat} {c : Array Value} {e : TypeId} (h : w.heap[g]? = some (.cells c e (0, 0))) (i : Nat) : w.frozen? ⟨g, i, none⟩ = false := by simp [World.frozen?, h]
theorem rb_lt {w : World} {g : Nat} {o : Obj} (h : w.heap[g]? = some o) : g < w.heap.size := (Array.getElem?_eq_some_iff.1 h).1
theorem rb_set {w : World} {g : Nat} {c : Array Value} {e : TypeId} {z : Nat × Nat} (h : w.heap[g]? = some (.cells c e z)) (i : Nat) (v : Value) : (w.setCell ⟨g, i, none⟩ v).heap[g]? = some (.cells (c.setIfInBounds i v) e z) := by
  simp [World.setCell, Array.getElem?_modify, h]
theorem rb_other {w : World} {g k i : Nat} {v : Value} (hne : k ≠ g) : (w.setCell ⟨g, i, none⟩ v).heap[k]? = w.heap[k]? := Below.heap_setCell _ _ _ _ hne

/-- What leads to the first one of some blocks. -/
def topV (bs : List Nat) : Value := .pointer (bs.head?.map fun b => ⟨b, 0, none⟩)
theorem topV_nil : topV [] = .pointer none := rfl
theorem topV_cons (b : Nat) (bs : List Nat) : topV (b :: bs) = .pointer (some ⟨b, 0, none⟩) := rfl
/-- Block b is a remainder: a party, how much, what is below it. -/
def Nd (w : World) (b : Nat) (p r : Int) (v : Value) : Prop := w.heap[b]? = some (.cells #[.int .i64 p, .int .i64 r, v] 56 (0, 0))
/-- The blocks of some parties' remainders, each on top of the next one. -/
def Lst (w : World) (R : Int → Int) : List Nat → List Int → Prop
  | [], [] => True
  | b :: bs, p :: ps => Nd w b p (R p) (topV bs) ∧ Lst w R bs ps
  | [], _ :: _ => False
  | _ :: _, [] => False
/-- Block S is a stack with these remainders. -/
structure Stk (w : World) (S : Nat) (R : Int → Int) (bs : List Nat) (ps : List Int) : Prop where
  top : w.heap[S]? = some (.cells #[topV bs] 70 (0, 0))
  lst : Lst w R bs ps
  dis : bs.Nodup
theorem Lst.len {w : World} {R : Int → Int} : ∀ {bs : List Nat} {ps : List Int}, Lst w R bs ps → bs.length = ps.length
  | [], [], _ => rfl
  | _ :: bs, _ :: ps, h => by rw [List.length_cons, List.length_cons, Lst.len h.2]
  | [], _ :: _, h => h.elim
  | _ :: _, [], h => h.elim
theorem Lst.kept {w w' : World} {R : Int → Int} : ∀ {bs : List Nat} {ps : List Int}, Lst w R bs ps → (∀ k ∈ bs, w'.heap[k]? = w.heap[k]?) → Lst w' R bs ps
  | [], [], _, _ => trivial
  | b :: bs, p :: ps, h, hk => ⟨(hk b (by simp)).trans h.1, Lst.kept h.2 (fun k hk' => hk k (by simp [hk']))⟩
  | [], _ :: _, h, _ => h.elim
  | _ :: _, [], h, _ => h.elim
theorem Lst.mem {w : World} {R : Int → Int} : ∀ {bs : List Nat} {ps : List Int}, Lst w R bs ps → ∀ b ∈ bs, ∃ c, w.heap[b]? = some (.cells c 56 (0, 0))
  | [], [], _, b, hb => by cases hb
  | b' :: bs, p :: ps, h, b, hb => by
    rcases List.mem_cons.1 hb with e | e
    · subst e; exact ⟨_, h.1⟩
    · exact Lst.mem h.2 b e
  | [], _ :: _, h, _, _ => h.elim
  | _ :: _, [], h, _, _ => h.elim
theorem stk_type : (70 : TypeId) ≠ 56 := by decide
theorem Stk.not_in {w : World} {S : Nat} {R : Int → Int} {bs : List Nat} {ps : List Int} (h : Stk w S R bs ps) : S ∉ bs := fun hm => by
  obtain ⟨c, hc⟩ := h.lst.mem S hm
  rw [h.top] at hc
  injection hc with hc
  injection hc with _ e _
  exact stk_type e
theorem Stk.not_nd {w : World} {S b : Nat} {R : Int → Int} {bs : List Nat} {ps : List Int} {p r : Int} {v : Value} (h : Stk w S R bs ps) (hn : Nd w b p r v) : b ≠ S := fun e => by
  subst e
  have hc : w.heap[b]? = some (.cells _ _ _) := hn
  rw [h.top] at hc
  injection hc with hc
  injection hc with _ e _
  exact stk_type e
theorem Stk.kept {w w' : World} {S : Nat} {R : Int → Int} {bs : List Nat} {ps : List Int} (h : Stk w S R bs ps) (h0 : w'.heap[S]? = w.heap[S]?) (hk : ∀ k ∈ bs, w'.heap[k]? = w.heap[k]?) : Stk w' S R bs ps := ⟨h0.trans h.top, h.lst.kept hk, h.dis⟩
theorem Stk.below {w w' : World} {S : Nat} {R : Int → Int} {bs : List Nat} {ps : List Int} (h : Stk w S R bs ps) (hb : Below w.heap.size w w') : Stk w' S R bs ps :=
  h.kept (hb.block S (rb_lt h.top)) (fun k hk => by obtain ⟨c, hc⟩ := h.lst.mem k hk; exact hb.block k (rb_lt hc))

/-- From w to w' only block S and the blocks of a list have changed; no block is new. -/
structure Only (w w' : World) (S : Nat) (bs : List Nat) : Prop where
  os : w'.os = w.os
  tape : w'.tape = w.tape
  output : w'.output = w.output
  size : w'.heap.size = w.heap.size
  block : ∀ k, k ≠ S → k ∉ bs → w'.heap[k]? = w.heap[k]?
theorem Only.refl (w : World) (S : Nat) (bs : List Nat) : Only w w S bs := ⟨rfl, rfl, rfl, rfl, fun _ _ _ => rfl⟩
theorem Only.trans {a b c : World} {S : Nat} {bs bs' : List Nat} (h : Only a b S bs) (g : Only b c S bs') (hs : ∀ k ∈ bs', k ∈ bs) : Only a c S bs :=
  ⟨g.os.trans h.os, g.tape.trans h.tape, g.output.trans h.output, g.size.trans h.size, fun k h1 h2 => (g.block k h1 (fun hm => h2 (hs k hm))).trans (h.block k h1 h2)⟩
theorem Only.mono {w w' : World} {S : Nat} {bs bs' : List Nat} (h : Only w w' S bs) (hs : ∀ k ∈ bs, k ∈ bs') : Only w w' S bs' := ⟨h.os, h.tape, h.output, h.size, fun k h1 h2 => h.block k h1 (fun hm => h2 (hs k hm))⟩
theorem Only.below {w w' : World} {S B : Nat} {bs : List Nat} (h : Only w w' S bs) (hS : B ≤ S) (hb : ∀ k ∈ bs, B ≤ k) : Below B w w' :=
  ⟨h.os, h.tape, h.output, Nat.le_of_eq h.size.symm, fun k hk => h.block k (by omega) (fun hm => by have := hb k hm; omega)⟩
theorem Only.drew {w w' : World} {S : Nat} {bs : List Nat} (h : Only w.drew w' S bs) : Only w w' S bs := ⟨h.os, h.tape, h.output, h.size, h.block⟩
theorem Only.drewN (w : World) (n : Nat) (S : Nat) (bs : List Nat) : Only w (w.drewN n) S bs := ⟨rfl, rfl, rfl, rfl, fun _ _ _ => rfl⟩
theorem Only.sets {w : World} {S : Nat} {bs : List Nat} {b i : Nat} (v : Value) (hb : b ∈ S :: bs) : Only w (w.setCell ⟨b, i, none⟩ v) S bs :=
  ⟨rfl, rfl, rfl, by simp [World.setCell], fun k h1 h2 => rb_other (fun e => by
    subst e
    rcases List.mem_cons.1 hb with e | e
    · exact h1 e
    · exact h2 e)⟩

set_option maxHeartbeats 1000000 in
/-- **push**. -/
theorem push_as (S b : Nat) (R : Int → Int) (bs : List Nat) (ps : List Int) (p r : Int) (v : Value) (w : World) (h : Stk w S R bs ps) (hn : Nd w b p r v) (hr : R p = r) (hb : b ∉ bs) :
    Calls Try.prog 62 #[.pointer (some ⟨S, 0, none⟩), .pointer (some ⟨b, 0, none⟩)] w fun e w' => e = .returned (.tuple #[]) ∧ Stk w' S R (b :: bs) (p :: ps) ∧ Only w w' S [b] := by
  have hbS := h.not_nd hn
  have c0 : w.cell? ⟨S, 0, none⟩ = some (topV bs) := rb_cell h.top 0
  have f0 : w.frozen? ⟨S, 0, none⟩ = false := rb_frozen h.top 0
  have c2 : w.cell? ⟨b, 2, none⟩ = some v := rb_cell hn 2
  have f2 : w.frozen? ⟨b, 2, none⟩ = false := rb_frozen hn 2
  have T1 : Hid (Stk ((w.setCell ⟨b, 2, none⟩ (topV bs)).setCell ⟨S, 0, none⟩ (.pointer (some ⟨b, 0, none⟩))) S R (b :: bs) (p :: ps)) := by
    have hS1 : (w.setCell ⟨b, 2, none⟩ (topV bs)).heap[S]? = some (.cells #[topV bs] 70 (0, 0)) := (rb_other (Ne.symm hbS)).trans h.top
    have hn1 := rb_set hn 2 (topV bs)
    refine ⟨rb_set hS1 0 _, ⟨?_, h.lst.kept (fun k hk => ?_)⟩, List.nodup_cons.2 ⟨hb, h.dis⟩⟩
    · unfold Nd
      rw [rb_other hbS, hr]
      exact hn1
    · rw [rb_other (fun e => h.not_in (by rw [← e]; exact hk)), rb_other (fun e => hb (by rw [← e]; exact hk))]
  have O1 : Hid (Only w ((w.setCell ⟨b, 2, none⟩ (topV bs)).setCell ⟨S, 0, none⟩ (.pointer (some ⟨b, 0, none⟩))) S [b]) :=
    (Only.sets (i := 2) (topV bs) (by simp)).trans (Only.sets (i := 0) _ (by simp)) (fun _ hk => hk)
  have hcS : (w.setCell ⟨b, 2, none⟩ (topV bs)).cell? ⟨S, 0, none⟩ = some (topV bs) := by
    rw [World.cell?_setCell_other _ _ _ _ (by intro e; injection e with e _ _; exact hbS e)]
    exact rb_cell h.top 0
  have hfS : (w.setCell ⟨b, 2, none⟩ (topV bs)).frozen? ⟨S, 0, none⟩ = false := by rw [World.frozen?_setCell]; exact f0
  obtain ⟨tv, htv⟩ : ∃ tv, topV bs = .pointer tv := ⟨_, rfl⟩
  rw [htv] at c0 T1 O1 hcS hfS
  clear h hn htv
  go_enter Try.func62, Try.ntmps62
  go_wp2
  go_end0
  exact ⟨rfl, T1.out, O1.out⟩

set_option maxHeartbeats 1000000 in
/-- **pop**. -/
theorem pop_as (S b : Nat) (R : Int → Int) (bs : List Nat) (p : Int) (ps : List Int) (w : World) (h : Stk w S R (b :: bs) (p :: ps)) :
    Calls Try.prog 39 #[.pointer (some ⟨S, 0, none⟩)] w fun e w' => e = .returned (.pointer (some ⟨b, 0, none⟩)) ∧ Stk w' S R bs ps ∧ Nd w' b p (R p) (topV bs) ∧ b ∉ bs ∧ Only w w' S [] := by
  have hn := h.lst.1
  have hbS := h.not_nd hn
  have hbb := (List.nodup_cons.1 h.dis)
  have c0 : w.cell? ⟨S, 0, none⟩ = some (topV (b :: bs)) := rb_cell h.top 0
  have f0 : w.frozen? ⟨S, 0, none⟩ = false := rb_frozen h.top 0
  have c2 : w.cell? ⟨b, 2, none⟩ = some (topV bs) := rb_cell hn 2
  have T1 : Hid (Stk (w.setCell ⟨S, 0, none⟩ (topV bs)) S R bs ps ∧ Nd (w.setCell ⟨S, 0, none⟩ (topV bs)) b p (R p) (topV bs)) :=
    ⟨⟨rb_set h.top 0 _, h.lst.2.kept (fun k hk => rb_other (fun e => h.not_in (by rw [← e]; simp [hk]))), hbb.2⟩, (rb_other hbS).trans hn⟩
  have O1 : Hid (Only w (w.setCell ⟨S, 0, none⟩ (topV bs)) S []) := Only.sets (i := 0) _ (by simp)
  have HB := Lib.hid hbb.1
  obtain ⟨tv, htv⟩ : ∃ tv, topV bs = .pointer tv := ⟨_, rfl⟩
  rw [htv] at c2 T1 O1
  rw [topV_cons] at c0
  rw [htv]
  clear h hn htv hbb
  go_enter Try.func39, Try.ntmps39
  go_wp2
  go_ret
  exact ⟨rfl, T1.out.1, T1.out.2, HB.out, O1.out⟩

theorem Nd.kept {w w' : World} {b : Nat} {p r : Int} {v : Value} (h : Nd w b p r v) (hb : w'.heap[b]? = w.heap[b]?) : Nd w' b p r v := hb.trans h

set_option maxRecDepth 100000 in
set_option maxHeartbeats 4000000 in
/-- **insert**: below all greater ones, above all others. -/
theorem insert_as (S : Nat) (R : Int → Int) : ∀ (ps : List Int) (bs : List Nat) (b : Nat) (p r : Int) (v : Value) (w : World), Stk w S R bs ps → Nd w b p r v → R p = r → b ∉ bs →
    Calls Try.prog 57 #[.pointer (some ⟨S, 0, none⟩), .pointer (some ⟨b, 0, none⟩)] w fun e w' => e = .returned (.tuple #[]) ∧ ∃ bs', Stk w' S R bs' (insR R p ps) ∧ (∀ k, k ∈ bs' ↔ k = b ∨ k ∈ bs) ∧ Only w w' S (b :: bs) := by
  intro ps
  induction ps with
  | nil =>
    intro bs b p r v w h hn hr hb
    obtain rfl : bs = [] := List.length_eq_zero_iff.1 h.lst.len
    have c0 : w.cell? ⟨S, 0, none⟩ = some (.pointer none) := rb_cell h.top 0
    have HS := Lib.hid h
    have HN := Lib.hid hn
    have HR := Lib.hid hr
    clear h hn hr hb
    go_enter Try.func57, Try.ntmps57
    go_wp2_with fail
    go_quiet (fail)
    have HO1 := Lib.hid (Only.drewN w nq S [b])
    have HB1 := Lib.hid (below_drewN w.heap.size w nq)
    obtain ⟨w1, hw1⟩ : ∃ w1, w.drewN nq = w1 := ⟨_, rfl⟩
    rw [hw1] at HB1 HO1 ⊢
    have HS1 := Lib.hid (HS.out.below HB1.out)
    have HN1 : Hid (Nd w1 b p r v) := HN.out.kept (HB1.out.block b (rb_lt HN.out))
    go_wp2_with fail
    refine (push_as S b R [] [] p r v _ HS1.out HN1.out HR.out (by simp)).mono ?_
    rintro e w2 ⟨rfl, hs, ho⟩
    go_wp2
    refine bodyPost_ret (results_none rfl _ _ _) rfl ?_
    exact ⟨rfl, [b], hs, by simp, HO1.out.trans ho (fun _ hk => hk)⟩
  | cons q ps ih =>
    intro bs b p r v w h hn hr hb
    obtain ⟨b0, bs, rfl⟩ : ∃ b0 bs0, bs = b0 :: bs0 := by
      cases bs with
      | nil => exact h.lst.elim
      | cons b0 bs0 => exact ⟨b0, bs0, rfl⟩
    have h0 := h.lst.1
    have c0 : w.cell? ⟨S, 0, none⟩ = some (.pointer (some ⟨b0, 0, none⟩)) := rb_cell h.top 0
    have c1 : w.cell? ⟨b0, 1, none⟩ = some (.int .i64 (R q)) := rb_cell h0 1
    have c2 : w.cell? ⟨b, 1, none⟩ = some (.int .i64 r) := rb_cell hn 1
    have hbS := h.not_nd hn
    have hb0S := h.not_nd h0
    have hbb : b ≠ b0 := fun e => hb (by simp [e])
    have HBN : Hid (b ∉ bs) := fun e => hb (by simp [e])
    have HB0 : Hid (b0 ∉ bs) := (List.nodup_cons.1 h.dis).1
    have HNS : Hid (S ∉ bs) := fun e => h.not_in (by simp [e])
    have HS := Lib.hid h
    have HN := Lib.hid hn
    have HR := Lib.hid hr
    have HIH := Lib.hid ih
    obtain ⟨rq, hrq⟩ : ∃ rq, R q = rq := ⟨_, rfl⟩
    rw [hrq] at c1
    have HQ := Lib.hid hrq
    by_cases hle : rq ≤ r
    · have hd : decide (rq ≤ r) = true := decide_eq_true hle
      have HE : Hid (insR R p (q :: ps) = p :: q :: ps) := by rw [Hid, insR, if_pos (by rw [hrq, hr]; exact hle)]
      have HBM := Lib.hid hb
      clear h hn hr hb ih hrq h0 hle
      go_enter Try.func57, Try.ntmps57
      go_wp2_with fail
      go_quiet (fail)
      have HO1 := Lib.hid (Only.drewN w nq S (b :: b0 :: bs))
      have HB1 := Lib.hid (below_drewN w.heap.size w nq)
      obtain ⟨w1, hw1⟩ : ∃ w1, w.drewN nq = w1 := ⟨_, rfl⟩
      rw [hw1] at HB1 HO1 ⊢
      have HS1 := Lib.hid (HS.out.below HB1.out)
      have HN1 : Hid (Nd w1 b p r v) := HN.out.kept (HB1.out.block b (rb_lt HN.out))
      clear hw1 c0 c1 c2
      go_wp2_with fail
      refine (push_as S b R (b0 :: bs) (q :: ps) p r v _ HS1.out HN1.out HR.out HBM.out).mono ?_
      rintro e w2 ⟨rfl, hs, ho⟩
      go_wp2
      refine bodyPost_ret (results_none rfl _ _ _) rfl ?_
      exact ⟨rfl, b :: b0 :: bs, HE.out ▸ hs, by simp, HO1.out.trans ho (fun k hk => by simp at hk; simp [hk])⟩
    · have hd : decide (rq ≤ r) = false := decide_eq_false hle
      have HE : Hid (insR R p (q :: ps) = q :: insR R p ps) := by rw [Hid, insR, if_neg (by rw [hrq, hr]; exact hle)]
      clear h hn hr hb ih hrq h0 hle
      go_enter Try.func57, Try.ntmps57
      go_wp2_with fail
      go_quiet (fail)
      have HO1 := Lib.hid (Only.drewN w nq S (b :: b0 :: bs))
      have HB1 := Lib.hid (below_drewN w.heap.size w nq)
      obtain ⟨w1, hw1⟩ : ∃ w1, w.drewN nq = w1 := ⟨_, rfl⟩
      rw [hw1] at HB1 HO1 ⊢
      have HS1 := Lib.hid (HS.out.below HB1.out)
      have HN1 : Hid (Nd w1 b p r v) := HN.out.kept (HB1.out.block b (rb_lt HN.out))
      clear hw1 c0 c1 c2
      go_wp2_with fail
      refine (pop_as S b0 R bs q ps _ HS1.out).mono ?_
      rintro e w2 ⟨rfl, hs2, hn2, -, ho2⟩
      have HS2 := Lib.hid hs2
      have HN2 : Hid (Nd w2 b p r v) := HN1.out.kept (ho2.block b hbS (by simp))
      have HM2 := Lib.hid hn2
      have HO2 := Lib.hid (HO1.out.trans ho2 (fun k hk => by simp at hk))
      clear hs2 hn2 ho2
      go_wp2_with fail
      refine (HIH.out bs b p r v _ HS2.out HN2.out HR.out HBN.out).mono ?_
      rintro e w3 ⟨rfl, bs3, hs3, hm3, ho3⟩
      have HS3 := Lib.hid hs3
      have HM3 := Lib.hid hm3
      have HN3 : Hid (Nd w3 b0 q (R q) (topV bs)) := HM2.out.kept (ho3.block b0 hb0S (by simp [HB0.out, Ne.symm hbb]))
      have HO3 := Lib.hid (HO2.out.trans ho3 (fun k hk => by simp at hk ⊢; rcases hk with e | e <;> simp [e]))
      have HNB : Hid (b0 ∉ bs3) := fun e => by
        rcases (hm3 b0).1 e with e | e
        · exact hbb e.symm
        · exact HB0.out e
      clear hs3 hm3 ho3
      go_wp2_with fail
      refine (push_as S b0 R bs3 (insR R p ps) q _ (topV bs) _ HS3.out HN3.out rfl HNB.out).mono ?_
      rintro e w4 ⟨rfl, hs4, ho4⟩
      go_wp2
      go_end0
      refine ⟨rfl, b0 :: bs3, HE.out ▸ hs4, fun k => ?_, HO3.out.trans ho4 (fun k hk => by simp at hk; simp [hk])⟩
      rw [List.mem_cons, HM3.out k, List.mem_cons]
      exact ⟨fun h => by rcases h with h | h | h <;> simp [h], fun h => by rcases h with h | h | h <;> simp [h]⟩

end Go.Proofs.Ytmbhcgdapglbgaa
