/-
  Whether piles fit n candidates: impl.pilesFit, for every list of piles (at most 1048600, with texts of at most 1048600 bytes) and every number; it does not write into memory that was there.
  slices.Clone at []int and impl.newTransfer: a transfer ahead of its first step, in memory of its own; nothing that was there is written.
  newTransfer of impl: the transfer's start in memory of its own, or nothing where the arguments are not valid; it writes into no memory that was there.
-/
import Derived.Test.YteomnjakcnfchaaGrp16
import Derived.Test.YteomnjakcnfchaaGrp6
import Derived.Test.YteomnjakcnfchaaGrp3
import Derived.Test.YteomnjakcnfchaaGrp22
import Derived.Test.YteomnjakcnfchaaGrp20
import Derived.Test.YteomnjakcnfchaaGrp18
import Derived.Test.YteomnjakcnfchaaGrp4
import Derived.Lib.SliceRun
import Derived.Test.YteomnjakcnfchaaTiS
import Derived.Deep.RegionHeld3
namespace Go.Proofs.Yteomnjakcnfchaa
open Go.RowKit

attribute [local go_sem] Oper.semAt_some

theorem fits_out {ps : List Pl} {n : Int} (h : n < 1 ∨ 5 < n) : fitsB ps n = false := by
  have e : inB n 1 5 = false := by unfold inB; exact decide_eq_false (by omega)
  unfold fitsB; rw [e]; simp

set_option maxRecDepth 100000 in
set_option maxHeartbeats 2000000 in
/-- **impl.pilesFit**. -/
theorem implFits_as (a : Option Addr) (len cap : Nat) (ps : List Pl) (n : Int) (v : Bool) (w : World) (h : IsPiles w a len cap ps) (hs : Small ps) (hv : fitsB ps n = v) :
    Calls Try.prog 112 #[.slice a len cap, .int .i64 n] w fun e w' => e = .returned (.bool v) ∧ Below w.heap.size w w' := by
  have HI := Lib.hid h
  have HS := Lib.hid hs
  have HV := Lib.hid hv
  have H1 := Lib.hid h.1
  clear h hs hv
  obtain ⟨G, hG⟩ : ∃ G, w.heap.size = G := ⟨_, rfl⟩
  by_cases h1 : n < 1
  · have HE : Hid (fitsB ps n = false) := fits_out (by omega)
    have hd : decide (n < 1) = true := decide_eq_true h1
    go_enter Try.func112, Try.ntmps112
    go_wp2
    go_ret
    exact ⟨ret_bool (by rw [← HV.out, HE.out]), Below.refl _ _⟩
  by_cases h5 : 5 < n
  · have HE : Hid (fitsB ps n = false) := fits_out (by omega)
    have hd : decide (n < 1) = false := decide_eq_false h1
    have hd5 : decide (5 < n) = true := decide_eq_true h5
    go_enter Try.func112, Try.ntmps112
    go_wp2
    go_ret
    exact ⟨ret_bool (by rw [← HV.out, HE.out]), Below.refl _ _⟩
  have hd : decide (n < 1) = false := decide_eq_false h1
  have hd5 : decide (5 < n) = false := decide_eq_false h5
  have HIN : Hid (inB n 1 5 = true) := by unfold Hid inB; simp; omega
  cases hp : pilesB ps
  · have HE : Hid (fitsB ps n = false) := by unfold Hid fitsB; rw [hp]; rfl
    have HP := Lib.hid hp; clear hp
    go_enter Try.func112, Try.ntmps112
    go_wp2_with fail
    refine (implPiles_as _ _ _ ps false _ HI.out HS.out HP.out).mono ?_
    rintro e w3 ⟨rfl, hb3⟩
    go_wp2
    go_ret
    exact ⟨ret_bool (by rw [← HV.out, HE.out]), hb3⟩
  · have hl12 : len ≤ 12 := by have := (pilesB_pos hp).2.2.2.2; rw [H1.out] at this; exact this
    have HP := Lib.hid hp; clear hp
    go_enter Try.func112, Try.ntmps112
    go_wp2_with fail
    refine (implPiles_as _ _ _ ps true _ HI.out HS.out HP.out).mono ?_
    rintro e w3 ⟨rfl, hb3⟩
    have B3 := Lib.hid (hG ▸ hb3); clear hb3
    go_wp2
    go_loopw [6, 7, 8, 22] (fun _ _ _ i wr => ∃ k : Nat, k ≤ len ∧ i = .int .i64 k ∧ Hid (∀ j, j < k → validB (parseL (tAt ps j)) n = true) ∧ Below G w wr) (fun _ _ _ i _ => len - (intOf i).toNat)
    case atStart => exact ⟨0, Nat.zero_le _, rfl, fun j hj => by omega, B3.out⟩
    case round =>
      obtain ⟨k, hk, rfl, hA, hB⟩ := hrel
      have hBw : Below w.heap.size w wr := hG.symm ▸ hB
      by_cases hlt : k < len
      · obtain ⟨b, off, rfl, hb, c0, c1⟩ := (HI.out.below hBw).at_text hlt
        obtain ⟨t, ht⟩ : ∃ t, tAt ps k = t := ⟨_, rfl⟩
        obtain ⟨m, hm⟩ : ∃ m, mAt ps k = m := ⟨_, rfl⟩
        obtain ⟨pl, hpl⟩ : ∃ pl, parseL t = pl := ⟨_, rfl⟩
        obtain ⟨u, hu⟩ : ∃ u, validB pl n = u := ⟨_, rfl⟩
        have hst : t.size ≤ 1048600 := by rw [← ht]; exact HS.out k
        have hl5 : pl.length ≤ 5 := by rw [← hpl]; exact parseL_short t
        have HOK : Hid (validB (nums t) 5 = true) := by
          have := (pilesB_pos HP.out).2.2.2.1 _ (pile_mem (ps := ps) (k := k) (by rw [H1.out]; exact hlt))
          unfold Hid; rw [← ht]; exact this
        rw [ht] at c0
        rw [hm] at c1
        have HT := Lib.hid ht
        have HPL := Lib.hid hpl
        have HU := Lib.hid hu
        have hGs : G ≤ wr.heap.size := by have := hB.size; rw [hG] at this; exact this
        clear ht hpl hu hBw hm
        go_wp2_with fail
        refine (implParse_as t pl true _ hst HPL.out HOK.out).mono ?_
        rintro e w4 ⟨a4, c4, rfl, ho4, hb4⟩
        have I4 := Lib.hid (IsInts.of_owned ho4 (by omega))
        have B4 : Hid (Below G w w4) := by
          refine hB.trans (Below.mono (?_ : Below wr.heap.size wr w4) hGs)
          first | exact ((Below.refl _ _).alloc (Nat.le_refl _) _).trans (hb4.mono (by simp)) | trace_state
        clear ho4 hb4
        go_wp2_with fail
        refine (implValid_any _ _ _ pl n _ I4.out).mono ?_
        rintro e w5 ⟨he, hb5⟩
        rw [HU.out] at he
        subst he
        have B5 := Lib.hid (B4.out.trans (hb5.mono (by have := B4.out.size; rw [hG] at this; exact this)))
        clear hb5
        have HN : Hid (validB (parseL (tAt ps k)) n = u) := by unfold Hid; rw [HT.out, HPL.out, HU.out]
        cases u
        · go_wp2
          go_ret
          exact ⟨ret_bool (by rw [← HV.out]; exact (fits_no (by rw [H1.out]; exact hlt) HN.out).symm), hG.symm ▸ B5.out⟩
        · go_wp2
          go_roundw
          case rel =>
            refine ⟨k + 1, by omega, by go_num, fun j hj => ?_, B5.out⟩
            by_cases e : j = k
            · subst e; exact HN.out
            · exact hA.out j (by omega)
          case measure => simp [intOf]; omega
      · obtain rfl : k = len := by omega
        have HE : Hid (fitsB ps n = (pilesB ps && inB n 1 5)) := fits_all (fun i hi => hA.out i (by rw [← H1.out]; exact hi))
        go_wp2
        go_ret
        exact ⟨ret_bool (by rw [← HV.out, HE.out, HP.out, HIN.out]; rfl), hG.symm ▸ hB⟩

end Go.Proofs.Yteomnjakcnfchaa

namespace Go.Proofs.Yteomnjakcnfchaa
open Go.RowKit

attribute [local go_sem] Oper.semAt_some

set_option maxRecDepth 100000 in
set_option maxHeartbeats 2000000 in
/-- **slices.Clone** of a list that is not empty. -/
theorem clone_as (a : Option Addr) (len cap : Nat) (zs : List Int) (w : World) (h : IsInts w a len cap zs) (hp : 0 < len) :
    Calls Try.prog 113 #[.slice a len cap] w fun e w' => ∃ g c, e = .returned (.slice (some ⟨g, 0, none⟩) len c) ∧ w'.ownsRow w.heap.size 3 1 (.slice (some ⟨g, 0, none⟩) len c) len (zs.map (Value.int .i64)) ∧ Below w.heap.size w w' := by
  obtain ⟨i0, hi, hz0, hz1, hz2⟩ := info_parts int_info
  obtain ⟨b, off, rfl, hb, hc⟩ := h.2.2.2 hp
  have hzl := h.1
  have hlm := h.2.2.1
  have hlit := Lib.hid (World.ownsRow_lit (base := w.heap.size) (e := 3) (size := 1) w #[] 0 (Nat.le_refl _) (by unfold maxLen; omega) rfl)
  have HCG : Hid (∀ k u, (zs.map (Value.int .i64))[k]? = some u → (w.alloc (.cells #[] 3)).cell? ((⟨b, off, none⟩ : Addr).add k) = some u) := fun k u hu => by
    have hk : k < len := by
      rcases Nat.lt_or_ge k len with q | q
      · exact q
      · rw [List.getElem?_eq_none (by simp; omega)] at hu; cases hu
    have e : (⟨b, off, none⟩ : Addr).add k = ⟨b, off + k, none⟩ := by
      by_cases q : k = 0
      · subst q; simp [Addr.add]
      · simp [Addr.add, q]
    rw [e]
    have h1 := (((Below.refl w.heap.size w).alloc (Nat.le_refl _) (.cells #[] 3)).cell (p := ⟨b, off + k, none⟩) hb).trans (hc k hk)
    rw [h1]
    rw [List.getElem?_map, List.getElem?_eq_getElem (by omega)] at hu
    simp only [Option.map_some] at hu
    rw [← hu]
    simp [show k < zs.length by omega]
  have HLN : Hid ((zs.map (Value.int .i64)).length = len * 1) := by unfold Hid; rw [List.length_map, hzl, Nat.mul_one]
  have q22 : ∀ (w : World) (a : Option Addr) (n c n' c' : Nat), (binOp .eql 28 (.slice a n c) (.slice none n' c')).run Try.prog w = .ok (.bool a.isNone) w := fun w a n c n' c' => Lib.run_eql_slice_nil w _ _ a n c n' c' Try.underlying28
  clear h hc hzl
  go_enter Try.func113, Try.ntmps113
  go_wp2_with (at_builtin; refine wpList_append_own _ rfl _ _ 28 rfl w.heap.size 3 i0 (.int .i64 0) 1 8 Try.underlying28 hi hz0 hz1 hz2 rfl (by decide) _ _ _ rfl hlit.out ⟨b, off, none⟩ len cap (zs.map (Value.int .i64)) rfl HLN.out HCG.out (ints_one' _) (by unfold maxLen; omega) (by omega) (by simp) ?_; intro v' w8 hown8 hgrow8 _; rw [Nat.zero_add] at hown8; change w8.ownsRow _ _ _ v' len (zs.map (Value.int .i64)) at hown8; obtain ⟨g8, c8, rfl⟩ := some_of_owns hown8 hp; have h8 : Below w.heap.size w w8 := ((Below.refl _ w).alloc (Nat.le_refl _) _).grown hgrow8 (by simp) (fun k e => by have e2 : (some w.heap.size : Option Nat) = some k := e; injection e2 with e3; omega); have O8 := Lib.hid hown8; have H8 := Lib.hid h8; clear hown8 hgrow8 h8)
  go_ret
  exact ⟨g8, c8, rfl, O8.out, H8.out⟩

theorem there_start {lots : List Int} (h : lotsB lots = true) : thereL lots (tfG (List.replicate lots.length false)) = lots := by
  unfold thereL
  rw [List.filter_eq_self]
  intro z hz
  have : tfG (List.replicate lots.length false) z = false := by
    rw [tfG_nn ((vB_mem h).2.2 z hz).1, List.getElem?_replicate]; split <;> rfl
  rw [this]; rfl
/-- One pile more. -/
def TR.push (R : TR) (i g : Nat) (a : Option Addr) (c : Nat) (a' : Option Addr) (c' : Nat) : TR :=
  { R with ap := a', cp := c', B := fun j => if j = i then g else R.B j, ba := fun j => if j = i then a else R.ba j, bc := fun j => if j = i then c else R.bc j }
theorem ptrs_push (R : TR) (i g : Nat) (a : Option Addr) (c : Nat) (a' : Option Addr) (c' : Nat) : ptrs (R.push i g a c a' c').B (List.range (i + 1)) = ptrs R.B (List.range i) ++ [.pointer (some ⟨g, 0, none⟩)] := by
  unfold ptrs
  rw [List.range_succ, List.map_append]
  congr 1
  · refine List.map_congr_left (fun j hj => ?_)
    have := List.mem_range.1 hj
    simp [TR.push, show j ≠ i by omega]
  · simp [TR.push]
theorem TS.push {w w' : World} {base T : Nat} {R : TR} {ps : List Pl} {lots : List Int} {q : Int} {S : TfS} {i g c c' : Nat} {a a' : Option Addr} (h : TS w base T R ps lots q S i)
    (hg : w.heap[g]? = some (.cells (pileC a (parseL (tAt ps i)).length c (mAt ps i) (tfW S.ws i)) 160 (0, 0))) (hgb : base ≤ g) (hnew : ∀ j, j < i → R.B j ≠ g)
    (hbal : w.ownsRow (R.gs + 1) 3 1 (.slice a (parseL (tAt ps i)).length c) (parseL (tAt ps i)).length ((parseL (tAt ps i)).map (Value.int .i64)))
    (ho : w'.ownsRow base 146 1 (.slice a' (i + 1) c') (i + 1) (ptrs R.B (List.range i) ++ [.pointer (some ⟨g, 0, none⟩)])) (hgr : w.grownBy w' (Value.slice R.ap i R.cp).ownBlock) :
    TS (w'.setCell ⟨T, 0, none⟩ (.slice a' (i + 1) c')) base T (R.push i g a c a' c') ps lots q S (i + 1) := by
  have hblk : ∀ {k : Nat} {cu : Array Value} {e : TypeId}, w.heap[k]? = some (.cells cu e (0, 0)) → (146 : TypeId) ≠ e → w'.heap[k]? = some (.cells cu e (0, 0)) := fun {k cu e} hk hne => by
    refine (hgr.block k (blk_lt hk) ?_).trans hk
    rcases owns_not_blk h.piles hk hne with q | q
    · rw [q]; intro e2; cases e2
    · intro e2; exact q e2.symm
  have hT := hblk h.blk (by decide)
  have hrow : ∀ {b n s : Nat} {e : TypeId} {v : Value} {xs : List Value}, w.ownsRow b e s v n xs → e ≠ 146 → e ≠ 119 → (w'.setCell ⟨T, 0, none⟩ (.slice a' (i + 1) c')).ownsRow b e s v n xs := fun hr h1 h2 => by
    have h3 := hr.kept hgr (owns_apart h1 hr h.piles)
    exact owns_set_blk h3 hT h2
  have hother : ∀ {k : Nat} {cu : Array Value}, w.heap[k]? = some (.cells cu 160 (0, 0)) → (w'.setCell ⟨T, 0, none⟩ (.slice a' (i + 1) c')).heap[k]? = some (.cells cu 160 (0, 0)) := fun {k cu} hk => by
    have h1 := hblk hk (by decide)
    rw [blk_other]
    · exact h1
    · intro e
      subst e
      rw [hT] at h1
      injection h1 with h1
      injection h1 with _ h1 _
      exact absurd h1 (by decide)
  refine ⟨?_, h.low, ?_, ?_, ?_, ?_⟩
  · rw [blk_set hT]; simp [TR.push]
  · rw [ptrs_push]; exact owns_set_blk ho hT (by decide)
  · exact hrow h.stay (by decide) (by decide)
  · exact hrow h.gone (by decide) (by decide)
  · refine ⟨fun j hj => ?_, fun j hj => ?_, fun j hj => ?_, fun x y hx hy he => ?_⟩
    · by_cases e : j = i
      · subst e; simp only [TR.push, if_true]; exact hother hg
      · simp only [TR.push, if_neg e]; exact hother (h.pm.pile j (by omega))
    · by_cases e : j = i
      · subst e; simp only [TR.push, if_true]; exact hgb
      · simp only [TR.push, if_neg e]; exact h.pm.low j (by omega)
    · by_cases e : j = i
      · subst e; simp only [TR.push, if_true]; exact hrow hbal (by decide) (by decide)
      · simp only [TR.push, if_neg e]; exact hrow (h.pm.ballot j (by omega)) (by decide) (by decide)
    · by_cases e1 : x = i
      · by_cases e2 : y = i
        · omega
        · simp only [TR.push, if_pos e1, if_neg e2] at he
          exact absurd he.symm (hnew y (by omega))
      · by_cases e2 : y = i
        · simp only [TR.push, if_neg e1, if_pos e2] at he
          exact absurd he (hnew x (by omega))
        · simp only [TR.push, if_neg e1, if_neg e2] at he
          exact h.pm.inj x y (by omega) (by omega) he
/-- make, as one step of a region that draws. -/
theorem step_make {P : Program} {ops : Array Oper} {o : Oper} {a : Act} {w : World} {K : Act → World → Prop} {Q : Exit → Act → World → Prop} {E : Prop}
    (hg : o.guard = none) (l c : Operand) (t : TypeId) (hop : o.op = Op.makeSlice t l c)
    (base : Nat) (e : TypeId) (i : TypeInfo) (z : Value) (size : Nat) (h1 : P.underlying t = some (.slice e)) (h2 : P.info? e = some i) (h3 : i.zero = some z) (h4 : i.size = size)
    (kl kc : IntKind) (L C : Int) (n : Nat) (hl : a.eval l = .int kl L) (hc : a.eval c = .int kc C) (hL : L = (n : Int)) (hC : C = (n : Int)) (b2 : i.bytes * n ≤ 281474976710656) (b3 : n ≤ maxLen) (b4 : base ≤ w.heap.size)
    (hK : ∀ w', w'.ownsRow base e size (.slice (some ⟨w.heap.size, 0, none⟩) n n) n (madeCells z.cells (n * size)).toList → w.grownBy w' none → K (a.put o.dst (.slice (some ⟨w.heap.size, 0, none⟩) n n)) w') :
    if Region.wanted o (yielded ops a.tmps) = true then Oper.wp P o a w K Q else E := by
  have hw : Region.wanted o (yielded ops a.tmps) = true := by simp [Region.wanted, hg]
  rw [if_pos hw]
  obtain ⟨w', hrun, r1, r2⟩ := run_make_full (P := P) w base t e i z size h1 h2 h3 h4 kl kc n b2 b3 b4
  subst hL
  subst hC
  unfold Oper.wp
  simp [execOp, hop, hl, hc, hrun, Result.andThen]
  exact hK w' r1 r2

end Go.Proofs.Yteomnjakcnfchaa

namespace Go.Proofs.Yteomnjakcnfchaa
open Go.RowKit

attribute [local go_sem] Oper.semAt_some

set_option maxRecDepth 100000 in
set_option maxHeartbeats 4000000 in
/-- **newTransfer** at arguments that are not valid. -/
theorem newT_no (a : Option Addr) (len cap : Nat) (ps : List Pl) (al : Option Addr) (n cl : Nat) (lots : List Int) (s : Int) (w : World) (h : IsPiles w a len cap ps) (hs : Small ps) (hl : IsInts w al n cl lots) (hv : transB ps lots s = false) :
    Calls Try.prog 81 #[.slice a len cap, .slice al n cl, .int .i64 s] w fun e w' => e = .returned (.tuple #[.pointer none, .bool false]) ∧ Below w.heap.size w w' := by
  have HI := Lib.hid h
  have HS := Lib.hid hs
  have HL := Lib.hid hl
  have HL1 := Lib.hid hl.1
  have HV := Lib.hid hv
  clear h hs hl hv
  cases h1 : lotsB lots
  · have H1 := Lib.hid h1; clear h1
    go_enter Try.func81, Try.ntmps81
    go_wp2_with fail
    refine (implLots_as _ _ _ lots false _ HL.out H1.out).mono ?_
    rintro e w1 ⟨rfl, hb⟩
    go_wp2
    go_ret2
    exact ⟨rfl, hb⟩
  · have H1 := Lib.hid h1
    cases h2 : fitsB ps (n : Int)
    · have H2 := Lib.hid h2; clear h1 h2
      go_enter Try.func81, Try.ntmps81
      go_wp2_with fail
      refine (implLots_as _ _ _ lots true _ HL.out H1.out).mono ?_
      rintro e w1 ⟨rfl, hb⟩
      have B1 := Lib.hid hb
      clear hb
      go_wp2_with fail
      refine (implFits_as _ _ _ ps (n : Int) false _ (HI.out.below B1.out) HS.out H2.out).mono ?_
      rintro e w2 ⟨rfl, hb⟩
      have B2 := Lib.hid (below_on B1.out hb)
      clear hb
      go_wp2
      go_ret2
      exact ⟨rfl, B2.out⟩
    · have H2 := Lib.hid h2
      by_cases h3 : (n : Int) < s
      · have h3d : decide ((n : Int) < s) = true := decide_eq_true h3
        clear h1 h2
        go_enter Try.func81, Try.ntmps81
        go_wp2_with fail
        refine (implLots_as _ _ _ lots true _ HL.out H1.out).mono ?_
        rintro e w1 ⟨rfl, hb⟩
        have B1 := Lib.hid hb
        clear hb
        go_wp2_with fail
        refine (implFits_as _ _ _ ps (n : Int) true _ (HI.out.below B1.out) HS.out H2.out).mono ?_
        rintro e w2 ⟨rfl, hb⟩
        have B2 := Lib.hid (below_on B1.out hb)
        clear hb
        go_wp2
        go_ret2
        exact ⟨rfl, B2.out⟩
      · have h3d : decide ((n : Int) < s) = false := decide_eq_false h3
        have hp := (fits_parts h2).1
        have hq : quoR (sumL ps) s = -1 := by
          refine quoR_no ?_
          have h5 := HV.out
          unfold transB at h5
          rw [h1, HL1.out, h2] at h5
          unfold quoB
          have h0 := sumL_low (pilesB_pos hp).2.1
          simp only [Bool.true_and, Bool.and_eq_false_iff, decide_eq_false_iff_not, inB] at h5 ⊢
          omega
        obtain ⟨tl, htl⟩ : ∃ tl, totalL ps = tl := ⟨_, rfl⟩
        have htl2 : sumL ps = tl := by rw [← htl]; unfold totalL; rw [if_pos hp]
        rw [htl2] at hq
        have HTL := Lib.hid htl
        have HQ := Lib.hid hq
        clear h1 h2 hp hq htl htl2
        go_enter Try.func81, Try.ntmps81
        go_wp2_with fail
        refine (implLots_as _ _ _ lots true _ HL.out H1.out).mono ?_
        rintro e w1 ⟨rfl, hb⟩
        have B1 := Lib.hid hb
        clear hb
        go_wp2_with fail
        refine (implFits_as _ _ _ ps (n : Int) true _ (HI.out.below B1.out) HS.out H2.out).mono ?_
        rintro e w2 ⟨rfl, hb⟩
        have B2 := Lib.hid (below_on B1.out hb)
        clear hb
        go_wp2_with fail
        refine (implTotal_as _ _ _ ps _ _ (HI.out.below B2.out) HS.out HTL.out).mono ?_
        rintro e w3 ⟨rfl, hb⟩
        have B3 := Lib.hid (below_on B2.out hb)
        clear hb
        go_wp2_with fail
        refine (implQuota_as _ _ _ _ HQ.out).mono ?_
        rintro e w4 ⟨rfl, rfl⟩
        go_wp2
        go_ret2
        exact ⟨rfl, B3.out⟩

/-- A transfer with no pile yet, made out of nothing that was there. -/
def NewT (w0 : World) (base : Nat) (ps : List Pl) (lots : List Int) (q : Int) (S : TfS) (v : Value) (w' : World) : Prop :=
  ∃ T R, v = .pointer (some ⟨T, 0, none⟩) ∧ Hid (TS w' base T R ps lots q S 0) ∧ Hid (Below w0.heap.size w0 w')
theorem ptr_info' : (Try.prog.info? 146).map (fun i => (i.zero, i.size, i.bytes)) = some (some (.pointer none), 1, 8) := by kernel_rfl
theorem newT_at {w0 w : World} {base n cg gs cs gg : Nat} {ps : List Pl} {lots : List Int} {q : Int} {s : Nat} (hn : lots.length = n) (hl : lotsB lots = true) (hb0 : base ≤ w0.heap.size) (hB : Below w0.heap.size w0 w)
    (h1 : w.ownsRow base 3 1 (.slice (some ⟨gs, 0, none⟩) n cs) n (lots.map (Value.int .i64))) (h2 : w.ownsRow base 4 1 (.slice (some ⟨gg, 0, none⟩) n cg) n ((List.replicate n false).map Value.bool)) :
    NewT w0 base ps lots q (tfStart ps n s) (.pointer (some ⟨w.heap.size, 0, none⟩)) (w.alloc (.cells #[.slice none 0 0, .slice (some ⟨gs, 0, none⟩) n cs, .slice (some ⟨gg, 0, none⟩) n cg, .int .i64 (s : Int), .int .i64 q] 119)) := by
  subst hn
  have hs := hB.size
  have hbx : Below w.heap.size w (w.alloc (.cells #[.slice none 0 0, .slice (some ⟨gs, 0, none⟩) lots.length cs, .slice (some ⟨gg, 0, none⟩) lots.length cg, .int .i64 (s : Int), .int .i64 q] 119)) := (Below.refl _ _).alloc (Nat.le_refl _) _
  have ht : thereL lots (tfG (tfStart ps lots.length s).gs) = lots := there_start hl
  refine ⟨w.heap.size, ⟨none, 0, gs, cs, gg, cg, fun _ => 0, fun _ => none, fun _ => 0⟩, rfl, ⟨?_, ?_, ?_, ?_, ?_, ⟨fun j hj => by omega, fun j hj => by omega, fun j hj => by omega, fun i j hi => by omega⟩⟩, below_on hB hbx⟩
  · rw [ht]; exact blk_new _ _
  · omega
  · exact ⟨rfl, .inl ⟨rfl, rfl⟩⟩
  · rw [ht]; exact owns_under h1 hbx
  · exact owns_under h2 hbx
theorem upon_make {P : Program} {o : Oper} {a : Act} {w : World} {K : Act → World → Prop} {Q : Exit → Act → World → Prop} (t : TypeId) (base : Nat) (e : TypeId) (i : TypeInfo) (z : Value) (size : Nat) (h1 : P.underlying t = some (.slice e)) (h2 : P.info? e = some i) (h3 : i.zero = some z) (h4 : i.size = size)
    (kl kc : IntKind) (n : Nat) (b2 : i.bytes * n ≤ 281474976710656) (b3 : n ≤ maxLen) (b4 : base ≤ w.heap.size)
    (hK : ∀ w', w'.ownsRow base e size (.slice (some ⟨w.heap.size, 0, none⟩) n n) n (madeCells z.cells (n * size)).toList → w.grownBy w' none → K (a.put o.dst (.slice (some ⟨w.heap.size, 0, none⟩) n n)) w') :
    Oper.upon P o a K Q ((Sem.run P (Instr.makeSlice t (.int kl (n : Int)) (.int kc (n : Int))) w).andThen fun v w' => Result.ok (Next.value v) w') := by
  obtain ⟨w', hrun, r1, r2⟩ := run_make_full (P := P) w base t e i z size h1 h2 h3 h4 kl kc n b2 b3 b4
  have hrun' : Sem.run P (Instr.makeSlice t (.int kl (n : Int)) (.int kc (n : Int))) w = _ := hrun
  rw [hrun']
  exact hK w' r1 r2
theorem grown_blk {w w' : World} {b n s k : Nat} {e e' : TypeId} {v : Value} {xs : List Value} {cu : Array Value} (h : w.ownsRow b e s v n xs) (hk : w.heap[k]? = some (.cells cu e' (0, 0))) (hne : e ≠ e') (hgr : w.grownBy w' v.ownBlock) : w'.heap[k]? = some (.cells cu e' (0, 0)) := by
  refine (hgr.block k (blk_lt hk) ?_).trans hk
  rcases owns_not_blk h hk hne with q | q
  · rw [q]; intro e2; cases e2
  · intro e2; exact q e2.symm
theorem tfStart_w {ps : List Pl} {n s i : Nat} (h : i < ps.length) : tfW (tfStart ps n s).ws i = (1, 1) := by simp [tfStart, tfW, h]

set_option maxRecDepth 100000 in
set_option maxHeartbeats 8000000 in
/-- **newTransfer** at valid arguments. -/
theorem newT_yes (a : Option Addr) (len cap : Nat) (ps : List Pl) (al : Option Addr) (n cl : Nat) (lots : List Int) (s : Nat) (w : World) (h : IsPiles w a len cap ps) (hs : Small ps) (hl : IsInts w al n cl lots) (hv : transB ps lots (s : Int) = true) :
    Calls Try.prog 81 #[.slice a len cap, .slice al n cl, .int .i64 (s : Int)] w fun e w' => ∃ T R, e = .returned (.tuple #[.pointer (some ⟨T, 0, none⟩), .bool true]) ∧ TS w' w.heap.size T R ps lots (quoR (sumL ps) (s : Int)) (tfStart ps n s) ps.length ∧ Below w.heap.size w w' := by
  obtain ⟨i0, hi, hz0, hz1, hz2⟩ := info_parts ptr_info'
  obtain ⟨ib, hib, hb0, hb1, hb2⟩ := info_parts bool_info
  obtain ⟨h1, h2, h3, h4, h5⟩ := (transB_iff ps lots (s : Int)).1 hv
  obtain ⟨G, hG⟩ : ∃ G, w.heap.size = G := ⟨_, rfl⟩
  have HI := Lib.hid h
  have HS := Lib.hid hs
  have HL := Lib.hid hl
  have hnl := hl.1
  have HL1 := Lib.hid hl.1
  have HIL := Lib.hid h.1
  have HV := Lib.hid hv
  have H1 := Lib.hid h1
  rw [hnl] at h2 h4
  have hn15 := lotsB_len h1
  have H2 := Lib.hid h2
  have h3d : decide ((n : Int) < (s : Int)) = false := decide_eq_false (by omega)
  have hp := (fits_parts h2).1
  have hl12 : len ≤ 12 := by have := (pilesB_pos hp).2.2.2.2; rw [h.1] at this; exact this
  have hlm := h.2.2.1
  obtain ⟨tl, htl⟩ : ∃ tl, totalL ps = tl := ⟨_, rfl⟩
  have htl2 : sumL ps = tl := by rw [← htl]; unfold totalL; rw [if_pos hp]
  have h0 := sumL_low (pilesB_pos hp).2.1
  have hqr := quoR_range (t := sumL ps) (s := (s : Int)) ((quoB_iff _ _).2 ⟨⟨h0, h5⟩, h3⟩)
  rw [htl2] at hqr ⊢
  obtain ⟨q, hq⟩ : ∃ q, quoR tl (s : Int) = q := ⟨_, rfl⟩
  rw [hq] at hqr ⊢
  have hq1 : (q == -1) = false := beq_eq_false_iff_ne.2 (by omega)
  have HTL := Lib.hid htl
  have HQ := Lib.hid hq
  have HP := Lib.hid hp
  clear h hs hl hv h1 h2 hp htl htl2 h0 hq h5
  go_enter Try.func81, Try.ntmps81
  go_wp2_with fail
  refine (implLots_as _ _ _ lots true _ HL.out H1.out).mono ?_
  rintro e w1 ⟨rfl, hb⟩
  have B1 := Lib.hid hb
  clear hb
  go_wp2_with fail
  refine (implFits_as _ _ _ ps (n : Int) true _ (HI.out.below B1.out) HS.out H2.out).mono ?_
  rintro e w2 ⟨rfl, hb⟩
  have B2 := Lib.hid (below_on B1.out hb)
  clear hb
  go_wp2_with fail
  refine (implTotal_as _ _ _ ps _ _ (HI.out.below B2.out) HS.out HTL.out).mono ?_
  rintro e w3 ⟨rfl, hb⟩
  have B3 := Lib.hid (below_on B2.out hb)
  clear hb
  go_wp2_with fail
  refine (implQuota_as _ _ _ _ HQ.out).mono ?_
  rintro e w4 ⟨rfl, rfl⟩
  clear B1 B2
  rename World => w4
  go_upto_region 7 with fail
  have hG4 : G ≤ w4.heap.size := by have := B3.out.size; omega
  have L4 := Lib.hid (HL.out.below B3.out)
  have D4 : Below w4.heap.size w4 w4.drew := (Below.refl _ _).drew
  go_cut [10] from 35 to 42 (fun s10 wx => NewT w4 G ps lots q (tfStart ps n s) s10 wx)
  case first =>
    go_region_with (first
      | (go_at_call 113; refine (clone_as al n cl lots _ (by first | exact LM.out | exact L4.out.below D4) (by omega)).mono ?_; rintro e w6 ⟨g6, c6, rfl, ho6, hb6⟩; (first | (have B6 := Lib.hid (below_on BM.out hb6); have O6 := Lib.hid (World.ownsRow.mono ho6 (show G ≤ _ by have := BM.out.size; omega)); have OG6 := Lib.hid (owns_under OM.out hb6)) | (have O6 := Lib.hid (World.ownsRow.mono ho6 (show G ≤ w4.drew.heap.size from hG4)); have B6 := Lib.hid (below_on D4 hb6))); clear ho6 hb6)
      | (refine upon_make 117 G 4 ib (.bool false) 1 Try.underlying117 hib hb0 hb1 .i64 .i64 n (by rw [hb2]; omega) (by unfold maxLen; omega) (by first | exact (show G ≤ w4.drew.heap.size from hG4) | (have := B6.out.size; omega)) ?_; intro w5 hown hgrow; rw [falses_are] at hown; have hbM := (Below.refl _ _).grown hgrow (Nat.le_refl _) (fun k e => by cases e); have OM := Lib.hid hown; (first | (have BM := Lib.hid (below_on B6.out hbM); have O5 := Lib.hid (owns_under O6.out hbM)) | (have BM := Lib.hid (below_on D4 hbM); have LM := Lib.hid (L4.out.below BM.out))); clear hown hgrow hbM))
    all_goals
      go_wp2_with fail
      go_meet
      first
        | exact newT_at HL1.out H1.out hG4 BM.out O5.out OM.out
        | exact newT_at HL1.out H1.out hG4 B6.out O6.out OG6.out
  case rest =>
  obtain ⟨T, R0, rfl, hT, hBx⟩ := hcut
  have B4 : Hid (Below G w _) := Lib.hid (hG ▸ below_on B3.out hBx.out)
  clear hBx B3 L4 D4 hG4
  clear w4
  rename World => w5
  go_wp2
  go_loopw [12, 45] (fun _ iv wr => ∃ (i : Nat) (R : TR), i ≤ len ∧ iv = .int .i64 (i : Int) ∧ Hid (TS wr G T R ps lots q (tfStart ps n s) i) ∧ Hid (Below G w wr)) (fun _ iv _ => len - (intOf iv).toNat)
  case atStart => exact ⟨0, R0, Nat.zero_le _, rfl, hT, B4⟩
  case round =>
    clear hT B4
    obtain ⟨i, R, hil, rfl, hTS, hB⟩ := hrel
    have hBw : Below w.heap.size w wr := hG.symm ▸ hB.out
    by_cases hlt : i < len
    · obtain ⟨b, off, rfl, hb, c0, c1⟩ := (HI.out.below hBw).at_text hlt
      obtain ⟨t, ht⟩ : ∃ t, tAt ps i = t := ⟨_, rfl⟩
      obtain ⟨m, hm⟩ : ∃ m, mAt ps i = m := ⟨_, rfl⟩
      obtain ⟨pl, hpl⟩ : ∃ pl, parseL t = pl := ⟨_, rfl⟩
      have hst : t.size ≤ 1048600 := by rw [← ht]; exact HS.out i
      have HOK : Hid (validB (nums t) 5 = true) := by
        have := (pilesB_pos HP.out).2.2.2.1 _ (pile_mem (ps := ps) (k := i) (by rw [HIL.out]; exact hlt))
        unfold Hid; rw [← ht]; exact this
      rw [ht] at c0
      rw [hm] at c1
      have HT := Lib.hid ht
      have HM := Lib.hid hm
      have HPL := Lib.hid hpl
      obtain ⟨W, hW⟩ : ∃ W, wr.alloc (.cells #[.string t, .int .i64 m] 54) = W := ⟨_, rfl⟩
      have hrW : Below wr.heap.size wr W := by rw [← hW]; exact (Below.refl _ _).alloc (Nat.le_refl _) _
      have TW := Lib.hid (hTS.out.under hrW)
      have BW := Lib.hid (hB.out.trans (hrW.mono (by have := hBw.size; omega)))
      have e0 : W.cell? ⟨wr.heap.size, 0, none⟩ = some (.string t) := by rw [← hW]; exact World.cell?_alloc_new wr _ _ 0
      have e1 : W.cell? ⟨wr.heap.size, 1, none⟩ = some (.int .i64 m) := by rw [← hW]; exact World.cell?_alloc_new wr _ _ 1
      have e2 : W.cell? ⟨T, 0, none⟩ = some (.slice R.ap i R.cp) := blk_cell TW.out.blk 0
      have hwW : wr.heap.size < W.heap.size := by rw [← hW]; simp
      have hTW := blk_lt TW.out.blk
      have hGW : G ≤ W.heap.size := by have := hBw.size; omega
      have hgsW := (TW.out.stay.lt R.gs rfl).2
      clear ht hm hpl hrW hTS hB hBw
      have NP : Calls Try.prog 114 #[.agg #[.string t, .int .i64 m]] W.drew fun e w5 => ∃ g ga gc, e = .returned (.pointer (some ⟨g, 0, none⟩)) ∧ Hid (TS (w5.alloc (.cells #[.pointer (some ⟨g, 0, none⟩)] 146)) G T R ps lots q (tfStart ps n s) i) ∧ Hid ((w5.alloc (.cells #[.pointer (some ⟨g, 0, none⟩)] 146)).heap[g]? = some (.cells (pileC ga pl.length gc m (1, 1)) 160 (0, 0))) ∧
          Hid ((w5.alloc (.cells #[.pointer (some ⟨g, 0, none⟩)] 146)).ownsRow (R.gs + 1) 3 1 (.slice ga pl.length gc) pl.length (pl.map (Value.int .i64))) ∧ Hid (Below W.heap.size W (w5.alloc (.cells #[.pointer (some ⟨g, 0, none⟩)] 146))) ∧ (w5.cell? ⟨T, 0, none⟩ = some (.slice R.ap i R.cp) ∧ w5.cell? ⟨wr.heap.size, 0, none⟩ = some (.string t) ∧ w5.cell? ⟨wr.heap.size, 1, none⟩ = some (.int .i64 m)) ∧ (w5.alloc (.cells #[.pointer (some ⟨g, 0, none⟩)] 146)).cell? ⟨T, 0, none⟩ = some (.slice R.ap i R.cp) ∧ (w5.alloc (.cells #[.pointer (some ⟨g, 0, none⟩)] 146)).cell? ⟨w5.heap.size, 0, none⟩ = some (.pointer (some ⟨g, 0, none⟩)) ∧ Hid (W.heap.size ≤ g) ∧ Hid (G ≤ (w5.alloc (.cells #[.pointer (some ⟨g, 0, none⟩)] 146)).heap.size) := by
        refine (newPile_as t m pl _ hst HPL.out HOK.out).mono ?_
        rintro e w5 ⟨g, ga, gc, rfl, hg5, ho5, hgs5, hb5⟩
        have b5 : Below W.heap.size W w5 := (Below.refl _ W).drew.trans hb5
        have ba := (Below.refl w5.heap.size w5).alloc (Nat.le_refl _) (.cells #[.pointer (some ⟨g, 0, none⟩)] 146)
        have bw := below_on b5 ba
        have hs5 := bw.size
        exact ⟨g, ga, gc, rfl, (TW.out.under b5).under ba, blk_under hg5 ba, owns_under (World.ownsRow.mono ho5 (show R.gs + 1 ≤ W.heap.size by omega)) ba, bw,
          ⟨(b5.cell (p := ⟨T, 0, none⟩) hTW).trans e2, (b5.cell (p := ⟨wr.heap.size, 0, none⟩) hwW).trans e0, (b5.cell (p := ⟨wr.heap.size, 1, none⟩) hwW).trans e1⟩, (ba.cell (p := ⟨T, 0, none⟩) (Nat.lt_of_lt_of_le hTW b5.size)).trans ((b5.cell (p := ⟨T, 0, none⟩) hTW).trans e2), World.cell?_alloc_new w5 _ _ 0, hgs5, by unfold Hid; omega⟩
      have HNP := Lib.hid NP
      clear NP
      go_wp2_with fail
      go_region_law (first
          | (go_simp; go_at_call 114; refine HNP.out.mono ?_; rintro e w5 ⟨g, ga, gc, rfl, T5, G5, OB5, BW5, ⟨d2, d0, d1⟩, f2, CP, HGG, HG5⟩; have OP := Lib.hid T5.out.piles)
          | (refine step_append_own (by rfl) _ _ _ (by rfl) G 146 i0 (.pointer none) 1 8 Try.underlying116 hi hz0 hz1 hz2 rfl Nat.one_pos (.slice R.ap i R.cp) i (ptrs R.B (List.range i)) (by rfl) OP.out ⟨w5.heap.size, 0, none⟩ 1 _ [.pointer (some ⟨g, 0, none⟩)] (by rfl) (by simp) (one_cell CP) (by simp [Value.oneCell']) (by unfold maxLen; omega) (by omega) HG5.out ?_; intro v6 w6 hown6 hgr6 _; obtain ⟨a6, c6, rfl⟩ := owns_slice hown6; have T6 := grown_blk OP.out T5.out.blk (by decide) hgr6; have h0 : w6.cell? ⟨T, 0, none⟩ = some (.slice R.ap i R.cp) := blk_cell T6 0; have h9 : w6.frozen? ⟨T, 0, none⟩ = false := blk_frozen T6 0; have O6 := Lib.hid hown6; have GR6 := Lib.hid hgr6; clear hown6 hgr6))
      all_goals
        have hgw : W.heap.size ≤ g := HGG.out
        have hPU := Lib.hid (T5.out.push (g := g) (c := gc) (c' := c6) (a := ga) (a' := a6) (w' := w6) (by rw [HT.out, HPL.out, HM.out, tfStart_w (by rw [HIL.out]; exact hlt)]; exact G5.out) (by omega) (fun j hj e => by have := blk_lt (TW.out.pm.pile j hj); omega) (by rw [HT.out, HPL.out]; exact OB5.out) O6.out GR6.out)
        have hB9 : Hid (Below G w (w6.setCell ⟨T, 0, none⟩ (.slice a6 (i + 1) c6))) := ((BW.out.trans (BW5.out.mono hGW)).grown GR6.out HG5.out (fun k e => (OP.out.lt k e).1)).setCell (p := ⟨T, 0, none⟩) T5.out.low _
        clear T5 G5 OB5 BW5 OP O6 GR6 hgw HGG HNP
        go_wp2
        go_roundw
        case rel => exact ⟨i + 1, _, by omega, by go_num, hPU, hB9⟩
        case measure => simp [intOf]; omega
    · obtain rfl : i = len := by omega
      have HTZ : Hid (TS wr G T R ps lots q (tfStart ps n s) ps.length) := by rw [HIL.out]; exact hTS
      clear hTS
      go_wp2
      go_ret2
      exact ⟨T, R, rfl, hG ▸ HTZ.out, hBw⟩

end Go.Proofs.Yteomnjakcnfchaa
