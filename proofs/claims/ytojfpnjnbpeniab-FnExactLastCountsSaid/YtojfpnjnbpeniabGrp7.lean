/-
  The exact statements' own functions over piles: marks.
  The statements' own small functions (toIntS, eqIntS, toBoolS, eqBoolS, markIntS, heldIntS): what each returns, and that it writes only into memory of its own. No condition but what each theorem says.
  markIntS and heldIntS: the first writes ascending numbers into a slice of the caller's own, the second finds them again.
  markIntS writes into the one block of its slice.
  A list that a call returns with a bool (Told); a block of the call's own is kept. No condition but what each theorem says.
  Marks that are those of a form: l2Marks and impl.marksValid answer alike for every list of at most 1048600 ints, and write nothing.
  The marks on which more than half of all readers agree, as a list. Of no memory.
  What a slice of slices of ints holds; l2Count and spec.MarksAgree. No condition but what each theorem says.
-/
import Derived.Test.YtojfpnjnbpeniabGrp6
import Derived.Laws.BytesArg
import Derived.Laws.Concat
import Derived.Test.YtojfpnjnbpeniabGrp2
import Derived.Laws.OwnMore
import Derived.OwnWalk
import Derived.Test.YtojfpnjnbpeniabGrp4
import Derived.Deep.Onto
import Derived.Test.YtojfpnjnbpeniabGrp1
namespace Go.Proofs.Ytojfpnjnbpeniab
open Go.RowKit

/-- The decimal digits of a number, none of nought. -/
def digs (n : Nat) : ByteArray := if _h : n = 0 then ByteArray.empty else digs (n / 10) ++ strOfNums [48 + ((n % 10 : Nat) : Int)]
termination_by n
decreasing_by omega
theorem digs_pos {n : Nat} (h : n ≠ 0) : digs n = digs (n / 10) ++ strOfNums [48 + ((n % 10 : Nat) : Int)] := by rw [digs]; simp [h]
theorem digs_zero : digs 0 = ByteArray.empty := by rw [digs]; simp
theorem app_empty (a : ByteArray) : a ++ ⟨#[]⟩ = a := by
  apply ByteArray.ext
  simp [ByteArray.data_append]
theorem app_assoc (a b c : ByteArray) : a ++ b ++ c = a ++ (b ++ c) := by
  apply ByteArray.ext
  simp [ByteArray.data_append]
/-- The text that markText gives. -/
def mT (k : Int) : ByteArray := if k ≤ 0 then ⟨#[109, 48]⟩ else ⟨#[109]⟩ ++ digs k.toNat

set_option maxRecDepth 100000 in
set_option maxHeartbeats 2000000 in
/-- **markText**. -/
theorem markText_as (k : Int) (s : ByteArray) (w : World) (hk0 : 0 ≤ k) (hk : k ≤ 100000000) (hs : mT k = s) :
    Calls Try.prog 19 #[.int .i64 k] w fun e w' => e = .returned (.string s) ∧ Below w.heap.size w w' := by
  obtain ⟨n0, rfl⟩ : ∃ n0 : Nat, k = (n0 : Int) := ⟨k.toNat, by omega⟩
  obtain ⟨G, hG⟩ : ∃ G, w.heap.size = G := ⟨_, rfl⟩
  by_cases hz : (n0 : Int) ≤ 0
  · have hd : decide ((n0 : Int) ≤ 0) = true := decide_eq_true hz
    have HS : Hid (s = ⟨#[109, 48]⟩) := by rw [Hid, ← hs, mT, if_pos hz]
    clear hs
    go_enter Try.func19, Try.ntmps19
    go_wp2
    go_ret
    exact ⟨ret_str HS.out.symm, Below.refl _ _⟩
  · have hd : decide ((n0 : Int) ≤ 0) = false := decide_eq_false hz
    have HS : Hid (s = ⟨#[109]⟩ ++ digs n0) := by rw [Hid, ← hs, mT, if_neg hz]; simp
    clear hs
    go_enter Try.func19, Try.ntmps19
    go_wp2
    go_loopw [0, 3] (fun i o wr => ∃ (n : Nat) (u : ByteArray), n ≤ n0 ∧ i = .int .i64 n ∧ o = .string u ∧ Hid (digs n ++ u = digs n0) ∧ u.size + n ≤ n0 ∧ Below G w wr) (fun i _ _ => (intOf i).toNat)
    case atStart => exact ⟨n0, _, Nat.le_refl _, rfl, rfl, app_empty _, by show 0 + n0 ≤ n0; omega, Below.refl _ _⟩
    case round =>
      obtain ⟨n, u, hn, rfl, rfl, hD, hun, hB⟩ := hrel
      have hBw : Below w.heap.size w wr := hG.symm ▸ hB
      have hGw : G ≤ wr.heap.size := by have := hBw.size; omega
      by_cases hpos : 0 < n
      · have hd2 : decide ((0 : Int) < (n : Int)) = true := decide_eq_true (by omega)
        have hd3 : decide (0 < n) = true := decide_eq_true hpos
        have hmod : (n : Int).tmod 10 = ((n % 10 : Nat) : Int) := by rw [Int.tmod_eq_emod_of_nonneg (by omega)]; omega
        have hdiv : (n : Int).tdiv 10 = ((n / 10 : Nat) : Int) := by rw [Int.tdiv_eq_ediv_of_nonneg (by omega)]; omega
        have hr9 : n % 10 < 10 := Nat.mod_lt _ (by omega)
        obtain ⟨r, hr⟩ : ∃ r, n % 10 = r := ⟨_, rfl⟩
        obtain ⟨d, hd⟩ : ∃ d, n / 10 = d := ⟨_, rfl⟩
        have HDG : Hid (digs n = digs d ++ strOfNums [48 + (r : Int)]) := by rw [Hid, ← hr, ← hd]; exact digs_pos (by omega)
        have hdn : d < n := by omega
        rw [hr] at hr9 hmod
        rw [hd] at hdiv
        clear hr hd
        have hw1 : IntKind.i64.wrap (48 + (r : Int)) = 48 + (r : Int) := IntWalk.i64_in _ (by omega)
        have hw8 : IntKind.u8.wrap (48 + (r : Int)) = 48 + (r : Int) := by simp [IntKind.wrap, IntKind.bits, IntKind.signed]; omega
        have hconv := run_convert_bytes_arg (P := Try.prog) (wr.alloc (.cells #[.int .u8 (48 + (r : Int))] 5)) 51 5 Try.underlying51 Try.underlying5 wr.heap.size 0 1 1 [48 + (r : Int)] rfl (fun i hi => by
          obtain rfl : i = 0 := by omega
          exact World.cell?_alloc_new wr _ _ 0) 9 Try.underlying9
        have HB2 : Hid (Below G w (wr.alloc (.cells #[.int .u8 (48 + (r : Int))] 5))) := hB.alloc hGw _
        have hz1 : (strOfNums [48 + (r : Int)]).size = 1 := by simp [strOfNums_size]
        have hz2 : (strOfNums [48 + (r : Int)] ++ u).size = 1 + u.size := by rw [ByteArray.size_append, hz1]
        have HDS : Hid (digs d ++ (strOfNums [48 + (r : Int)] ++ u) = digs n0) := by rw [Hid, ← app_assoc, ← HDG.out]; exact hD.out
        go_wp2
        refine ⟨⟨d, _, by omega, rfl, rfl, HDS, by rw [hz2]; omega, HB2.out⟩, ?_⟩
        simp [intOf]; omega
      · have hd2 : decide ((0 : Int) < (n : Int)) = false := decide_eq_false (by omega)
        obtain rfl : n = 0 := by omega
        have HU : Hid (u = digs n0) := by have := hD.out; rw [digs_zero] at this; simpa [Hid] using this
        go_wp2
        go_ret
        exact ⟨ret_str (by rw [HS.out, HU.out]), hBw⟩

/-- The marks from k on, of n piles. -/
def marksP (k : Int) (n : Nat) : List Pl := (List.range n).map fun (i : Nat) => (mT (k + 2 * (i : Int)), k + 2 * (i : Int) + 1)
theorem marksP_length (k : Int) (n : Nat) : (marksP k n).length = n := by simp [marksP]
theorem marksP_succ (k : Int) (n : Nat) : marksP k (n + 1) = marksP k n ++ [(mT (k + 2 * (n : Int)), k + 2 * (n : Int) + 1)] := by simp [marksP, List.range_succ]
theorem marksP_t {k : Int} {n j : Nat} (h : j < n) : tAt (marksP k n) j = mT (k + 2 * (j : Int)) := by simp [tAt, marksP, h]
theorem marksP_m {k : Int} {n j : Nat} (h : j < n) : mAt (marksP k n) j = k + 2 * (j : Int) + 1 := by simp [mAt, marksP, h]
/-- The first j are marked. -/
def markToP (ps : List Pl) (k : Int) (j : Nat) : List Pl := marksP k j ++ ps.drop j
theorem markToP_zero (ps : List Pl) (k : Int) : markToP ps k 0 = ps := by simp [markToP, marksP]
theorem markToP_all (ps : List Pl) (k : Int) : markToP ps k ps.length = marksP k ps.length := by simp [markToP]
theorem markToP_length {ps : List Pl} {k : Int} {j : Nat} (h : j ≤ ps.length) : (markToP ps k j).length = ps.length := by simp [markToP, marksP_length]; omega
theorem markToP_step {ps : List Pl} {k : Int} {j : Nat} (h : j < ps.length) : (markToP ps k j).set j (mT (k + 2 * (j : Int)), k + 2 * (j : Int) + 1) = markToP ps k (j + 1) := by
  unfold markToP
  rw [marksP_succ, List.drop_eq_getElem_cons h, List.set_append_right _ _ (by rw [marksP_length]; exact Nat.le_refl _), marksP_length, Nat.sub_self, List.set_cons_zero, List.append_assoc]
  rfl
theorem owns_low {w w' : World} {base n size : Nat} {e : TypeId} {v : Value} {xs : List Value} {row : Option Nat} (h : w.ownsRow base e size v n xs) (hg : w.grownBy w' row) (hr : ∀ i, row = some i → i < base) : w'.ownsRow base e size v n xs := by
  refine h.kept hg ?_
  cases hb : v.ownBlock with
  | none => exact .inl rfl
  | some i => have := (h.lt i hb).1; right; intro e2; have := hr i e2.symm; omega
theorem owns_apart {w w' : World} {base n size g c : Nat} {e : TypeId} {xs : List Value} {row : Option Nat} (h : w.ownsRow base e size (.slice (some ⟨g, 0, none⟩) n c) n xs) (hg : w.grownBy w' row) (hr : row ≠ some g) : w'.ownsRow base e size (.slice (some ⟨g, 0, none⟩) n c) n xs :=
  h.kept hg (.inr (by simpa [Value.ownBlock] using fun e => hr e.symm))
theorem below_grown {w w' : World} (hb : Below w.heap.size w w') (row : Option Nat) : w.grownBy w' row := ⟨hb.os, hb.tape, hb.output, hb.size, fun k hk _ => hb.block k hk⟩

set_option maxRecDepth 100000 in
set_option maxHeartbeats 4000000 in
/-- **markPileS**, at a row of the caller's own: that block alone is written. -/
theorem markP_any (base : Nat) (a : Option Addr) (len cap : Nat) (ps : List Pl) (k : Int) (w : World) (h : w.ownsRow base 39 2 (.slice a len cap) len (cellsP ps)) (hl : len ≤ 1048600) (hk0 : 0 ≤ k) (hk : k ≤ 10000000) :
    Calls Try.prog 10 #[.slice a len cap, .int .i64 k] w fun e w' => e = .returned (.int .i64 (k + 2 * (len : Int))) ∧ w'.ownsRow base 39 2 (.slice a len cap) len (cellsP (marksP k len)) ∧ w.grownBy w' (Value.slice a len cap).ownBlock := by
  have hpl : ps.length = len := by have h1 := h.1; rw [cellsP_length] at h1; omega
  have HPL := Lib.hid hpl; clear hpl
  have HO : Hid (w.ownsRow base 39 2 (.slice a len cap) len (cellsP (markToP ps k 0))) := by rw [markToP_zero]; exact h
  clear h
  obtain ⟨row, hrow⟩ : ∃ row, (Value.slice a len cap).ownBlock = row := ⟨_, rfl⟩
  have HROW := Lib.hid hrow
  have HG0 : Hid (w.grownBy w row) := ⟨rfl, rfl, rfl, Nat.le_refl _, fun _ _ _ => rfl⟩
  rw [hrow]
  clear hrow
  go_enter Try.func10, Try.ntmps10
  go_wp2
  go_loopw [1, 5] (fun q i wr => ∃ j : Nat, j ≤ len ∧ i = .int .i64 j ∧ q = .int .i64 (k + 2 * (j : Int)) ∧ Hid (wr.ownsRow base 39 2 (.slice a len cap) len (cellsP (markToP ps k j))) ∧ Hid (w.grownBy wr row)) (fun _ i _ => len - (intOf i).toNat)
  case atStart => exact ⟨0, Nat.zero_le _, rfl, by simp, HO, HG0⟩
  case round =>
    obtain ⟨j, hj, rfl, rfl, ho, hG⟩ := hrel
    by_cases hlt : j < len
    · obtain ⟨g, c', hv⟩ := some_of_owns ho.out (by omega)
      injection hv with e1 _ e3
      subst e1; subst e3
      have hrg : row = some g := HROW.out.symm
      obtain ⟨s, hs⟩ : ∃ s, mT (k + 2 * (j : Int)) = s := ⟨_, rfl⟩
      obtain ⟨q, hq⟩ : ∃ q, k + 2 * (j : Int) = q := ⟨_, rfl⟩
      have hjp : j < ps.length := by rw [HPL.out]; exact hlt
      have hjm : j < (markToP ps k j).length := by rw [markToP_length (by omega)]; exact hjp
      have HST : Hid ((markToP ps k j).set j (s, q + 1) = markToP ps k (j + 1)) := by rw [Hid, ← hs, ← hq]; exact markToP_step hjp
      have hq0 : 0 ≤ q ∧ q ≤ 20000000 := by omega
      have hqj : k + 2 * ((j : Int) + 1) = q + 1 + 1 := by omega
      rw [hq] at hs ⊢
      have HS := Lib.hid hs
      clear hs hq
      have hw1 : IntKind.i64.wrap (q + 1) = q + 1 := IntWalk.i64_in _ (by omega)
      have hw2 : IntKind.i64.wrap (q + 1 + 1) = q + 1 + 1 := IntWalk.i64_in _ (by omega)
      go_wp2_with fail
      refine (markText_as q s _ (by omega) (by omega) HS.out).mono ?_
      rintro e w1 ⟨rfl, hb1⟩
      have O1 := Lib.hid (owns_below ho.out hb1)
      have S1 := Lib.hid (O1.out.stored (j * 2) (.string s))
      have S2 := Lib.hid (S1.out.1.stored (j * 2 + 1) (.int .i64 (q + 1)))
      have x0 : w1.cell? ⟨g, j * 2, none⟩ = some (.string (tAt (markToP ps k j) j)) := by rw [O1.out.cellAt (j * 2) (by omega)]; exact cellsP_text _ j hjm
      have f0 : w1.frozen? ⟨g, j * 2, none⟩ = false := O1.out.frozenAt (j * 2)
      have x1 : (w1.setCell ⟨g, j * 2, none⟩ (.string s)).cell? ⟨g, j * 2 + 1, none⟩ = some (.int .i64 (mAt (markToP ps k j) j)) := by
        rw [S1.out.1.cellAt (j * 2 + 1) (by omega), List.getElem?_set_ne (by omega)]
        exact cellsP_many _ j hjm
      have f1 : (w1.setCell ⟨g, j * 2, none⟩ (.string s)).frozen? ⟨g, j * 2 + 1, none⟩ = false := S1.out.1.frozenAt (j * 2 + 1)
      have GG : Hid (w.grownBy ((w1.setCell ⟨g, j * 2, none⟩ (.string s)).setCell ⟨g, j * 2 + 1, none⟩ (.int .i64 (q + 1))) row) := by
        rw [hrg] at hG ⊢
        exact ((hG.out.trans (below_grown hb1 _)).trans S1.out.2).trans S2.out.2
      clear hb1 hrg
      go_wp2
      go_roundw
      case rel => exact ⟨j + 1, by omega, by go_num, by push_cast; rw [hqj], by rw [Hid, ← HST.out, ← cells_set2 hjm]; exact S2.out.1, GG⟩
      case measure => simp [intOf]; omega
    · obtain rfl : j = len := by omega
      go_wp2
      go_ret
      refine ⟨rfl, ?_, hG.out⟩
      have := ho.out
      rw [← HPL.out, markToP_all] at this
      rw [← HPL.out]; exact this

end Go.Proofs.Ytojfpnjnbpeniab

namespace Go.Proofs.Ytojfpnjnbpeniab
open Go.RowKit

set_option maxHeartbeats 1000000 in
/-- **eqIntS**: whether two lists are equal. -/
theorem eqIntS_any (a : Option Addr) (len cap : Nat) (zs : List Int) (b : Option Addr) (len' cap' : Nat) (ys : List Int) (w : World) (h : IsInts w a len cap zs) (h' : IsInts w b len' cap' ys) :
    Calls Try.prog 8 #[.slice a len cap, .slice b len' cap'] w fun e w' => e = .returned (.bool (eqB zs ys)) ∧ Dr w w' := by
  by_cases hl : len = len'
  · subst hl
    have hne : ((len : Int) != (len : Int)) = false := by simp
    have hm := h.2.2.1
    have H := Lib.hid h; clear h
    have H' := Lib.hid h'; clear h'
    go_enter Try.func8, Try.ntmps8
    go_wp2
    go_loopw [5] (fun i wr => ∃ k : Nat, k ≤ len ∧ i = .int .i64 k ∧ Hid (zs.take k = ys.take k) ∧ Dr w wr) (fun i _ => len - (intOf i).toNat)
    case atStart => exact ⟨0, Nat.zero_le _, rfl, by simp [Hid], Dr.refl _⟩
    case round =>
      obtain ⟨k, hk, rfl, ht, hd⟩ := hrel
      obtain ⟨h1, _, _, h4⟩ := H.out.dr hd
      obtain ⟨g1, _, _, g4⟩ := H'.out.dr hd
      have H1 := Lib.hid h1; clear h1
      have G1 := Lib.hid g1; clear g1
      by_cases hlt : k < len
      · obtain ⟨b1, o1, rfl, hb1, hc1⟩ := h4 (by omega)
        obtain ⟨b2, o2, rfl, hb2, hc2⟩ := g4 (by omega)
        have hz := hc1 k hlt
        have hy := hc2 k hlt
        clear hc1 hc2 h4 g4
        cases he : (zs[k]?.getD 0 == ys[k]?.getD 0)
        · have hn : (zs[k]?.getD 0 != ys[k]?.getD 0) = true := by simp [bne, he]
          have HE := Lib.hid he; clear he
          go_wp2
          go_quiet (fail)
          go_wp2
          go_ret
          exact ⟨ret_bool (take_part zs ys k HE.out).symm, hd.drewN _⟩
        · have hn : (zs[k]?.getD 0 != ys[k]?.getD 0) = false := by simp [bne, he]
          have HE := Lib.hid he; clear he
          go_wp2
          go_quiet (fail)
          go_wp2
          go_roundw
          case rel => exact ⟨k + 1, by omega, by go_num, take_step zs ys k (by rw [H1.out]; omega) (by rw [G1.out]; omega) ht.out (by simpa using HE.out), hd.drewN _⟩
          case measure => simp [intOf]; omega
      · obtain rfl : k = len := by omega
        clear h4 g4
        go_wp2
        go_ret
        refine ⟨ret_bool ?_, hd⟩
        have := ht.out
        rw [List.take_of_length_le (by rw [H1.out]; omega), List.take_of_length_le (by rw [G1.out]; omega)] at this
        rw [this, eqB_self]
  · have hne : ((len : Int) != (len' : Int)) = true := by rw [bne_iff_ne]; omega
    have e : eqB zs ys = false := by
      simp only [eqB, decide_eq_false_iff_not]
      rintro rfl
      exact hl (h.1.symm.trans h'.1)
    rw [e]
    clear e h h' hl
    go_enter Try.func8, Try.ntmps8
    go_wp2
    go_ret
    exact ⟨rfl, Dr.refl _⟩

end Go.Proofs.Ytojfpnjnbpeniab

namespace Go.Proofs.Ytojfpnjnbpeniab
open Go.RowKit

/-- Ascending numbers from k on. -/
def marks (k : Int) (n : Nat) : List Int := (List.range n).map fun (j : Nat) => k + (j : Int)
theorem marks_length (k : Int) (n : Nat) : (marks k n).length = n := by simp [marks]
theorem marks_succ (k : Int) (n : Nat) : marks k (n + 1) = marks k n ++ [k + (n : Int)] := by simp [marks, List.range_succ]
theorem marks_at (k : Int) (n j : Nat) (h : j < n) : (marks k n)[j]?.getD 0 = k + (j : Int) := by simp [marks, h]

/-- The first j are marked. -/
def markTo (xs : List Value) (k : Int) (j : Nat) : List Value := (marks k j).map (Value.int .i64) ++ xs.drop j
theorem markTo_step (xs : List Value) (k : Int) (j : Nat) (h : j < xs.length) : (markTo xs k j).set j (.int .i64 (k + (j : Int))) = markTo xs k (j + 1) := by
  have hl : ((marks k j).map (Value.int .i64)).length = j := by simp [marks]
  unfold markTo
  rw [marks_succ, List.map_append, List.append_assoc, List.set_append_right _ _ (by omega), hl, Nat.sub_self, List.drop_eq_getElem_cons h, List.set_cons_zero]
  rfl

set_option maxHeartbeats 1000000 in
/-- **markIntS**. -/
theorem markInt_any (base : Nat) (a : Option Addr) (len cap : Nat) (xs : List Value) (k : Int) (w : World) (h : w.ownsRow base 3 1 (.slice a len cap) len xs) (hl : len ≤ 1048600) (hk0 : 0 ≤ k) (hk : k ≤ 1000000000000) :
    Calls Try.prog 11 #[.slice a len cap, .int .i64 k] w fun e w' => e = .returned (.int .i64 (k + (len : Int))) ∧ w'.ownsRow base 3 1 (.slice a len cap) len ((marks k len).map (Value.int .i64)) ∧ Below base w w' := by
  have hxl : xs.length = len := by have := h.1; omega
  have HX := Lib.hid hxl; clear hxl
  have HO : Hid (w.ownsRow base 3 1 (.slice a len cap) len (markTo xs k 0)) := by unfold Hid; simpa [markTo, marks] using h
  clear h
  go_enter Try.func11, Try.ntmps11
  go_wp2
  go_loopw [1, 5] (fun q i wr => ∃ j : Nat, j ≤ len ∧ i = .int .i64 j ∧ q = .int .i64 (k + (j : Int)) ∧ Hid (wr.ownsRow base 3 1 (.slice a len cap) len (markTo xs k j)) ∧ Below base w wr) (fun _ i _ => len - (intOf i).toNat)
  case atStart => exact ⟨0, Nat.zero_le _, rfl, by simp, HO, Below.refl _ _⟩
  case round =>
    obtain ⟨j, hj, rfl, rfl, ho, hB⟩ := hrel
    by_cases hlt : j < len
    · obtain ⟨g, hg, hgb⟩ : ∃ g, a = some ⟨g, 0, none⟩ ∧ base ≤ g := by
        rcases ho.out.2 with ⟨_, e0⟩ | ⟨g, c, _, e, hb, _⟩
        · omega
        · injection e with e1 _ _; exact ⟨g, e1, hb⟩
      subst hg
      have hfz := ho.out.frozenAt j
      have hcg := ho.out.cellAt j (by omega)
      have hlen : j < (markTo xs k j).length := by simp [markTo, marks, HX.out]; omega
      rw [List.getElem?_eq_getElem hlen] at hcg
      obtain ⟨v0, hv0⟩ : ∃ v0, (markTo xs k j)[j] = v0 := ⟨_, rfl⟩
      rw [hv0] at hcg
      clear hv0 hlen
      have HS := Lib.hid (ho.out.stored j (.int .i64 (k + (j : Int))))
      go_wp2
      go_roundw
      case rel => exact ⟨j + 1, by omega, by go_num, by push_cast; rw [Int.add_assoc], by unfold Hid; rw [← markTo_step xs k j (by rw [HX.out]; exact hlt)]; exact HS.out.1, hB.setCell (p := ⟨g, j, none⟩) hgb _⟩
      case measure => simp [intOf]; omega
    · obtain rfl : j = len := by omega
      go_wp2
      go_ret
      refine ⟨rfl, ?_, hB⟩
      have := ho.out
      rwa [markTo, List.drop_of_length_le (by rw [HX.out]; omega), List.append_nil] at this

set_option maxHeartbeats 1000000 in
/-- **heldIntS**. -/
theorem heldInt_any (a : Option Addr) (len cap : Nat) (k : Int) (w : World) (h : IsInts w a len cap (marks k len)) (hk0 : 0 ≤ k) (hk : k ≤ 1000000000000) :
    Calls Try.prog 12 #[.slice a len cap, .int .i64 k] w fun e w' => e = .returned (.int .i64 (k + (len : Int))) ∧ w = w' := by
  have hm := h.2.2.1
  have H4 := Lib.hid h.2.2.2; clear h
  go_enter Try.func12, Try.ntmps12
  go_wp2
  go_loop [1, 5] (fun q i => ∃ j : Nat, j ≤ len ∧ i = .int .i64 j ∧ q = .int .i64 (k + (j : Int))) (fun _ i => len - (intOf i).toNat)
  case atStart => exact ⟨0, Nat.zero_le _, rfl, by simp⟩
  case round =>
    obtain ⟨j, hj, rfl, rfl⟩ := hrel
    by_cases hlt : j < len
    · obtain ⟨b, o, rfl, hb, hc⟩ := H4.out (by omega)
      have hz := hc j hlt
      rw [marks_at k len j hlt] at hz
      clear hc
      have hne : (k + (j : Int) != k + (j : Int)) = false := by simp
      go_wp2
      go_round
      case rel => exact ⟨j + 1, by omega, by go_num, by push_cast; rw [Int.add_assoc]⟩
      case measure => simp [intOf]; omega
    · obtain rfl : j = len := by omega
      go_wp2
      go_ret
      exact ⟨rfl, rfl⟩

end Go.Proofs.Ytojfpnjnbpeniab

namespace Go.Proofs.Ytojfpnjnbpeniab
open Go.RowKit

theorem Step.of_setCell {w w' : World} {R j : Nat} {v : Value} (h : Step R w w') : Step R w (w'.setCell ⟨R, j, none⟩ v) :=
  ⟨h.os, h.tape, h.output, by have := h.size; simpa [World.setCell] using this, fun k hk hne => (Below.heap_setCell _ _ _ _ (fun e => hne (by rw [e]))).trans (h.block k hk hne)⟩

set_option maxHeartbeats 1000000 in
/-- **markIntS**, at a block of the caller's own: that block alone is written. -/
theorem markInt_step (base g len cap : Nat) (xs : List Value) (k : Int) (w : World) (h : w.ownsRow base 3 1 (.slice (some ⟨g, 0, none⟩) len cap) len xs) (hl : len ≤ 1048600) (hk0 : 0 ≤ k) (hk : k ≤ 4000000000000000000) :
    Calls Try.prog 11 #[.slice (some ⟨g, 0, none⟩) len cap, .int .i64 k] w fun e w' => e = .returned (.int .i64 (k + (len : Int))) ∧ w'.ownsRow base 3 1 (.slice (some ⟨g, 0, none⟩) len cap) len ((marks k len).map (Value.int .i64)) ∧ Step g w w' := by
  have hxl : xs.length = len := by have := h.1; omega
  have HX := Lib.hid hxl; clear hxl
  have HO : Hid (w.ownsRow base 3 1 (.slice (some ⟨g, 0, none⟩) len cap) len (markTo xs k 0)) := by unfold Hid; simpa [markTo, marks] using h
  clear h
  go_enter Try.func11, Try.ntmps11
  go_wp2
  go_loopw [1, 5] (fun q i wr => ∃ j : Nat, j ≤ len ∧ i = .int .i64 j ∧ q = .int .i64 (k + (j : Int)) ∧ Hid (wr.ownsRow base 3 1 (.slice (some ⟨g, 0, none⟩) len cap) len (markTo xs k j)) ∧ Step g w wr) (fun _ i _ => len - (intOf i).toNat)
  case atStart => exact ⟨0, Nat.zero_le _, rfl, by simp, HO, Step.refl _ _⟩
  case round =>
    obtain ⟨j, hj, rfl, rfl, ho, hB⟩ := hrel
    by_cases hlt : j < len
    · have hfz := ho.out.frozenAt j
      have hcg := ho.out.cellAt j (by omega)
      have hlen : j < (markTo xs k j).length := by simp [markTo, marks, HX.out]; omega
      rw [List.getElem?_eq_getElem hlen] at hcg
      obtain ⟨v0, hv0⟩ : ∃ v0, (markTo xs k j)[j] = v0 := ⟨_, rfl⟩
      rw [hv0] at hcg
      clear hv0 hlen
      have HS := Lib.hid (ho.out.stored j (.int .i64 (k + (j : Int))))
      go_wp2
      go_roundw
      case rel => exact ⟨j + 1, by omega, by go_num, by push_cast; rw [Int.add_assoc], by unfold Hid; rw [← markTo_step xs k j (by rw [HX.out]; exact hlt)]; exact HS.out.1, hB.of_setCell⟩
      case measure => simp [intOf]; omega
    · obtain rfl : j = len := by omega
      go_wp2
      go_ret
      refine ⟨rfl, ?_, hB⟩
      have := ho.out
      rwa [markTo, List.drop_of_length_le (by rw [HX.out]; omega), List.append_nil] at this

end Go.Proofs.Ytojfpnjnbpeniab

namespace Go.Proofs.Ytojfpnjnbpeniab
open Go.RowKit

theorem owns_under {w w' : World} {base n size : Nat} {e : TypeId} {v : Value} {xs : List Value} (h : w.ownsRow base e size v n xs) (hb : Below w.heap.size w w') : w'.ownsRow base e size v n xs := by
  refine h.kept (row := none) ⟨hb.os, hb.tape, hb.output, hb.size, fun k hk _ => hb.block k hk⟩ ?_
  cases v.ownBlock <;> simp

/-- What is told of a list that is returned with a bool. -/
def Told (w : World) (pl : List Int) (ok : Bool) (e : Ending) (w' : World) : Prop := ∃ a cap, e = .returned (.tuple #[.slice a pl.length cap, .bool ok]) ∧ w'.ownsRow w.heap.size 3 1 (.slice a pl.length cap) pl.length (pl.map (Value.int .i64)) ∧ Below w.heap.size w w'

theorem zeros_made (n : Nat) : (madeCells (Value.int .i64 0).cells (n * 1)).toList = (List.replicate n (0 : Int)).map (Value.int .i64) := by
  rw [show (Value.int .i64 0).cells = #[.int .i64 0] from rfl, toList_madeCells_one]; simp
theorem map_set_int (l : List Int) (i : Nat) (z : Int) : (l.map (Value.int .i64)).set i (.int .i64 z) = (l.set i z).map (Value.int .i64) := by rw [List.map_set]

end Go.Proofs.Ytojfpnjnbpeniab

namespace Go.Proofs.Ytojfpnjnbpeniab
open Go.RowKit

/-- The first k marks are in range. -/
def rankTo (zs : List Int) (k : Nat) : Bool := (List.range k).all fun i => inB (zs[i]?.getD 0) 0 9
theorem rankTo_succ (zs : List Int) (k : Nat) : rankTo zs (k + 1) = (rankTo zs k && inB (zs[k]?.getD 0) 0 9) := by
  simp [rankTo, List.range_succ]
theorem rankTo_no {zs : List Int} {k n : Nat} (h : rankTo zs (k + 1) = false) (hk : k < n) : rankTo zs n = false := by
  simp only [rankTo, List.all_eq_false, List.mem_range] at h ⊢
  obtain ⟨i, h1, h2⟩ := h
  exact ⟨i, by omega, h2⟩
/-- Marks are those of a form. -/
def rankB (zs : List Int) : Bool := rankTo zs zs.length && inB (zs.length : Int) 1 5
theorem rankB_len {zs : List Int} (h : rankB zs = true) : 1 ≤ zs.length ∧ zs.length ≤ 5 := by
  simp only [rankB, inB, Bool.and_eq_true, decide_eq_true_eq] at h
  omega
theorem rankB_at {zs : List Int} (h : rankB zs = true) (i : Nat) (hi : i < zs.length) : 0 ≤ zs[i]?.getD 0 ∧ zs[i]?.getD 0 ≤ 9 := by
  simp only [rankB, rankTo, inB, Bool.and_eq_true, decide_eq_true_eq, List.all_eq_true, List.mem_range] at h
  exact h.1 i hi

end Go.Proofs.Ytojfpnjnbpeniab

namespace Go.Proofs.Ytojfpnjnbpeniab

/-- How many readers have read the mark m at place c. -/
def cnt (rs : List (List Int)) (c : Nat) (m : Int) : Nat := rs.countP (fun r => r[c]?.getD 0 == m)
theorem cnt_nil (c : Nat) (m : Int) : cnt [] c m = 0 := rfl
theorem cnt_app (a b : List (List Int)) (c : Nat) (m : Int) : cnt (a ++ b) c m = cnt a c m + cnt b c m := by simp [cnt]
theorem cnt_one (r : List Int) (c : Nat) (m : Int) : cnt [r] c m = if r[c]?.getD 0 = m then 1 else 0 := by simp [cnt, List.countP_cons]
theorem cnt_take (rs : List (List Int)) (c : Nat) (m : Int) (k : Nat) (h : k < rs.length) : cnt (rs.take (k + 1)) c m = cnt (rs.take k) c m + (if (rs[k]?.getD [])[c]?.getD 0 = m then 1 else 0) := by
  rw [List.take_succ_eq_append_getElem h, cnt_app, cnt_one]
  simp [h]
theorem cnt_all (rs : List (List Int)) (c : Nat) (m : Int) : cnt (rs.take rs.length) c m = cnt rs c m := by rw [List.take_length]
theorem cnt_le (rs : List (List Int)) (c : Nat) (m : Int) : cnt rs c m ≤ rs.length := List.countP_le_length
theorem cnt_part (rs : List (List Int)) (c : Nat) (m : Int) (k : Nat) : cnt (rs.take k) c m ≤ cnt rs c m := by
  conv => rhs; rw [← List.take_append_drop k rs]
  rw [cnt_app]; omega
theorem cnt_two (rs : List (List Int)) (c : Nat) {m m' : Int} (h : m ≠ m') : cnt rs c m + cnt rs c m' ≤ rs.length := by
  induction rs with
  | nil => simp [cnt]
  | cons r t ih =>
    have e1 := cnt_app [r] t c m
    have e2 := cnt_app [r] t c m'
    rw [List.singleton_append] at e1 e2
    rw [e1, e2, cnt_one, cnt_one, List.length_cons]
    split <;> split <;> omega

/-- The greatest of the marks 0 .. k-1 that more than half of all readers have read, or -1. -/
def bestTo (rs : List (List Int)) (c : Nat) : Nat → Int
  | 0 => -1
  | k + 1 => if rs.length < 2 * cnt rs c (k : Int) then (k : Int) else bestTo rs c k
theorem bestTo_low (rs : List (List Int)) (c : Nat) : ∀ k : Nat, (∀ j : Nat, j < k → ¬ rs.length < 2 * cnt rs c (j : Int)) → bestTo rs c k = -1
  | 0, _ => rfl
  | k + 1, h => by rw [bestTo, if_neg (h k (by omega))]; exact bestTo_low rs c k (fun j hj => h j (by omega))
theorem bestTo_of (rs : List (List Int)) (c m : Nat) (h : rs.length < 2 * cnt rs c (m : Int)) : ∀ k, m < k → bestTo rs c k = (m : Int)
  | 0, h0 => by omega
  | k + 1, hk => by
    by_cases e : m = k
    · subst e; rw [bestTo, if_pos h]
    · have h2 := cnt_two rs c (m := (m : Int)) (m' := (k : Int)) (by omega)
      rw [bestTo, if_neg (by omega)]
      exact bestTo_of rs c m h k (by omega)
theorem bestTo_range (rs : List (List Int)) (c : Nat) : ∀ k, bestTo rs c k = -1 ∨ ∃ m : Nat, m < k ∧ bestTo rs c k = (m : Int) ∧ rs.length < 2 * cnt rs c (m : Int)
  | 0 => .inl rfl
  | k + 1 => by
    by_cases h : rs.length < 2 * cnt rs c (k : Int)
    · exact .inr ⟨k, by omega, by rw [bestTo, if_pos h], h⟩
    · rw [bestTo, if_neg h]
      rcases bestTo_range rs c k with e | ⟨m, hm, e, h2⟩
      · exact .inl e
      · exact .inr ⟨m, by omega, e, h2⟩
/-- The mark on which more than half of all readers agree at place c, or -1. -/
def bestB (rs : List (List Int)) (c : Nat) : Int := bestTo rs c 10
theorem bestB_range (rs : List (List Int)) (c : Nat) : bestB rs c = -1 ∨ ∃ m : Nat, m < 10 ∧ bestB rs c = (m : Int) ∧ rs.length < 2 * cnt rs c (m : Int) := bestTo_range rs c 10
theorem bestB_of {rs : List (List Int)} {c m : Nat} (hm : m < 10) (h : rs.length < 2 * cnt rs c (m : Int)) : bestB rs c = (m : Int) := bestTo_of rs c m h 10 hm
theorem bestB_none {rs : List (List Int)} {c : Nat} (h : ∀ m : Nat, m < 10 → ¬ rs.length < 2 * cnt rs c (m : Int)) : bestB rs c = -1 := bestTo_low rs c 10 h

/-- The first row. -/
def headL (rs : List (List Int)) : List Int := rs[0]?.getD []
def rowOk (rs : List (List Int)) (r : List Int) : Bool := rankB r && ((r.length : Int) == ((headL rs).length : Int))
def readTo (rs : List (List Int)) (k : Nat) : Bool := (List.range k).all fun i => rowOk rs (rs[i]?.getD [])
theorem readTo_succ (rs : List (List Int)) (k : Nat) : readTo rs (k + 1) = (readTo rs k && rowOk rs (rs[k]?.getD [])) := by simp [readTo, List.range_succ]
theorem readTo_no {rs : List (List Int)} {k n : Nat} (h : readTo rs (k + 1) = false) (hk : k < n) : readTo rs n = false := by
  simp only [readTo, List.all_eq_false, List.mem_range] at h ⊢
  obtain ⟨i, h1, h2⟩ := h
  exact ⟨i, by omega, h2⟩
/-- Readers are valid. -/
def readB (rs : List (List Int)) : Bool := readTo rs rs.length && inB (rs.length : Int) 1 5
theorem readB_iff (rs : List (List Int)) : readB rs = true ↔ (1 ≤ rs.length ∧ rs.length ≤ 5) ∧ (∀ r ∈ rs, rankB r = true) ∧ ∀ r ∈ rs, ∀ q ∈ rs, r.length = q.length := by
  simp only [readB, readTo, rowOk, inB, Bool.and_eq_true, List.all_eq_true, List.mem_range, decide_eq_true_eq, beq_iff_eq]
  constructor
  · rintro ⟨h, h1⟩
    have hall : ∀ r ∈ rs, rankB r = true ∧ r.length = (headL rs).length := by
      intro r hr
      obtain ⟨i, hi, rfl⟩ := List.mem_iff_getElem.1 hr
      have := h i hi
      simp only [hi, List.getElem?_eq_getElem, Option.getD_some] at this
      exact ⟨this.1, by omega⟩
    exact ⟨by omega, fun r hr => (hall r hr).1, fun r hr q hq => (hall r hr).2.trans (hall q hq).2.symm⟩
  · rintro ⟨h1, h2, h3⟩
    refine ⟨fun i hi => ?_, by omega⟩
    have e : rs[i]?.getD [] = rs[i] := by simp [hi]
    have e0 : headL rs = rs[0] := by simp [headL, show 0 < rs.length from by omega]
    rw [e, e0]
    exact ⟨h2 _ (List.getElem_mem hi), by rw [h3 _ (List.getElem_mem hi) _ (List.getElem_mem (show 0 < rs.length by omega))]⟩
theorem readB_len {rs : List (List Int)} (h : readB rs = true) : 1 ≤ rs.length ∧ rs.length ≤ 5 := ((readB_iff rs).1 h).1
theorem readB_row {rs : List (List Int)} (h : readB rs = true) (i : Nat) (hi : i < rs.length) : rankB (rs[i]?.getD []) = true ∧ (rs[i]?.getD []).length = (headL rs).length := by
  obtain ⟨h1, h2, h3⟩ := (readB_iff rs).1 h
  have e : rs[i]?.getD [] = rs[i] := by simp [hi]
  have e0 : headL rs = rs[0] := by simp [headL, show 0 < rs.length from by omega]
  rw [e, e0]
  exact ⟨h2 _ (List.getElem_mem hi), h3 _ (List.getElem_mem hi) _ (List.getElem_mem _)⟩
theorem readB_head {rs : List (List Int)} (h : readB rs = true) : 1 ≤ (headL rs).length ∧ (headL rs).length ≤ 5 := by
  have h1 := readB_len h
  have := readB_row h 0 (by omega)
  exact rankB_len this.1

/-- The marks at all places. -/
def bests (rs : List (List Int)) : List Int := (List.range (headL rs).length).map fun c => bestB rs c
theorem bests_length (rs : List (List Int)) : (bests rs).length = (headL rs).length := by simp [bests]
theorem bests_at (rs : List (List Int)) (c : Nat) (h : c < (headL rs).length) : (bests rs)[c]?.getD 0 = bestB rs c := by simp [bests, h]
/-- There is such a mark at each of the first k places. -/
def haveTo (rs : List (List Int)) (k : Nat) : Bool := (List.range k).all fun c => decide (0 ≤ bestB rs c)
theorem haveTo_succ (rs : List (List Int)) (k : Nat) : haveTo rs (k + 1) = (haveTo rs k && decide (0 ≤ bestB rs k)) := by simp [haveTo, List.range_succ]
theorem haveTo_no {rs : List (List Int)} {k n : Nat} (h : haveTo rs (k + 1) = false) (hk : k < n) : haveTo rs n = false := by
  simp only [haveTo, List.all_eq_false, List.mem_range] at h ⊢
  obtain ⟨i, h1, h2⟩ := h
  exact ⟨i, by omega, h2⟩
/-- All readers agree on all marks. -/
def agreeB (rs : List (List Int)) : Bool := readB rs && haveTo rs (headL rs).length
/-- What MarksAgree returns. -/
def agreeL (rs : List (List Int)) : List Int := if agreeB rs = true then bests rs else []
theorem agreeB_no {rs : List (List Int)} (h : readB rs = false) : agreeB rs = false := by simp [agreeB, h]
theorem agreeB_out {rs : List (List Int)} (h : haveTo rs (headL rs).length = false) : agreeB rs = false := by simp [agreeB, h]
theorem agreeB_yes {rs : List (List Int)} (h : readB rs = true) (h2 : haveTo rs (headL rs).length = true) : agreeB rs = true := by simp [agreeB, h, h2]
theorem agreeL_no {rs : List (List Int)} (h : agreeB rs = false) : agreeL rs = [] := by simp [agreeL, h]
theorem agreeL_yes {rs : List (List Int)} (h : agreeB rs = true) : agreeL rs = bests rs := by simp [agreeL, h]
theorem agreeB_both {rs : List (List Int)} (h : agreeB rs = true) : readB rs = true ∧ haveTo rs (headL rs).length = true := by simpa [agreeB] using h
theorem agreeL_short (rs : List (List Int)) : (agreeL rs).length ≤ 5 := by
  cases h : agreeB rs
  · simp [agreeL_no h]
  · rw [agreeL_yes h, bests_length]
    exact (readB_head (agreeB_both h).1).2
theorem have_at {rs : List (List Int)} (h : agreeB rs = true) (c : Nat) (hc : c < (headL rs).length) : ∃ m : Nat, m < 10 ∧ bestB rs c = (m : Int) ∧ rs.length < 2 * cnt rs c (m : Int) := by
  have h2 := (agreeB_both h).2
  simp only [haveTo, List.all_eq_true, List.mem_range, decide_eq_true_eq] at h2
  have h3 := h2 c hc
  rcases bestB_range rs c with e | h4
  · omega
  · exact h4
/-- What is agreed on are marks of a form. -/
theorem agreed_rank {rs : List (List Int)} (h : agreeB rs = true) : rankB (agreeL rs) = true := by
  have hh := readB_head (agreeB_both h).1
  rw [agreeL_yes h]
  simp only [rankB, rankTo, Bool.and_eq_true, List.all_eq_true, List.mem_range, inB, decide_eq_true_eq, bests_length]
  refine ⟨fun i hi => ?_, by omega⟩
  rw [bests_at rs i hi]
  obtain ⟨m, hm, e, _⟩ := have_at h i hi
  omega
/-- Readers who are all alike. -/
theorem agree_same {r : List Int} (hr : rankB r = true) (n : Nat) (h1 : 1 ≤ n) (h5 : n ≤ 5) : agreeB (List.replicate n r) = true ∧ agreeL (List.replicate n r) = r := by
  have hlen := rankB_len hr
  have hhead : headL (List.replicate n r) = r := by simp [headL, show 0 < n from h1]
  have hread : readB (List.replicate n r) = true := by
    rw [readB_iff]
    refine ⟨by simp; omega, fun q hq => ?_, fun q hq p hp => ?_⟩
    · rw [List.eq_of_mem_replicate hq]; exact hr
    · rw [List.eq_of_mem_replicate hq, List.eq_of_mem_replicate hp]
  have hb : ∀ c, c < r.length → bestB (List.replicate n r) c = r[c]?.getD 0 := by
    intro c hc
    have hat := rankB_at hr c hc
    obtain ⟨m, hm⟩ := Int.eq_ofNat_of_zero_le hat.1
    rw [hm]
    refine bestB_of (by omega) ?_
    have : cnt (List.replicate n r) c (m : Int) = n := by
      unfold cnt
      rw [List.countP_replicate]
      simp [hm]
    rw [this, List.length_replicate]; omega
  have hB : bests (List.replicate n r) = r := by
    apply List.ext_getElem
    · rw [bests_length, hhead]
    · intro i h1 h2
      simp only [bests, List.getElem_map, List.getElem_range]
      rw [hb i h2]; simp [h2]
  have hA : agreeB (List.replicate n r) = true := by
    refine agreeB_yes hread ?_
    simp only [haveTo, List.all_eq_true, List.mem_range, decide_eq_true_eq, hhead]
    intro c hc
    rw [hb c hc]
    exact (rankB_at hr c hc).1
  exact ⟨hA, by rw [agreeL_yes hA, hB]⟩

/-- The first reader as the last one. -/
def turnL (rs : List (List Int)) : List (List Int) := rs.drop 1 ++ [headL rs]
theorem turn_perm {rs : List (List Int)} (h : 0 < rs.length) : List.Perm (turnL rs) rs := by
  cases rs with
  | nil => simp at h
  | cons r t => simp [turnL, headL]
theorem readB_turn {rs : List (List Int)} (h : 0 < rs.length) : readB (turnL rs) = readB rs := by
  have hp := turn_perm h
  rw [Bool.eq_iff_iff, readB_iff, readB_iff, hp.length_eq]
  simp only [hp.mem_iff]
theorem cnt_turn {rs : List (List Int)} (h : 0 < rs.length) (c : Nat) (m : Int) : cnt (turnL rs) c m = cnt rs c m := (turn_perm h).countP_eq _
theorem bestTo_turn {rs : List (List Int)} (h : 0 < rs.length) (c : Nat) : ∀ k, bestTo (turnL rs) c k = bestTo rs c k
  | 0 => rfl
  | k + 1 => by rw [bestTo, bestTo, cnt_turn h, (turn_perm h).length_eq, bestTo_turn h c k]
theorem agree_turn {rs : List (List Int)} (h : 0 < rs.length) : agreeB (turnL rs) = agreeB rs ∧ agreeL (turnL rs) = agreeL rs := by
  have hb : ∀ c, bestB (turnL rs) c = bestB rs c := fun c => bestTo_turn h c 10
  cases hr : readB rs
  · have hr' : readB (turnL rs) = false := by rw [readB_turn h, hr]
    exact ⟨by rw [agreeB_no hr, agreeB_no hr'], by rw [agreeL_no (agreeB_no hr), agreeL_no (agreeB_no hr')]⟩
  · have hr' : readB (turnL rs) = true := by rw [readB_turn h, hr]
    have hp := turn_perm h
    have hl := (readB_iff rs).1 hr
    have hlen : (headL (turnL rs)).length = (headL rs).length := by
      have e1 : headL (turnL rs) ∈ turnL rs := by
        have : 0 < (turnL rs).length := by rw [hp.length_eq]; exact h
        simp [headL, this]
      have e2 : headL rs ∈ rs := by simp [headL, h]
      exact hl.2.2 _ (hp.mem_iff.1 e1) _ e2
    have hB : bests (turnL rs) = bests rs := by simp only [bests, hlen, hb]
    have hA : agreeB (turnL rs) = agreeB rs := by simp only [agreeB, hr, hr', haveTo, hlen, hb]
    exact ⟨hA, by simp only [agreeL, hA, hB]⟩

end Go.Proofs.Ytojfpnjnbpeniab

namespace Go.Proofs.Ytojfpnjnbpeniab
open Go.RowKit

/-- The slice value reads as the rows rs. -/
def IsRows (w : World) (a : Option Addr) (len cap : Nat) (rs : List (List Int)) : Prop :=
  rs.length = len ∧ len ≤ cap ∧ len ≤ 1048600 ∧ (0 < len → ∃ b off, a = some ⟨b, off, none⟩ ∧ b < w.heap.size ∧
    ∀ j, j < len → ∃ aj lj cj, w.cell? ⟨b, off + j, none⟩ = some (.slice aj lj cj) ∧ IsInts w aj lj cj (rs[j]?.getD []))

theorem IsRows.below {w w' : World} {a : Option Addr} {len cap : Nat} {rs : List (List Int)} (h : IsRows w a len cap rs) (hb : Below w.heap.size w w') : IsRows w' a len cap rs := by
  obtain ⟨h1, h2, h3, h4⟩ := h
  refine ⟨h1, h2, h3, fun hl => ?_⟩
  obtain ⟨b, off, e, hlt, hc⟩ := h4 hl
  refine ⟨b, off, e, Nat.lt_of_lt_of_le hlt hb.size, fun j hj => ?_⟩
  obtain ⟨aj, lj, cj, hcj, hj2⟩ := hc j hj
  exact ⟨aj, lj, cj, (hb.cell (p := ⟨b, off + j, none⟩) hlt).trans hcj, hj2.below hb⟩
theorem IsRows.dr {w w' : World} {a : Option Addr} {len cap : Nat} {rs : List (List Int)} (h : IsRows w a len cap rs) (hd : Dr w w') : IsRows w' a len cap rs := h.below (hd.below _)

/-- All rows have at least c + 1 ints. -/
def Wide (rs : List (List Int)) (c : Nat) : Prop := ∀ i, i < rs.length → c < (rs[i]?.getD []).length

end Go.Proofs.Ytojfpnjnbpeniab
