/-
  turned: two candidates exchanged; the winner of pairs of turned piles.
  The statements' own sumOf, most and turnedAll: at lists of at most twenty ints.
  sameInts: whether two lists are equal. No condition but what each theorem says.
  hasInt: whether a list has a number. No condition but what each theorem says.
  The lists of candidates that PairTop and PairBest return. Of no memory.
  impl.overAllOthers: of whom a row is true for each other one. For every function value whose rows are closures over two variables.
  impl's table of pairs: what its block holds, and the rows that are closures over it.
-/
import Derived.Test.YtojfpnjnbpeniaaGrp14
import Derived.Test.YtojfpnjnbpeniaaGrp4
import Derived.Test.YtojfpnjnbpeniaaGrp9
import Derived.Test.YtojfpnjnbpeniaaGrp5
import Derived.Test.YtojfpnjnbpeniaaGrp1
import Derived.Test.YtojfpnjnbpeniaaGrp8
import Derived.Shelf.Abstract
import Derived.Laws.EntriesVeiled
import Derived.Deep.QuietTactic
namespace Go.Proofs.Ytojfpnjnbpeniaa
open Go.RowKit

set_option maxHeartbeats 1000000 in
/-- **turned**. -/
theorem turned_any (k x y : Int) (w : World) : Calls Try.prog 37 #[.int .i64 k, .int .i64 x, .int .i64 y] w fun e w' => e = .returned (.int .i64 (swapC x y k)) ∧ w = w' := by
  by_cases h1 : k = x
  · have e1 : (k == x) = true := by rw [h1]; simp
    have e2 : Hid (swapC x y k = y) := by unfold Hid swapC; rw [if_pos h1]
    clear h1
    go_enter Try.func37, Try.ntmps37
    go_wp2
    go_ret
    exact ⟨ret_int e2.out.symm, rfl⟩
  · have e1 : (k == x) = false := beq_eq_false_iff_ne.2 h1
    by_cases h2 : k = y
    · have e3 : (k == y) = true := by rw [h2]; simp
      have e2 : Hid (swapC x y k = x) := by unfold Hid swapC; rw [if_neg h1, if_pos h2]
      clear h1 h2
      go_enter Try.func37, Try.ntmps37
      go_wp2
      go_ret
      exact ⟨ret_int e2.out.symm, rfl⟩
    · have e3 : (k == y) = false := beq_eq_false_iff_ne.2 h2
      have e2 : Hid (swapC x y k = k) := by unfold Hid swapC; rw [if_neg h1, if_neg h2]
      clear h1 h2
      go_enter Try.func37, Try.ntmps37
      go_wp2
      go_ret
      exact ⟨ret_int e2.out.symm, rfl⟩

theorem swap_in {x y z : Int} {n : Int} (hx : 0 ≤ x ∧ x < n) (hy : 0 ≤ y ∧ y < n) (hz : 0 ≤ z ∧ z < n) : 0 ≤ swapC x y z ∧ swapC x y z < n := by
  unfold swapC
  split
  · omega
  · split <;> omega
theorem validB_five {zs : List Int} {n : Int} (h5 : validB zs 5 = true) (hn : 1 ≤ n ∧ n ≤ 5) (h : ∀ z ∈ zs, 0 ≤ z ∧ z < n) : validB zs n = true := by
  rw [validB_in hn.1 hn.2]
  rw [validB_in (by omega) (by omega)] at h5
  unfold goodL goodTo at h5 ⊢
  rw [List.all_eq_true] at h5 ⊢
  intro i hi
  have h1 := h5 i hi
  rw [Bool.and_eq_true] at h1 ⊢
  refine ⟨?_, h1.2⟩
  have hi' := List.mem_range.1 hi
  have hm : zs[i]?.getD 0 ∈ zs := by rw [List.getElem?_eq_getElem hi']; exact List.getElem_mem hi'
  have := h _ hm
  simp [inB]; omega
theorem fits_turn {ps : List Pl} {n x y : Nat} (hf : fitsB ps (n : Int) = true) (hx : x < n) (hy : y < n) : fitsB (turnPs (x : Int) (y : Int) ps) (n : Int) = true := by
  obtain ⟨hp, h1, h5, hv⟩ := fits_parts hf
  have hx4 : 0 ≤ (x : Int) ∧ (x : Int) ≤ 4 := by omega
  have hy4 : 0 ≤ (y : Int) ∧ (y : Int) ≤ 4 := by omega
  have hp2 := turn_valid hx4 hy4 hp
  simp only [fitsB, Bool.and_eq_true, List.all_eq_true]
  refine ⟨hp2, by simp [inB]; omega, fun q hq => ?_⟩
  refine validB_five ((pilesB_pos hp2).2.2.2.1 q hq) ⟨by omega, by omega⟩ (fun z hz => ?_)
  rcases merge_texts q hq with ⟨p, hp', _⟩ | ⟨p, hp', e⟩
  · cases hp'
  · obtain ⟨p0, hp0, rfl⟩ := List.mem_map.1 hp'
    obtain ⟨i, hi, rfl⟩ := List.mem_iff_getElem.1 hp0
    have hvi := hv i hi
    have e0 : tAt ps i = (ps[i]).1 := by simp [tAt, hi]
    rw [e0] at hvi
    have h5v := (pilesB_pos hp).2.2.2.1 _ hp0
    rw [← e] at hz
    have hz2 : z ∈ turnB (x : Int) (y : Int) (parseL (ps[i]).1) := by
      have e3 := parse_turn hx4 hy4 h5v
      have e4 := parseL_ok (turnT_valid hx4 hy4 h5v)
      rw [← e3, e4]; exact hz
    obtain ⟨u, hu, rfl⟩ := List.mem_map.1 hz2
    have := (validB_mem hvi).2.2 u hu
    exact swap_in ⟨by omega, by omega⟩ ⟨by omega, by omega⟩ this
theorem winner_turn {ps : List Pl} {n x y x0 : Nat} (hf : fitsB ps (n : Int) = true) (hx : x < n) (hy : y < n) (h0 : x0 < n) (hw : Wins (pairF ps) n x0) : winnerF (turnPs (x : Int) (y : Int) ps) (n : Int) = swapC (x : Int) (y : Int) (x0 : Int) := by
  obtain ⟨hp, h1, h5, _⟩ := fits_parts hf
  have hs := swap_in (n := (n : Int)) (x := x) (y := y) (z := x0) ⟨by omega, by omega⟩ ⟨by omega, by omega⟩ ⟨by omega, by omega⟩
  have hw2 := wins_turn (ps := ps) (n := n) (by omega) (x := x) (y := y) ⟨by omega, by omega⟩ ⟨by omega, by omega⟩ (pilesB_pos hp).2.2.2.1 hw
  unfold winnerF
  rw [if_pos (fits_turn hf hx hy), Int.toNat_natCast, pairW_yes (by omega) ((winsB_iff _ _ _).2 hw2)]
  omega

end Go.Proofs.Ytojfpnjnbpeniaa

namespace Go.Proofs.Ytojfpnjnbpeniaa
open Go.RowKit

attribute [local go_sem] Oper.semAt_some

theorem totI_take {zs : List Int} {k : Nat} (h : k < zs.length) : totI (zs.take (k + 1)) = totI (zs.take k) + zs[k]?.getD 0 := by
  have e : zs[k]?.getD 0 = zs[k] := by simp [h]
  rw [List.take_succ_eq_append_getElem h, totI_snoc, e]
theorem totI_bound {zs : List Int} (hb : ∀ x : Nat, 0 ≤ zs[x]?.getD 0 ∧ zs[x]?.getD 0 ≤ 100000) : ∀ k, k ≤ zs.length → 0 ≤ totI (zs.take k) ∧ totI (zs.take k) ≤ 100000 * (k : Int)
  | 0, _ => by simp [totI_nil]
  | k + 1, h => by
    have ih := totI_bound hb k (by omega)
    have := hb k
    rw [totI_take (by omega)]
    omega
set_option maxHeartbeats 2000000 in
/-- **sumOf**. -/
theorem sumOf_as (a : Option Addr) (len cap : Nat) (zs : List Int) (s : Int) (w : World) (h : IsInts w a len cap zs) (hl : len ≤ 20) (hb : ∀ x : Nat, 0 ≤ zs[x]?.getD 0 ∧ zs[x]?.getD 0 ≤ 100000) (hs : totI zs = s) :
    Calls Try.prog 21 #[.slice a len cap] w fun e w' => e = .returned (.int .i64 s) ∧ w = w' := by
  obtain ⟨h1, h2, h3, h4⟩ := h
  have H1 := Lib.hid h1
  have H4 := Lib.hid h4
  have HB := Lib.hid hb
  have HS := Lib.hid hs
  clear h1 h4 hb hs
  go_enter Try.func21, Try.ntmps21
  go_wp2
  go_loop [3, 4] (fun nv iv => ∃ (i : Nat) (t : Int), i ≤ len ∧ iv = .int .i64 (i : Int) ∧ nv = .int .i64 t ∧ Hid (totI (zs.take i) = t)) (fun _ iv => len - (intOf iv).toNat)
  case atStart => exact ⟨0, 0, Nat.zero_le _, rfl, rfl, by unfold Hid; simp [totI_nil]⟩
  case round =>
    obtain ⟨i, t, hil, rfl, rfl, hT⟩ := hrel
    by_cases hlt : i < len
    · obtain ⟨b, off, rfl, hb, hc⟩ := H4.out (by omega)
      have ci := hc i hlt
      obtain ⟨z, hz⟩ : ∃ z, zs[i]?.getD 0 = z := ⟨_, rfl⟩
      have hzb := HB.out i
      have htb := totI_bound HB.out i (by rw [H1.out]; omega)
      rw [hT.out] at htb
      rw [hz] at ci hzb
      have HT2 : Hid (totI (zs.take (i + 1)) = t + z) := by rw [Hid, totI_take (by rw [H1.out]; exact hlt), hz, hT.out]
      clear hc hz
      go_wp2
      go_round
      case rel => exact ⟨i + 1, t + z, by omega, by go_num, rfl, HT2⟩
      case measure => simp [intOf]; omega
    · obtain rfl : i = len := by omega
      have HE : Hid (t = s) := by rw [Hid, ← HS.out, ← hT.out, List.take_of_length_le (by rw [H1.out]; exact Nat.le_refl _)]
      go_wp2
      go_ret
      exact ⟨ret_int HE.out, rfl⟩

theorem topI_take {zs : List Int} {k : Nat} (h : k < zs.length) : topI (zs.take (k + 1)) = max (topI (zs.take k)) (zs[k]?.getD 0) := by
  have e : zs[k]?.getD 0 = zs[k] := by simp [h]
  unfold topI
  rw [List.take_succ_eq_append_getElem h, List.foldl_append, e]; rfl
set_option maxHeartbeats 2000000 in
/-- **most**. -/
theorem most_as (a : Option Addr) (len cap : Nat) (zs : List Int) (m : Int) (w : World) (h : IsInts w a len cap zs) (hm : topI zs = m) :
    Calls Try.prog 25 #[.slice a len cap] w fun e w' => e = .returned (.int .i64 m) ∧ w = w' := by
  obtain ⟨h1, h2, h3, h4⟩ := h
  have H1 := Lib.hid h1
  have H4 := Lib.hid h4
  have HM := Lib.hid hm
  clear h1 h4 hm
  go_enter Try.func25, Try.ntmps25
  go_wp2
  go_loop [3, 4] (fun nv iv => ∃ (i : Nat) (t : Int), i ≤ len ∧ iv = .int .i64 (i : Int) ∧ nv = .int .i64 t ∧ Hid (topI (zs.take i) = t)) (fun _ iv => len - (intOf iv).toNat)
  case atStart => exact ⟨0, 0, Nat.zero_le _, rfl, rfl, by unfold Hid topI; simp⟩
  case round =>
    obtain ⟨i, t, hil, rfl, rfl, hT⟩ := hrel
    by_cases hlt : i < len
    · obtain ⟨b, off, rfl, hb, hc⟩ := H4.out (by omega)
      have ci := hc i hlt
      obtain ⟨z, hz⟩ : ∃ z, zs[i]?.getD 0 = z := ⟨_, rfl⟩
      rw [hz] at ci
      have HT2 : Hid (topI (zs.take (i + 1)) = max t z) := by rw [Hid, topI_take (by rw [H1.out]; exact hlt), hz, hT.out]
      clear hc hz
      by_cases htz : t < z
      · have HT3 : Hid (topI (zs.take (i + 1)) = z) := by rw [Hid, HT2.out]; omega
        go_wp2
        go_round
        case rel => exact ⟨i + 1, z, by omega, by go_num, by first | rfl | (congr 1; omega), HT3⟩
        case measure => simp [intOf]; omega
      · have HT3 : Hid (topI (zs.take (i + 1)) = t) := by rw [Hid, HT2.out]; omega
        go_wp2
        go_round
        case rel => exact ⟨i + 1, t, by omega, by go_num, by first | rfl | (congr 1; omega), HT3⟩
        case measure => simp [intOf]; omega
    · obtain rfl : i = len := by omega
      have HE : Hid (t = m) := by rw [Hid, ← HM.out, ← hT.out, List.take_of_length_le (by rw [H1.out]; exact Nat.le_refl _)]
      go_wp2
      go_ret
      exact ⟨ret_int HE.out, rfl⟩

theorem turnB_take {x y : Int} {zs : List Int} {k : Nat} (h : k < zs.length) : (turnB x y zs).take (k + 1) = (turnB x y zs).take k ++ [swapC x y (zs[k]?.getD 0)] := by
  have e : zs[k]?.getD 0 = zs[k] := by simp [h]
  have hl : k < (turnB x y zs).length := by simp [turnB, h]
  rw [List.take_succ_eq_append_getElem hl, e]
  simp [turnB]
set_option maxRecDepth 100000 in
set_option maxHeartbeats 2000000 in
/-- **turnedAll**. -/
theorem turnedAll_as (a : Option Addr) (len cap : Nat) (zs : List Int) (x y : Int) (l : List Int) (w : World) (h : IsInts w a len cap zs) (hl : turnB x y zs = l) :
    Calls Try.prog 36 #[.slice a len cap, .int .i64 x, .int .i64 y] w fun e w' => ∃ a' c, e = .returned (.slice a' len c) ∧ w'.ownsRow w.heap.size 3 1 (.slice a' len c) len (l.map (Value.int .i64)) ∧ Below w.heap.size w w' := by
  obtain ⟨i0, hi, hz0, hz1, hz2⟩ := info_parts int_info
  have H := Lib.hid h
  have H1 := Lib.hid h.1
  have hlen := h.2.2.1
  have HL := Lib.hid hl
  clear h hl
  have HE0 := Lib.hid (World.ownsRow_lit (base := w.heap.size) (e := 3) (size := 1) w #[] 0 (Nat.le_refl _) (by unfold maxLen; omega) rfl)
  have HB0 : Below w.heap.size w (w.alloc (.cells #[] 3)) := (Below.refl _ w).alloc (Nat.le_refl _) _
  go_enter Try.func36, Try.ntmps36
  go_wp2
  go_loopw [7, 8] (fun rv iv wr => ∃ (k : Nat) (a : Option Addr) (cap : Nat), k ≤ len ∧ iv = .int .i64 (k : Int) ∧ rv = .slice a k cap ∧ Hid (wr.ownsRow w.heap.size 3 1 (.slice a k cap) k (((turnB x y zs).take k).map (Value.int .i64))) ∧ Below w.heap.size w wr) (fun _ iv _ => len - (intOf iv).toNat)
  case atStart => exact ⟨0, _, _, Nat.zero_le _, rfl, rfl, HE0.out, HB0⟩
  case round =>
    clear HE0 HB0
    obtain ⟨k, ar, cr, hk, rfl, rfl, ho, hB⟩ := hrel
    by_cases hlt : k < len
    · obtain ⟨b, off, rfl, hb, hc⟩ := (H.out.below hB).2.2.2 (by omega)
      have ci := hc k hlt
      obtain ⟨z, hz⟩ : ∃ z, zs[k]?.getD 0 = z := ⟨_, rfl⟩
      rw [hz] at ci
      have HN : Hid ((turnB x y zs).take (k + 1) = (turnB x y zs).take k ++ [swapC x y z]) := by rw [Hid, turnB_take (by rw [H1.out]; exact hlt), hz]
      clear hc hz
      go_wp2_with (first | (go_at_call 37; refine (turned_any z x y _).mono ?_; rintro e w3 ⟨rfl, rfl⟩) | (at_builtin; refine wpList_append_own _ rfl _ _ 26 rfl w.heap.size 3 i0 (.int .i64 0) 1 8 Try.underlying26 hi hz0 hz1 hz2 rfl (by decide) _ _ _ rfl (ho.out.alloc _) ⟨wr.heap.size, 0, none⟩ 1 1 [.int .i64 (swapC x y z)] rfl rfl (cell_one_new _ _ _) (by simp [Value.oneCell']) (by unfold maxLen; omega) (by omega) (by have := hB.size; simp; omega) ?_; intro v' w4 hown' hgrow _; obtain ⟨a4, cap4, rfl⟩ := owns_slice hown'))
      have hrow : ∀ j, (Value.slice ar k cr).ownBlock = some j → w.heap.size ≤ j := fun j ej => (ho.out.lt j ej).1
      have hB4 := (hB.alloc hB.size (.cells #[.int .i64 (swapC x y z)] 3)).grown hgrow (by have := hB.size; simp; omega) (fun j e => hrow j e)
      have HO4 : Hid (w4.ownsRow w.heap.size 3 1 (.slice a4 (k + 1) cap4) (k + 1) (((turnB x y zs).take (k + 1)).map (Value.int .i64))) := by
        unfold Hid; rw [HN.out, List.map_append]; exact hown'
      clear hown' hgrow hrow
      go_wp2
      go_roundw
      case rel => exact ⟨k + 1, a4, cap4, by omega, by go_num, rfl, HO4.out, hB4⟩
      case measure => simp [intOf]; omega
    · obtain rfl : k = len := by omega
      have HE : Hid ((turnB x y zs).take k = l) := by
        rw [Hid, ← HL.out]; exact List.take_of_length_le (by simp [turnB, H1.out])
      go_wp2
      go_ret
      exact ⟨ar, cr, rfl, by rw [← HE.out]; exact ho.out, hB⟩

end Go.Proofs.Ytojfpnjnbpeniaa

namespace Go.Proofs.Ytojfpnjnbpeniaa
open Go.RowKit

set_option maxHeartbeats 1000000 in
/-- **sameInts**: whether two lists are equal. -/
theorem sameInts_any (a : Option Addr) (len cap : Nat) (zs : List Int) (b : Option Addr) (len' cap' : Nat) (ys : List Int) (w : World) (h : IsInts w a len cap zs) (h' : IsInts w b len' cap' ys) :
    Calls Try.prog 18 #[.slice a len cap, .slice b len' cap'] w fun e w' => e = .returned (.bool (eqB zs ys)) ∧ Dr w w' := by
  by_cases hl : len = len'
  · subst hl
    have hne : ((len : Int) != (len : Int)) = false := by simp
    have hm := h.2.2.1
    have H := Lib.hid h; clear h
    have H' := Lib.hid h'; clear h'
    go_enter Try.func18, Try.ntmps18
    go_wp2
    go_loopw [5] (fun i wr => ∃ k : Nat, k ≤ len ∧ i = .int .i64 k ∧ Hid (zs.take k = ys.take k) ∧ Dr w wr) (fun i _ => len - (intOf i).toNat)
    case atStart => exact ⟨0, Nat.zero_le _, rfl, by simp [Hid], Dr.refl _⟩
    case round =>
      obtain ⟨k, hk, rfl, ht, hd⟩ := hrel
      obtain ⟨h1, _, _, h4⟩ := H.out.dr hd
      obtain ⟨g1, _, _, g4⟩ := H'.out.dr hd
      have H1 := Lib.hid h1; clear h1
      have G1 := Lib.hid g1; clear g1
      by_cases hlt : k < len
      · obtain ⟨b1, o1, rfl, hb1, hc1⟩ := h4 (by omega)
        obtain ⟨b2, o2, rfl, hb2, hc2⟩ := g4 (by omega)
        have hz := hc1 k hlt
        have hy := hc2 k hlt
        clear hc1 hc2 h4 g4
        cases he : (zs[k]?.getD 0 == ys[k]?.getD 0)
        · have hn : (zs[k]?.getD 0 != ys[k]?.getD 0) = true := by simp [bne, he]
          have HE := Lib.hid he; clear he
          go_wp2
          go_quiet (fail)
          go_wp2
          go_ret
          exact ⟨ret_bool (take_part zs ys k HE.out).symm, hd.drewN _⟩
        · have hn : (zs[k]?.getD 0 != ys[k]?.getD 0) = false := by simp [bne, he]
          have HE := Lib.hid he; clear he
          go_wp2
          go_quiet (fail)
          go_wp2
          go_roundw
          case rel => exact ⟨k + 1, by omega, by go_num, take_step zs ys k (by rw [H1.out]; omega) (by rw [G1.out]; omega) ht.out (by simpa using HE.out), hd.drewN _⟩
          case measure => simp [intOf]; omega
      · obtain rfl : k = len := by omega
        clear h4 g4
        go_wp2
        go_ret
        refine ⟨ret_bool ?_, hd⟩
        have := ht.out
        rw [List.take_of_length_le (by rw [H1.out]; omega), List.take_of_length_le (by rw [G1.out]; omega)] at this
        rw [this, eqB_self]
  · have hne : ((len : Int) != (len' : Int)) = true := by rw [bne_iff_ne]; omega
    have e : eqB zs ys = false := by
      simp only [eqB, decide_eq_false_iff_not]
      rintro rfl
      exact hl (h.1.symm.trans h'.1)
    rw [e]
    clear e h h' hl
    go_enter Try.func18, Try.ntmps18
    go_wp2
    go_ret
    exact ⟨rfl, Dr.refl _⟩

end Go.Proofs.Ytojfpnjnbpeniaa

namespace Go.Proofs.Ytojfpnjnbpeniaa
open Go.RowKit

end Go.Proofs.Ytojfpnjnbpeniaa

namespace Go.Proofs.Ytojfpnjnbpeniaa

/-- The candidates of whom something holds, in ascending order: the first k. -/
def candTo (B : Nat → Bool) (k : Nat) : List Int := ((List.range k).filter B).map fun (x : Nat) => (x : Int)
theorem candTo_zero (B : Nat → Bool) : candTo B 0 = [] := rfl
theorem candTo_yes {B : Nat → Bool} {k : Nat} (h : B k = true) : candTo B (k + 1) = candTo B k ++ [(k : Int)] := by
  unfold candTo; rw [List.range_succ, List.filter_append, List.map_append]; simp [h]
theorem candTo_no {B : Nat → Bool} {k : Nat} (h : B k = false) : candTo B (k + 1) = candTo B k := by
  unfold candTo; rw [List.range_succ, List.filter_append, List.map_append]; simp [h]
theorem candTo_short (B : Nat → Bool) (k : Nat) : (candTo B k).length ≤ k := by
  unfold candTo; rw [List.length_map]; exact Nat.le_trans (List.length_filter_le _ _) (by simp)
theorem candTo_congr {B B' : Nat → Bool} {k : Nat} (h : ∀ x, x < k → B x = B' x) : candTo B k = candTo B' k := by
  unfold candTo
  rw [List.filter_congr (fun x hx => h x (List.mem_range.1 hx))]
theorem candTo_mem {B : Nat → Bool} {n : Nat} {z : Int} : z ∈ candTo B n ↔ ∃ x : Nat, x < n ∧ B x = true ∧ z = (x : Int) := by
  unfold candTo
  simp only [List.mem_map, List.mem_filter, List.mem_range]
  constructor
  · rintro ⟨x, ⟨h1, h2⟩, rfl⟩; exact ⟨x, h1, h2, rfl⟩
  · rintro ⟨x, h1, h2, rfl⟩; exact ⟨x, ⟨h1, h2⟩, rfl⟩
theorem candTo_has {B : Nat → Bool} {n x : Nat} (hx : x < n) : (x : Int) ∈ candTo B n ↔ B x = true := by
  rw [candTo_mem]
  constructor
  · rintro ⟨y, _, h, e⟩
    obtain rfl : x = y := by omega
    exact h
  · intro h; exact ⟨x, hx, h, rfl⟩
theorem candTo_asc (B : Nat → Bool) (n : Nat) : (candTo B n).Pairwise (· < ·) := by
  unfold candTo
  rw [List.pairwise_map]
  refine List.Pairwise.imp (R := (· < ·)) (fun h => by omega) ?_
  exact List.Pairwise.filter _ (List.pairwise_lt_range)

/-- All of the first k. -/
def allTo (f : Nat → Bool) (k : Nat) : Bool := (List.range k).all f
theorem allTo_zero (f : Nat → Bool) : allTo f 0 = true := rfl
theorem allTo_succ (f : Nat → Bool) (k : Nat) : allTo f (k + 1) = (allTo f k && f k) := by unfold allTo; simp [List.range_succ]
theorem allTo_iff (f : Nat → Bool) (k : Nat) : allTo f k = true ↔ ∀ y, y < k → f y = true := by unfold allTo; simp
theorem allTo_congr {f f' : Nat → Bool} {k : Nat} (h : ∀ y, y < k → f y = f' y) : allTo f k = allTo f' k := by
  cases e : allTo f' k
  · cases e2 : allTo f k
    · rfl
    · have h1 := (allTo_iff f k).1 e2
      have : allTo f' k = true := (allTo_iff f' k).2 (fun y hy => by rw [← h y hy]; exact h1 y hy)
      rw [e] at this; cases this
  · exact (allTo_iff f k).2 (fun y hy => by rw [h y hy]; exact (allTo_iff f' k).1 e y hy)

def ptopB (M : Nat → Nat → Int) (n x : Nat) : Bool := allTo (fun y => reachL M n x y) n
theorem ptopB_iff (M : Nat → Nat → Int) (n x : Nat) : ptopB M n x = true ↔ IsTop M n x := allTo_iff _ _
def pbestB (M : Nat → Nat → Int) (n x : Nat) : Bool := allTo (fun y => decide (pathL M n y x ≤ pathL M n x y)) n
theorem pbestB_iff (M : Nat → Nat → Int) (n x : Nat) : pbestB M n x = true ↔ IsBest M n x := by
  unfold pbestB IsBest; rw [allTo_iff]
  exact ⟨fun h y hy => of_decide_eq_true (h y hy), fun h y hy => decide_eq_true (h y hy)⟩
/-- What PairTop and PairBest return. -/
def ptopF (ps : List Pl) (n : Int) : List Int := if fitsB ps n = true then candTo (ptopB (pairF ps) n.toNat) n.toNat else []
def pbestF (ps : List Pl) (n : Int) : List Int := if fitsB ps n = true then candTo (pbestB (pairF ps) n.toNat) n.toNat else []

end Go.Proofs.Ytojfpnjnbpeniaa

namespace Go.Proofs.Ytojfpnjnbpeniaa
open Go.RowKit

attribute [local go_sem] Oper.semAt_some

/-- A call of function k enters it. -/
def Ent (k : Nat) : Prop := ∀ (args : Array Value) (w : World), (callFunc k args).run Try.prog w = .ok (.enter k args) w
/-- What lies below base, and from lo to hi, has not turned. -/
structure Near (base lo hi : Nat) (w w' : World) : Prop where
  size : w.heap.size ≤ w'.heap.size
  block : ∀ b, b < base ∨ (lo ≤ b ∧ b < hi) → w'.heap[b]? = w.heap[b]?
theorem Near.cell {base lo hi : Nat} {w w' : World} (h : Near base lo hi w w') {b : Nat} (o : Nat) (hb : b < base ∨ (lo ≤ b ∧ b < hi)) : w'.cell? ⟨b, o, none⟩ = w.cell? ⟨b, o, none⟩ := World.cell?_of_block (a := ⟨b, o, none⟩) (h.block b hb)
theorem Near.trans {base lo hi : Nat} {a b c : World} (h : Near base lo hi a b) (h' : Near base lo hi b c) : Near base lo hi a c := ⟨Nat.le_trans h.size h'.size, fun k hk => (h'.block k hk).trans (h.block k hk)⟩
theorem Near.of_below {base lo hi : Nat} {w w' : World} (h : Below w.heap.size w w') (h1 : base ≤ w.heap.size) (h2 : hi ≤ w.heap.size) : Near base lo hi w w' := ⟨h.size, fun b hb => h.block b (by omega)⟩
theorem Near.refl (base lo hi : Nat) (w : World) : Near base lo hi w w := ⟨Nat.le_refl _, fun _ _ => rfl⟩
/-- A row: a closure over two variables that tells V of each of n candidates, as long as what lies below base, and from lo to hi, does not turn. -/
def RowFn (base lo hi : Nat) (w : World) (k p q n : Nat) (V : Nat → Value) : Prop :=
  ∀ w', Near base lo hi w w' → ∀ y : Nat, y < n → Calls Try.prog k #[.int .i64 (y : Int), .pointer (some ⟨p, 0, none⟩), .pointer (some ⟨q, 0, none⟩)] w' fun e w'' => e = .returned (V y) ∧ Dr w' w''
theorem RowFn.near {base lo hi : Nat} {w w' : World} {k p q n : Nat} {V : Nat → Value} (h : RowFn base lo hi w k p q n V) (hb : Near base lo hi w w') : RowFn base lo hi w' k p q n V :=
  fun w2 hb2 y hy => h w2 (hb.trans hb2) y hy
/-- What makes the row of x. -/
def RowOf (w : World) (k : Nat) (first cap : Array Value) (n k2 : Nat) (V : Nat → Nat → Value) : Prop :=
  ∀ x : Nat, x < n → ∀ w', Below w.heap.size w w' → Calls Try.prog k (first ++ #[.int .i64 (x : Int)] ++ cap) w' fun e w'' => ∃ p q, e = .returned (.func (.func k2) #[] #[.pointer (some ⟨p, 0, none⟩), .pointer (some ⟨q, 0, none⟩)]) ∧ RowFn w.heap.size w'.heap.size w''.heap.size w'' k2 p q n (V x) ∧ Below w'.heap.size w' w''

/-- Of whom a table is true for each other one. -/
def overB (T : Nat → Nat → Bool) (n x : Nat) : Bool := allTo (fun y => decide (x = y) || T x y) n

set_option maxRecDepth 100000 in
set_option maxHeartbeats 4000000 in
/-- **overAllOthers**. -/
theorem over_any (n k k2 : Nat) (first cap : Array Value) (T : Nat → Nat → Bool) (L : List Int) (w : World) (hk : Ent k) (hk2 : Ent k2) (hrow : RowOf w k first cap n k2 (fun x y => .bool (T x y))) (hn : n ≤ 5) (hL : candTo (overB T n) n = L) :
    Calls Try.prog 74 #[.int .i64 (n : Int), .func (.func k) first cap] w fun e w' => ∃ a c, e = .returned (.slice a L.length c) ∧ w'.ownsRow w.heap.size 3 1 (.slice a L.length c) L.length (L.map (Value.int .i64)) ∧ Below w.heap.size w w' := by
  obtain ⟨i0, hi, hz0, hz1, hz2⟩ := info_parts int_info
  have HR := Lib.hid hrow
  have HL := Lib.hid hL
  unfold Ent at hk hk2
  clear hrow hL
  go_enter Try.func74, Try.ntmps74
  go_wp2
  go_loopw [5, 6, 7, 8, 9, 11, 18] (fun rv _ _ _ _ xv _ wr => ∃ (x : Nat) (ao : Option Addr) (co : Nat) (l : List Int), x ≤ n ∧ xv = .int .i64 (x : Int) ∧ rv = .slice ao l.length co ∧ l.length ≤ x ∧ Hid (candTo (overB T n) x = l) ∧ Hid (wr.ownsRow w.heap.size 3 1 (.slice ao l.length co) l.length (l.map (Value.int .i64))) ∧ Below w.heap.size w wr) (fun _ _ _ _ _ xv _ _ => n - (intOf xv).toNat)
  case atStart => exact ⟨0, none, 0, [], Nat.zero_le _, rfl, rfl, Nat.le_refl _, rfl, ⟨rfl, .inl ⟨rfl, rfl⟩⟩, Below.refl _ _⟩
  case round =>
    rename World => wx
    obtain ⟨x, ao, co, l, hx, rfl, rfl, hll, hLx, hO, hB⟩ := hrel
    by_cases hlt : x < n
    · go_wp2_with fail
      refine (HR.out x hlt _ hB).mono ?_
      rintro e w3 ⟨p, q, rfl, hrf, hb3⟩
      have hO3 := Lib.hid (owns_under hO.out hb3)
      have hB3 := hB.trans (hb3.mono hB.size)
      have HRF := Lib.hid hrf
      have hw3 : w.heap.size ≤ w3.heap.size := hB3.size
      clear hO hB hb3 hrf
      go_wp2
      go_loopw [8, 9, 18] (fun av _ yv wr => ∃ (y : Nat) (u : Bool), y ≤ n ∧ yv = .int .i64 (y : Int) ∧ av = .bool u ∧ Hid (allTo (fun y => decide (x = y) || T x y) y = u) ∧ Dr w3 wr) (fun _ _ yv _ => n - (intOf yv).toNat)
      case atStart => exact ⟨0, true, Nat.zero_le _, rfl, rfl, rfl, Dr.refl _⟩
      case round =>
        obtain ⟨y, u, hy, rfl, rfl, hA2, hd2⟩ := hrel
        by_cases hlt2 : y < n
        · cases u
          · go_wp2
            go_roundw
            case rel => exact ⟨y + 1, false, by omega, by go_num, rfl, by unfold Hid; rw [allTo_succ, hA2.out]; rfl, hd2⟩
            case measure => simp [intOf]; omega
          · by_cases hxy : x = y
            · subst hxy
              have he : ((x : Int) == (x : Int)) = true := by simp
              go_wp2
              go_roundw
              case rel => exact ⟨x + 1, true, by omega, by go_num, rfl, by unfold Hid; rw [allTo_succ, hA2.out]; simp, hd2⟩
              case measure => simp [intOf]; omega
            · have he : ((x : Int) == (y : Int)) = false := beq_eq_false_iff_ne.2 (by omega)
              obtain ⟨v, hv⟩ : ∃ v, T x y = v := ⟨_, rfl⟩
              have HV := Lib.hid hv
              have hc := HRF.out _ (Near.of_below (hd2.below _) hw3 (Nat.le_refl _)) y hlt2
              simp only [hv] at hc
              have HC := Lib.hid hc
              clear hv hc
              go_wp2_with fail
              refine HC.out.mono ?_
              rintro e w5 ⟨rfl, hd5⟩
              have hd6 := hd2.trans hd5
              clear hd5 HC
              go_wp2
              go_roundw
              case rel => exact ⟨y + 1, v, by omega, by go_num, rfl, by unfold Hid; rw [allTo_succ, hA2.out, HV.out, decide_eq_false hxy]; rfl, hd6⟩
              case measure => simp [intOf]; omega
        · obtain rfl : y = n := by omega
          have HBX : Hid (overB T y x = u) := hA2.out
          have hO5 := Lib.hid (owns_under hO3.out (hd2.below _))
          have hB5 := hB3.trans (hd2.below w.heap.size)
          clear hA2 hO3 hB3 hd2 HRF
          rename World => w6
          cases u
          · go_wp2
            go_roundw
            case rel => exact ⟨x + 1, ao, co, l, by omega, by go_num, rfl, by omega, by unfold Hid; rw [candTo_no HBX.out]; exact hLx.out, hO5, hB5⟩
            case measure => simp [intOf]; omega
          · have hBs := hB5.size
            have HL4 : Hid (candTo (overB T y) (x + 1) = l ++ [(x : Int)]) := by unfold Hid; rw [candTo_yes HBX.out, hLx.out]
            go_wp2_with (at_builtin; refine wpList_append_own _ rfl _ _ 26 rfl w.heap.size 3 i0 (.int .i64 0) 1 8 Try.underlying26 hi hz0 hz1 hz2 rfl (by decide) _ _ _ rfl (hO5.out.alloc _) ⟨w6.heap.size, 0, none⟩ 1 1 [.int .i64 (x : Int)] rfl rfl (cell_one_new _ _ _) (by simp [Value.oneCell']) (by unfold maxLen; omega) (by omega) (by simp; omega) ?_; intro v' w4 hown' hgrow _; obtain ⟨a4, cap4, rfl⟩ := owns_slice hown')
            have hrow : ∀ j, (Value.slice ao l.length co).ownBlock = some j → w.heap.size ≤ j := fun j ej => (hO5.out.lt j ej).1
            have hB4 : Below w.heap.size w w4 := (hB5.alloc hBs (.cells #[.int .i64 (x : Int)] 3)).grown hgrow (by simp; omega) (fun j e => hrow j e)
            have HO4 : Hid (w4.ownsRow w.heap.size 3 1 (.slice a4 (l ++ [(x : Int)]).length cap4) (l ++ [(x : Int)]).length ((l ++ [(x : Int)]).map (Value.int .i64))) := by
              unfold Hid; rw [List.map_append, List.length_append]; exact hown'
            have hlen : l.length + 1 = (l ++ [(x : Int)]).length := by simp
            clear hown' hgrow hrow
            go_wp2
            go_roundw
            case rel => exact ⟨x + 1, a4, cap4, l ++ [(x : Int)], by omega, by go_num, by rw [← hlen], by omega, HL4, HO4, hB4⟩
            case measure => simp [intOf]; omega
    · obtain rfl : x = n := by omega
      have e2 : Hid (L = l) := by unfold Hid; rw [← HL.out, hLx.out]
      clear hLx
      go_wp2
      go_ret
      exact ⟨ao, co, by rw [e2.out]; rfl, by rw [e2.out]; exact hO.out, hB⟩

end Go.Proofs.Ytojfpnjnbpeniaa

namespace Go.Proofs.Ytojfpnjnbpeniaa
open Go.RowKit

attribute [local go_sem] Oper.semAt_some

/-- The block g holds the table M of n candidates. -/
structure IsPT (w : World) (g n : Nat) (M : Nat → Nat → Int) : Prop where
  lt : g < w.heap.size
  num : w.cell? ⟨g, 0, none⟩ = some (.int .i64 (n : Int))
  cell : ∀ x y, x < n → y < n → w.cell? ⟨g, 1 + x * 5 + y, none⟩ = some (.int .i64 (M x y))
theorem IsPT.near {w w' : World} {base lo hi g n : Nat} {M : Nat → Nat → Int} (h : IsPT w g n M) (hn : Near base lo hi w w') (hg : g < base) : IsPT w' g n M :=
  ⟨Nat.lt_of_lt_of_le h.lt hn.size, (hn.cell 0 (.inl hg)).trans h.num, fun x y hx hy => (hn.cell _ (.inl hg)).trans (h.cell x y hx hy)⟩
theorem IsPT.below {w w' : World} {g n : Nat} {M : Nat → Nat → Int} (h : IsPT w g n M) (hb : Below w.heap.size w w') : IsPT w' g n M :=
  ⟨Nat.lt_of_lt_of_le h.lt hb.size, (hb.cell (p := ⟨g, 0, none⟩) h.lt).trans h.num, fun x y hx hy => (hb.cell (p := ⟨g, 1 + x * 5 + y, none⟩) h.lt).trans (h.cell x y hx hy)⟩

set_option maxHeartbeats 1000000 in
/-- **counts$1**. -/
theorem counts1_any (g n x y bt bx : Nat) (M : Nat → Nat → Int) (z : Int) (w : World) (h : IsPT w g n M) (ht : w.cell? ⟨bt, 0, none⟩ = some (.pointer (some ⟨g, 0, none⟩))) (hx : w.cell? ⟨bx, 0, none⟩ = some (.int .i64 (x : Int))) (hx5 : x < n) (hy5 : y < n) (hn : n ≤ 5) (hz : M x y = z) :
    Calls Try.prog 102 #[.int .i64 (y : Int), .pointer (some ⟨bt, 0, none⟩), .pointer (some ⟨bx, 0, none⟩)] w fun e w' => e = .returned (.int .i64 z) ∧ Dr w w' := by
  have c := h.cell x y hx5 hy5
  rw [hz] at c
  have hxi : (x : Int) < 5 := by omega
  have hyi : (y : Int) < 5 := by omega
  clear h hz
  go_enter Try.func102, Try.ntmps102
  go_wp2_with fail
  go_quiet (fail)
  go_wp2
  go_ret
  exact ⟨rfl, Dr.drewN (Dr.refl _) _⟩

set_option maxHeartbeats 1000000 in
/-- **beats$1**. -/
theorem beats1_any (g n x y bt bx : Nat) (M : Nat → Nat → Int) (v : Bool) (w : World) (h : IsPT w g n M) (ht : w.cell? ⟨bt, 0, none⟩ = some (.pointer (some ⟨g, 0, none⟩))) (hx : w.cell? ⟨bx, 0, none⟩ = some (.int .i64 (x : Int))) (hx5 : x < n) (hy5 : y < n) (hn : n ≤ 5) (hv : decide (M y x < M x y) = v) :
    Calls Try.prog 103 #[.int .i64 (y : Int), .pointer (some ⟨bt, 0, none⟩), .pointer (some ⟨bx, 0, none⟩)] w fun e w' => e = .returned (.bool v) ∧ Dr w w' := by
  have c := h.cell x y hx5 hy5
  have c' := h.cell y x hy5 hx5
  obtain ⟨p, hp⟩ : ∃ p, M x y = p := ⟨_, rfl⟩
  obtain ⟨q, hq⟩ : ∃ q, M y x = q := ⟨_, rfl⟩
  rw [hp] at c
  rw [hq] at c'
  rw [hp, hq] at hv
  have hxi : (x : Int) < 5 := by omega
  have hyi : (y : Int) < 5 := by omega
  clear h hp hq
  go_enter Try.func103, Try.ntmps103
  go_wp2_with fail
  go_quiet (fail)
  go_wp2
  go_ret
  exact ⟨rfl, Dr.drewN (Dr.refl _) _⟩

theorem cell_first (w : World) (v : Value) (t : TypeId) : (w.alloc (.cells #[v] t)).cell? ⟨w.heap.size, 0, none⟩ = some v := by
  simp
theorem counts_ent : Ent 73 := Go.Proofs.enters_of Try.func73 (by kernel_rfl) rfl
theorem counts1_ent : Ent 102 := Go.Proofs.enters_of Try.func102 (by kernel_rfl) rfl
theorem beats_ent : Ent 75 := Go.Proofs.enters_of Try.func75 (by kernel_rfl) rfl
theorem beats1_ent : Ent 103 := Go.Proofs.enters_of Try.func103 (by kernel_rfl) rfl
set_option maxHeartbeats 1000000 in
/-- **counts** makes the row of x. -/
theorem counts_made (g x : Nat) (w : World) :
    Calls Try.prog 73 #[.pointer (some ⟨g, 0, none⟩), .int .i64 (x : Int)] w fun e w' => e = .returned (.func (.func 102) #[] #[.pointer (some ⟨w.heap.size, 0, none⟩), .pointer (some ⟨w.heap.size + 1, 0, none⟩)]) ∧
      Below w.heap.size w w' ∧ w'.cell? ⟨w.heap.size, 0, none⟩ = some (.pointer (some ⟨g, 0, none⟩)) ∧ w'.cell? ⟨w.heap.size + 1, 0, none⟩ = some (.int .i64 (x : Int)) ∧ w.heap.size + 1 < w'.heap.size := by
  go_enter Try.func73, Try.ntmps73
  go_wp2
  go_ret
  refine ⟨rfl, ((Below.refl _ w).alloc (Nat.le_refl _) _).alloc (by simp) _, ?_, ?_, by simp⟩
  · exact (World.cell?_alloc_past _ _ _ (by simp)).trans (cell_first w _ _)
  · have := cell_first (w.alloc (.cells #[.pointer (some ⟨g, 0, none⟩)] 81)) (.int .i64 (x : Int)) 3
    rwa [World.size_alloc] at this
theorem counts_row {w : World} {g n : Nat} {M : Nat → Nat → Int} (h : IsPT w g n M) (hn : n ≤ 5) : RowOf w 73 #[.pointer (some ⟨g, 0, none⟩)] #[] n 102 (fun x y => .int .i64 (M x y)) := by
  intro x hx w' hb
  have e0 : (#[Value.pointer (some ⟨g, 0, none⟩)] ++ #[Value.int .i64 (x : Int)] ++ #[] : Array Value) = #[.pointer (some ⟨g, 0, none⟩), .int .i64 (x : Int)] := rfl
  rw [e0]
  refine (counts_made g x w').mono ?_
  rintro e w2 ⟨rfl, hb2, c1, c2, hs⟩
  refine ⟨_, _, rfl, fun w3 hb3 y hy => ?_, hb2⟩
  exact counts1_any g n x y _ _ M _ w3 (((h.below hb).below hb2).near hb3 h.lt) ((hb3.cell 0 (.inr ⟨Nat.le_refl _, by omega⟩)).trans c1) ((hb3.cell 0 (.inr ⟨by omega, hs⟩)).trans c2) hx hy hn rfl

set_option maxHeartbeats 1000000 in
/-- **beats** makes the row of x. -/
theorem beats_made (g x : Nat) (w : World) :
    Calls Try.prog 75 #[.pointer (some ⟨g, 0, none⟩), .int .i64 (x : Int)] w fun e w' => e = .returned (.func (.func 103) #[] #[.pointer (some ⟨w.heap.size, 0, none⟩), .pointer (some ⟨w.heap.size + 1, 0, none⟩)]) ∧
      Below w.heap.size w w' ∧ w'.cell? ⟨w.heap.size, 0, none⟩ = some (.pointer (some ⟨g, 0, none⟩)) ∧ w'.cell? ⟨w.heap.size + 1, 0, none⟩ = some (.int .i64 (x : Int)) ∧ w.heap.size + 1 < w'.heap.size := by
  go_enter Try.func75, Try.ntmps75
  go_wp2
  go_ret
  refine ⟨rfl, ((Below.refl _ w).alloc (Nat.le_refl _) _).alloc (by simp) _, ?_, ?_, by simp⟩
  · exact (World.cell?_alloc_past _ _ _ (by simp)).trans (cell_first w _ _)
  · have := cell_first (w.alloc (.cells #[.pointer (some ⟨g, 0, none⟩)] 81)) (.int .i64 (x : Int)) 3
    rwa [World.size_alloc] at this
theorem beats_row {w : World} {g n : Nat} {M : Nat → Nat → Int} (h : IsPT w g n M) (hn : n ≤ 5) : RowOf w 75 #[.pointer (some ⟨g, 0, none⟩)] #[] n 103 (fun x y => .bool (decide (M y x < M x y))) := by
  intro x hx w' hb
  have e0 : (#[Value.pointer (some ⟨g, 0, none⟩)] ++ #[Value.int .i64 (x : Int)] ++ #[] : Array Value) = #[.pointer (some ⟨g, 0, none⟩), .int .i64 (x : Int)] := rfl
  rw [e0]
  refine (beats_made g x w').mono ?_
  rintro e w2 ⟨rfl, hb2, c1, c2, hs⟩
  refine ⟨_, _, rfl, fun w3 hb3 y hy => ?_, hb2⟩
  exact beats1_any g n x y _ _ M _ w3 (((h.below hb).below hb2).near hb3 h.lt) ((hb3.cell 0 (.inr ⟨Nat.le_refl _, by omega⟩)).trans c1) ((hb3.cell 0 (.inr ⟨by omega, hs⟩)).trans c2) hx hy hn rfl

end Go.Proofs.Ytojfpnjnbpeniaa
