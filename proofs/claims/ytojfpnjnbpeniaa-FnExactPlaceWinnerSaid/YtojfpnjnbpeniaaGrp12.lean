/-
  slices.Max at ints, impl.greatestCount: the greatest of some counts, of several ones the one who comes first in the lots.
  spec.LotsValid, spec.LotsFirst and spec.LotsSeal: what they answer at every list of at most 1048600 ints, every list of bools and every number; they write nothing.
  The winner of places, as lists: candidates exchanged; a winner of pairs is not the last one. Of no memory.
  The statements' own small functions (toIntS, eqIntS, toBoolS, eqBoolS, markIntS, heldIntS): what each returns, and that it writes only into memory of its own. No condition but what each theorem says.
  The statements' own small functions at bools (toBoolS, eqBoolS): what each returns, and that it writes only into memory of its own. No condition but what each theorem says.
  Who has left, drawn (l91Left): a new slice of bools; the reader has gone on. No condition but what each theorem says.
-/
import Derived.Test.YtojfpnjnbpeniaaGrp9
import Derived.Test.YtojfpnjnbpeniaaGrp11
import Derived.Test.YtojfpnjnbpeniaaGrp8
import Derived.Test.YtojfpnjnbpeniaaGrp6
import Derived.Test.YtojfpnjnbpeniaaGrp1
import Derived.Test.YtojfpnjnbpeniaaGrp5
import Derived.Laws.OwnMore
import Derived.OwnWalk
import Derived.Test.YtojfpnjnbpeniaaGrp7
import Derived.Deep.Onto
namespace Go.Proofs.Ytojfpnjnbpeniaa
open Go.RowKit

attribute [local go_sem] Oper.semAt_some

theorem bool_info9 : (Try.prog.info? 4).map (fun i => (i.zero, i.size, i.bytes)) = some (some (.bool false), 1, 1) := by kernel_rfl

set_option maxRecDepth 100000 in
set_option maxHeartbeats 2000000 in
/-- **slices.Max**. -/
theorem slicesMax_as (a : Option Addr) (len cap : Nat) (zs : List Int) (w : World) (h : IsInts w a len cap zs) (hp : 0 < len) (m : Int) (hm : maxTo zs (len - 1) = m) :
    Calls Try.prog 61 #[.slice a len cap] w fun e w' => e = .returned (.int .i64 m) ∧ w = w' := by
  obtain ⟨h1, h2, h3, h4⟩ := h
  obtain ⟨b, off, rfl, hb, hc⟩ := h4 hp
  have HC := Lib.hid hc
  have HM := Lib.hid hm
  have c0 := hc 0 hp
  rw [Nat.add_zero] at c0
  obtain ⟨z0, hz0⟩ : ∃ z0, zs[0]?.getD 0 = z0 := ⟨_, rfl⟩
  rw [hz0] at c0
  have HZ0 : Hid (maxTo zs 0 = z0) := hz0
  have hlt1 : decide ((len : Int) < 1) = false := decide_eq_false (by omega)
  have hlt2 : decide (len = 0) = false := decide_eq_false (by omega)
  have hlt3 : ¬ len = 0 := by omega
  have hpi : (0 : Int) < (len : Int) := by omega
  clear hc h4 hm hz0 h1
  go_enter Try.func61, Try.ntmps61
  go_wp2
  go_loop [3, 4] (fun mv iv => ∃ (i : Nat) (x : Int), 1 ≤ i ∧ i ≤ len ∧ iv = .int .i64 (i : Int) ∧ mv = .int .i64 x ∧ Hid (maxTo zs (i - 1) = x)) (fun _ iv => len - (intOf iv).toNat)
  case atStart => exact ⟨1, z0, Nat.le_refl _, hp, rfl, rfl, HZ0⟩
  case round =>
    clear HZ0 c0
    obtain ⟨i, x, hi1, hil, rfl, rfl, hx⟩ := hrel
    by_cases hlt : i < len
    · have ci := HC.out i hlt
      obtain ⟨z, hz⟩ : ∃ z, zs[i]?.getD 0 = z := ⟨_, rfl⟩
      rw [hz] at ci
      have HX : Hid (maxTo zs i = max x z) := by
        obtain ⟨k, rfl⟩ : ∃ k, i = k + 1 := ⟨i - 1, by omega⟩
        have := hx.out
        rw [Nat.add_sub_cancel] at this
        rw [Hid, maxTo_succ, this, hz]
      clear hz
      by_cases hxz : x < z
      · have HX2 : Hid (maxTo zs (i + 1 - 1) = z) := by rw [Nat.add_sub_cancel, Hid, HX.out]; omega
        go_wp2
        go_round
        case rel => exact ⟨i + 1, z, by omega, by omega, by go_num, by first | rfl | (congr 1; omega), HX2⟩
        case measure => simp [intOf]; omega
      · have HX2 : Hid (maxTo zs (i + 1 - 1) = x) := by rw [Nat.add_sub_cancel, Hid, HX.out]; omega
        go_wp2
        go_round
        case rel => exact ⟨i + 1, x, by omega, by omega, by go_num, by first | rfl | (congr 1; omega), HX2⟩
        case measure => simp [intOf]; omega
    · obtain rfl : i = len := by omega
      go_wp2
      go_ret
      exact ⟨ret_int (by rw [← HM.out, hx.out]), rfl⟩

theorem eqTo_next (c : List Int) (m : Int) (n k : Nat) : ((List.range n).map fun i => Value.bool (decide (i < k) && (c[i]?.getD 0 == m))).set k (.bool (c[k]?.getD 0 == m)) = (List.range n).map fun i => Value.bool (decide (i < k + 1) && (c[i]?.getD 0 == m)) := by
  refine List.ext_getElem (by simp) (fun i h1 h2 => ?_)
  by_cases e : k = i
  · subst e; simp
  · rw [List.getElem_set_ne e]
    simp only [List.getElem_map, List.getElem_range]
    by_cases g : i < k
    · rw [decide_eq_true g, decide_eq_true (by omega : i < k + 1)]
    · rw [decide_eq_false g, decide_eq_false (by omega : ¬ i < k + 1)]
theorem falses_made (n : Nat) (f : Nat → Bool) : (madeCells (Value.bool false).cells (n * 1)).toList = (List.range n).map fun i => Value.bool (decide (i < 0) && f i) := by
  rw [show (Value.bool false).cells = #[.bool false] from rfl, toList_madeCells_one, Nat.mul_one]
  refine List.ext_getElem (by simp) (fun i h1 h2 => ?_)
  simp
theorem bools_owned {w : World} {base g n c : Nat} {f : Nat → Bool} (h : w.ownsRow base 4 1 (.slice (some ⟨g, 0, none⟩) n c) n ((List.range n).map fun i => Value.bool (f i))) (hn : n ≤ 1048600) (hc : n ≤ c) : IsBools w (some ⟨g, 0, none⟩) n c ((List.range n).map f) := by
  refine ⟨by simp, hc, hn, fun hp => ⟨g, 0, rfl, (h.lt g rfl).2, fun j hj => ?_⟩⟩
  rw [Nat.zero_add, h.cellAt j (by omega)]
  simp [hj]

set_option maxRecDepth 100000 in
set_option maxHeartbeats 2000000 in
/-- **greatestCount**. -/
theorem great_as (a : Option Addr) (n cap : Nat) (cs : List Int) (a' : Option Addr) (cap' : Nat) (lots : List Int) (w : World) (h : IsInts w a n cap cs) (h' : IsInts w a' n cap' lots) (hl : lotsB lots = true) (h0 : ∀ i, i < n → 0 ≤ cs[i]?.getD 0) (r : Int) (hr : pickL lots (mostL cs (allL n)) = r) :
    Calls Try.prog 62 #[.slice a n cap, .slice a' n cap'] w fun e w' => e = .returned (.int .i64 r) ∧ Below w.heap.size w w' := by
  obtain ⟨i0, hi, hz0, hz1, hz2⟩ := info_parts bool_info9
  have hlen := h'.1
  have hn := lotsB_len hl
  rw [hlen] at hn
  have hcs := h.1
  obtain ⟨m, hm⟩ : ∃ m, maxTo cs (n - 1) = m := ⟨_, rfl⟩
  have HR : Hid (pickB lots (eqTo cs m n) = r) := by
    rw [Hid, pickB, if_pos ⟨hl, by rw [eqTo_length, hlen]⟩, ← hr, most_great hcs hn.1 h0, hm]
  have H := Lib.hid h
  have H' := Lib.hid h'
  have HM := Lib.hid hm
  clear h h' hr hm h0 hcs hlen
  go_enter Try.func62, Try.ntmps62
  go_wp2_with fail
  refine (slicesMax_as _ _ _ cs _ H.out (by omega) m HM.out).mono ?_
  rintro e w1 ⟨rfl, rfl⟩
  obtain ⟨g, hg⟩ : ∃ g, w.heap.size = g := ⟨_, rfl⟩
  go_wp2_with (at_make; refine wpList_make_full _ rfl _ _ 31 rfl w.heap.size 4 i0 (.bool false) 1 Try.underlying31 hi hz0 hz1 .i64 .i64 _ _ n rfl rfl rfl rfl (by rw [hz2]; omega) (by unfold maxLen; omega) (Nat.le_refl _) ?_; intro w2 hown hgrow)
  have hb2 : Below g w w2 := hg ▸ (Below.refl _ w).grown hgrow (Nat.le_refl _) (fun k e => by cases e)
  rw [hg, falses_made n (fun i => cs[i]?.getD 0 == m)] at hown
  have O2 := Lib.hid hown
  have HG := Lib.hid hg
  clear hown hgrow hg hi hz0 hz1 hz2
  go_wp2
  go_loopw [7, 8, 16] (fun _ _ iv wr => ∃ i : Nat, i ≤ n ∧ iv = .int .i64 (i : Int) ∧ Hid (wr.ownsRow g 4 1 (.slice (some ⟨g, 0, none⟩) n n) n ((List.range n).map fun k => Value.bool (decide (k < i) && (cs[k]?.getD 0 == m)))) ∧ Below g w wr) (fun _ _ iv _ => n - (intOf iv).toNat)
  case atStart => exact ⟨0, Nat.zero_le _, rfl, O2, hb2⟩
  case round =>
    clear O2 hb2
    obtain ⟨i, hin, rfl, hO, hB⟩ := hrel
    have hBw : Below w.heap.size w wr := HG.out.symm ▸ hB
    by_cases hlt : i < n
    · obtain ⟨b, off, rfl, hb, hc⟩ := (H.out.below hBw).2.2.2 (by omega)
      have ci := hc i hlt
      obtain ⟨z, hz⟩ : ∃ z, cs[i]?.getD 0 = z := ⟨_, rfl⟩
      obtain ⟨v, hv⟩ : ∃ v, (z == m) = v := ⟨_, rfl⟩
      rw [hz] at ci
      have hst := (hO.out.stored i (.bool v)).1
      have O3 : Hid ((wr.setCell ⟨g, i, none⟩ (.bool v)).ownsRow g 4 1 (.slice (some ⟨g, 0, none⟩) n n) n ((List.range n).map fun k => Value.bool (decide (k < i + 1) && (cs[k]?.getD 0 == m)))) := by
        rw [Hid, ← eqTo_next cs m n i, hz, hv]; exact hst
      have hgc : wr.cell? ⟨g, i, none⟩ = some (.bool (decide (i < i) && (z == m))) := by
        rw [hO.out.cellAt i (by omega)]; simp [hlt, hz]
      have hfz := hO.out.frozenAt i
      have B3 : Below g w (wr.setCell ⟨g, i, none⟩ (.bool v)) := hB.setCell (p := ⟨g, i, none⟩) (Nat.le_refl _) _
      clear hc hst hO hB hBw hz
      go_wp2
      go_roundw
      case rel => exact ⟨i + 1, by omega, by go_num, O3, B3⟩
      case measure => simp [intOf]; omega
    · obtain rfl : i = n := by omega
      have J : Hid (IsBools wr (some ⟨g, 0, none⟩) i i (eqTo cs m i)) := by
        have h1 := bools_owned hO.out (by omega) (Nat.le_refl _)
        have h2 : ((List.range i).map fun k => decide (k < i) && (cs[k]?.getD 0 == m)) = eqTo cs m i := by
          unfold eqTo
          refine List.map_congr_left (fun k hk => ?_)
          rw [decide_eq_true (List.mem_range.1 hk), Bool.true_and]
        rw [h2] at h1; exact h1
      have K := Lib.hid (H'.out.below hBw)
      clear hO
      go_wp2_with fail
      refine (implPick_any _ _ _ lots _ _ _ (eqTo cs m i) _ K.out J.out).mono ?_
      rw [HR.out]
      rintro e w5 ⟨rfl, hb5⟩
      go_wp2
      go_ret
      exact ⟨rfl, hBw.trans (hb5.mono hBw.size)⟩

end Go.Proofs.Ytojfpnjnbpeniaa

namespace Go.Proofs.Ytojfpnjnbpeniaa
open Go.RowKit

theorem lotsB_eq {zs : List Int} {len : Nat} (h : zs.length = len) (hl : len ≤ 1048600) : lotsB zs = (goodTo zs ((len : Int) - 1) len && inB (len : Int) 1 5) := by
  unfold lotsB validB
  rw [h, IntWalk.wrap64_in _ ⟨by omega, by omega⟩]

set_option maxHeartbeats 400000 in
/-- **spec.LotsValid**. -/
theorem specLots_any (a : Option Addr) (len cap : Nat) (zs : List Int) (w : World) (h : IsInts w a len cap zs) :
    Calls Try.prog 63 #[.slice a len cap] w fun e w' => e = .returned (.bool (lotsB zs)) ∧ Dr w w' := by
  have hl := h.2.2.1
  have HV := Lib.hid (lotsB_eq h.1 hl)
  have H := Lib.hid h; clear h
  go_enter Try.func63, Try.ntmps63
  go_wp2
  go_loopw [3] (fun i wr => ∃ k : Nat, k ≤ len ∧ i = .int .i64 k ∧ Hid (goodTo zs ((len : Int) - 1) k = true) ∧ Dr w wr) (fun i _ => len - (intOf i).toNat)
  case atStart => exact ⟨0, Nat.zero_le _, rfl, by simp [Hid, goodTo], Dr.refl _⟩
  case round =>
    obtain ⟨k, hk, rfl, hc, hd⟩ := hrel
    by_cases hlt : k < len
    · have HI := H.out.dr hd
      have HK := HI.take hk
      obtain ⟨h1, h2, h3, h4⟩ := HI
      obtain ⟨b, off, rfl, hb, hcell⟩ := h4 (by omega)
      have hck := hcell k hlt
      have HS := goodTo_succ zs ((len : Int) - 1) k
      rw [hc.out, Bool.true_and] at HS
      have HS := Lib.hid HS
      clear h1 h4 hcell
      by_cases hin : inB (zs[k]?.getD 0) 0 ((len : Int) - 1) = true
      · cases hh : hasB (zs.take k) (zs[k]?.getD 0)
        all_goals
          go_wp2
          go_quiet (first | (go_at_call 54; exact quiet_same (l6In_any _ _ _ _)) | (go_at_call 100; exact quiet_same (l1Has_any _ _ _ _ _ _ (HK.drewN _))))
          go_wp2
        · go_roundw
          case rel => exact ⟨k + 1, by omega, by go_num, by unfold Hid; rw [HS.out, hin, hh]; rfl, hd.drewN _⟩
          case measure => simp [intOf]; omega
        · go_ret
          refine ⟨ret_bool ?_, hd.drewN _⟩
          rw [HV.out, goodTo_no (by rw [HS.out, hin, hh]; rfl) hlt]; rfl
      · have hin' : inB (zs[k]?.getD 0) 0 ((len : Int) - 1) = false := by simpa using hin
        clear hin
        go_wp2
        go_quiet (first | (go_at_call 54; exact quiet_same (l6In_any _ _ _ _)) | (go_at_call 100; exact quiet_same (l1Has_any _ _ _ _ _ _ (HK.drewN _))))
        go_wp2
        go_ret
        refine ⟨ret_bool ?_, hd.drewN _⟩
        rw [HV.out, goodTo_no (by rw [HS.out, hin']; rfl) hlt]; rfl
    · obtain rfl : k = len := by omega
      go_wp2_with (go_at_call 54; refine (l6In_any _ _ _ _).mono ?_; rintro e w' ⟨rfl, rfl⟩)
      go_ret
      refine ⟨ret_bool ?_, hd⟩
      rw [HV.out, hc.out, Bool.true_and]

set_option maxHeartbeats 1000000 in
theorem l4First_any (a : Option Addr) (len cap : Nat) (zs : List Int) (a' : Option Addr) (len' cap' : Nat) (L : List Bool) (w : World) (h : IsInts w a len cap zs) (h' : IsBools w a' len' cap' L) (hr : ∀ z ∈ zs, 0 ≤ z ∧ z < (len' : Int)) :
    Calls Try.prog 66 #[.slice a len cap, .slice a' len' cap'] w fun e w' => e = .returned (.int .i64 (pickL zs L)) ∧ w = w' := by
  obtain ⟨h1, h2, h3, h4⟩ := h
  obtain ⟨g1, g2, g3, g4⟩ := h'
  have H1 := Lib.hid h1; clear h1
  have H4 := Lib.hid h4; clear h4
  have G4 := Lib.hid g4; clear g4 g1
  have HR := Lib.hid hr; clear hr
  go_enter Try.func66, Try.ntmps66
  go_wp2
  go_loop [5] (fun i => ∃ k : Nat, k ≤ len ∧ i = .int .i64 k ∧ Hid (pickL zs L = pickL (zs.drop k) L)) (fun i => len - (intOf i).toNat)
  case atStart => exact ⟨0, Nat.zero_le _, rfl, by simp [Hid]⟩
  case round =>
    obtain ⟨k, hk, rfl, hp⟩ := hrel
    by_cases hlt : k < len
    · obtain ⟨b, o, rfl, hb, hc⟩ := H4.out (by omega)
      have hz := hc k hlt
      have hkz : k < zs.length := by rw [H1.out]; exact hlt
      have hr := HR.out (zs[k]?.getD 0) (by simp [hkz])
      obtain ⟨c, hcz⟩ := Int.eq_ofNat_of_zero_le hr.1
      obtain ⟨lb, lo, rfl, hlb, hlc⟩ := G4.out (by omega)
      have hcl : c < len' := by omega
      have hcell := hlc c hcl
      rw [hcz] at hz
      have HD : zs.drop k = (c : Int) :: zs.drop (k + 1) := by
        rw [List.drop_eq_getElem_cons hkz, ← hcz]; simp [hkz]
      have HD := Lib.hid HD
      clear hc hlc hr hcz hkz
      cases hL : L[c]?.getD false
      · have HL := Lib.hid hL
        go_wp2
        go_round
        case rel =>
          refine ⟨k + 1, by omega, by go_num, ?_⟩
          unfold Hid
          rw [hp.out, HD.out, pickL, if_neg (by rw [Int.toNat_natCast, HL.out]; simp)]
        case measure => simp [intOf]; omega
      · have HL := Lib.hid hL
        go_wp2
        go_ret
        refine ⟨ret_int ?_, rfl⟩
        rw [hp.out, HD.out, pickL, if_pos (by rw [Int.toNat_natCast]; exact HL.out)]
    · obtain rfl : k = len := by omega
      go_wp2
      go_ret
      refine ⟨ret_int ?_, rfl⟩
      rw [hp.out, List.drop_of_length_le (by rw [H1.out]; omega)]; rfl

end Go.Proofs.Ytojfpnjnbpeniaa

namespace Go.Proofs.Ytojfpnjnbpeniaa

def plaW (ps : List Pl) (lots : List Int) : Int := pickL lots (mostL (plaL ps lots.length) (allL lots.length))
theorem pla_win {ps : List Pl} {lots : List Int} (hl : lotsB lots = true) (hp : ∀ p ∈ ps, 1 ≤ p.2) (hv : ∀ p ∈ ps, validB (nums p.1) 5 = true ∧ validB (nums p.1) (lots.length : Int) = true) : IsWin (plaL ps lots.length) (allL lots.length) lots (plaW ps lots) := by
  have hn := lotsB_len hl
  refine win_pick hl (plaL_length _ _) (fun i hi => ?_) ⟨0, ?_, allL_at (by omega)⟩
  · rw [plaL_length] at hi; exact plaL_low hi hv hp
  · rw [plaL_length]; omega
theorem pla_top {ps : List Pl} {lots : List Int} (hl : lotsB lots = true) (hp : ∀ p ∈ ps, 1 ≤ p.2) (hv : ∀ p ∈ ps, validB (nums p.1) 5 = true ∧ validB (nums p.1) (lots.length : Int) = true) : topI (plaL ps lots.length) = (plaL ps lots.length)[(plaW ps lots).toNat]?.getD 0 :=
  win_top hl (plaL_length _ _) (fun i hi => plaL_low (by rwa [plaL_length] at hi) hv hp) (pla_win hl hp hv)
/-- **Candidates are treated alike.** -/
theorem pla_turn {ps : List Pl} {lots : List Int} (hl : lotsB lots = true) (hp : ∀ p ∈ ps, 1 ≤ p.2) (hv : ∀ p ∈ ps, validB (nums p.1) 5 = true ∧ validB (nums p.1) (lots.length : Int) = true) {x y : Int} (hx : 0 ≤ x ∧ x < (lots.length : Int)) (hy : 0 ≤ y ∧ y < (lots.length : Int)) (hv' : ∀ p ∈ turnPs x y ps, validB (nums p.1) 5 = true ∧ validB (nums p.1) (lots.length : Int) = true) : plaW (turnPs x y ps) (turnB x y lots) = swapC x y (plaW ps lots) := by
  have hn := lotsB_len hl
  have hm := (vB_mem hl).2.2
  obtain ⟨hl', hlen⟩ := lots_turn hl hx hy
  have h1 := pla_win hl' (ps := turnPs x y ps) (turnPs_pos hp) (by rw [hlen]; exact hv')
  rw [hlen] at h1
  refine win_one h1 (win_turn (pla_win hl hp hv) (fun z hz => ?_) (fun z hz => ?_))
  · have hz' := hm z hz
    have := plaL_turn (by omega) hx hy (fun p hp' => (hv p hp').1) (k := z.toNat) (by omega)
    rwa [Int.toNat_of_nonneg hz'.1] at this
  · have hz' := hm z hz
    have hs := (swapC_in hx hy).2 hz'
    rw [allL_at (by omega), allL_at (by omega)]

theorem totI_add (f g : Nat → Int) (n : Nat) : totI ((List.range n).map fun k => f k + g k) = totI ((List.range n).map f) + totI ((List.range n).map g) := by
  induction n with
  | zero => rfl
  | succ n ih =>
    simp only [List.range_succ, List.map_append, List.map_cons, List.map_nil, totI_snoc]
    rw [ih]; omega
theorem totI_nought (n : Nat) : totI ((List.range n).map fun _ => (0 : Int)) = 0 := by
  induction n with
  | zero => rfl
  | succ n ih => simp only [List.range_succ, List.map_append, List.map_cons, List.map_nil, totI_snoc]; rw [ih]; rfl
theorem totI_swap (F : Nat → Nat → Int) (n m : Nat) : totI ((List.range n).map fun i => totI ((List.range m).map fun y => F i y)) = totI ((List.range m).map fun y => totI ((List.range n).map fun i => F i y)) := by
  induction n with
  | zero => exact (totI_nought m).symm
  | succ n ih =>
    simp only [List.range_succ, List.map_append, List.map_cons, List.map_nil, totI_snoc]
    rw [ih, ← totI_add]
theorem totI_const (c : Int) (n : Nat) : totI ((List.range n).map fun _ => c) = (n : Int) * c := by
  induction n with
  | zero => rw [List.range_zero, List.map_nil, totI_nil]; simp
  | succ n ih =>
    simp only [List.range_succ, List.map_append, List.map_cons, List.map_nil, totI_snoc]
    rw [ih, show ((n + 1 : Nat) : Int) = (n : Int) + 1 by omega, Int.add_mul, Int.one_mul]
theorem totI_all {f g : Nat → Int} {n : Nat} (h : ∀ k, k < n → f k ≤ g k) : totI ((List.range n).map f) ≤ totI ((List.range n).map g) := by
  induction n with
  | zero => exact Int.le_refl _
  | succ n ih =>
    simp only [List.range_succ, List.map_append, List.map_cons, List.map_nil, totI_snoc]
    have a := ih (fun k hk => h k (by omega))
    have b := h n (by omega)
    omega
theorem totI_eq {f g : Nat → Int} {n : Nat} (h : ∀ k, k < n → f k = g k) : totI ((List.range n).map f) = totI ((List.range n).map g) :=
  congrArg totI (List.map_congr_left (fun k hk => h k (List.mem_range.1 hk)))
/-- A sum with one place that is less. -/
theorem totI_but (c : Int) (x n : Nat) (h : x < n) : totI ((List.range n).map fun k => if k = x then (0 : Int) else c) = ((n : Int) - 1) * c := by
  have h1 : totI ((List.range n).map fun k => (if k = x then (0 : Int) else c) + (if (x : Int) = (k : Int) then 1 else 0) * c) = totI ((List.range n).map fun _ => c) :=
    totI_eq (fun k _ => by
      by_cases e : k = x
      · rw [if_pos e, if_pos (by omega)]; omega
      · rw [if_neg e, if_neg (by omega)]; omega)
  rw [totI_add, totI_const] at h1
  have h2 : totI ((List.range n).map fun (k : Nat) => (if (x : Int) = (k : Int) then (1 : Int) else 0) * c) = c := by
    have h3 := totI_one n (x : Int)
    rw [if_pos (by omega)] at h3
    have h4 : ∀ m, totI ((List.range m).map fun (k : Nat) => (if (x : Int) = (k : Int) then (1 : Int) else 0) * c) = totI ((List.range m).map fun (k : Nat) => if (x : Int) = (k : Int) then (1 : Int) else 0) * c := by
      intro m
      induction m with
      | zero => rw [List.range_zero, List.map_nil, List.map_nil, totI_nil, Int.zero_mul]
      | succ m im =>
        simp only [List.range_succ, List.map_append, List.map_cons, List.map_nil, totI_snoc]
        rw [im, Int.add_mul]
    rw [h4, h3, Int.one_mul]
  rw [h2] at h1
  rw [Int.sub_mul, Int.one_mul]
  omega
/-- On full ballots one of two is preferred. -/
theorem pair_full {ps : List Pl} {n x y : Nat} (hx : x < n) (hxy : x ≠ y) (hv : ∀ p ∈ ps, validB (nums p.1) 5 = true ∧ validB (nums p.1) (n : Int) = true) (hf : ∀ p ∈ ps, p.1.size = n) : pairF ps x y + pairF ps y x = sumL ps := by
  rw [pairF, pairF, ← wsum_add, ← wsum_one]
  refine wsum_congr (fun p hp => ?_)
  obtain ⟨h5, hn⟩ := hv p hp
  have hd := vB_nodup hn
  have hm := (vB_mem hn).2.2
  have hall : ∀ k, k < n → (k : Int) ∈ nums p.1 := fun k hk => by
    by_cases e : (k : Int) ∈ nums p.1
    · exact e
    · have := few_of n ((k : Int) :: nums p.1) (List.nodup_cons.2 ⟨e, hd⟩) (fun z hz => by
        rcases List.mem_cons.1 hz with g | g
        · subst g; omega
        · exact hm z g)
      rw [List.length_cons, nums_length, hf p hp] at this
      omega
  have hne : (x : Int) ≠ (y : Int) := by omega
  have e1 : prefB (nums p.1) (x : Int) (y : Int) = prefL (nums p.1) (x : Int) (y : Int) := by unfold prefB; rw [if_pos ⟨h5, hne⟩]
  have e2 : prefB (nums p.1) (y : Int) (x : Int) = prefL (nums p.1) (y : Int) (x : Int) := by unfold prefB; rw [if_pos ⟨h5, hne.symm⟩]
  unfold prefF
  rw [parseL_ok h5, e1, e2]
  have halt := prefL_alt (x : Int) (y : Int) hne (nums p.1)
  have hhas : hasB (nums p.1) (x : Int) = true := by
    have := hall x hx
    simp [hasB, this]
  rw [hhas, Bool.true_and] at halt
  rw [halt]
  cases prefL (nums p.1) (y : Int) (x : Int) <;> rfl
/-- **A winner of pairs is not the last one**, where all ballots name all candidates. -/
theorem pla_not_last {ps : List Pl} {n w : Nat} (hn : 2 ≤ n) (hw : w < n) (hwin : Wins (pairF ps) n w) (hv : ∀ p ∈ ps, validB (nums p.1) 5 = true ∧ validB (nums p.1) (n : Int) = true) (hf : ∀ p ∈ ps, p.1.size = n) : ∃ i, i < n ∧ (plaL ps n)[i]?.getD 0 < (plaL ps n)[w]?.getD 0 := by
  rcases Classical.em (∃ i, i < n ∧ (plaL ps n)[i]?.getD 0 < (plaL ps n)[w]?.getD 0) with g | g
  · exact g
  · exfalso
    have hge : ∀ i, i < n → (plaL ps n)[w]?.getD 0 ≤ (plaL ps n)[i]?.getD 0 := fun i hi => by
      rcases Int.lt_or_le ((plaL ps n)[i]?.getD 0) ((plaL ps n)[w]?.getD 0) with q | q
      · exact absurd ⟨i, hi, q⟩ g
      · exact q
    -- the winner has more than half
    have h1 : totI ((List.range n).map fun y => if y = w then (0 : Int) else sumL ps + 1) ≤ totI ((List.range n).map fun y => pairF ps w y + pairF ps w y) := totI_all (fun y hy => by
      by_cases e : y = w
      · subst e; rw [if_pos rfl, pairF_self]; exact Int.le_refl _
      · rw [if_neg e]
        have a := pair_full hw (fun q => e q.symm) hv hf
        have b := hwin y hy e
        omega)
    rw [totI_but _ _ _ hw, totI_add, place_pairs hw hv] at h1
    -- all together have the half
    have h2 : totI ((List.range n).map fun i => totI ((List.range n).map fun y => pairF ps i y + pairF ps y i)) = totI ((List.range n).map fun (_ : Nat) => ((n : Int) - 1) * sumL ps) := totI_eq (fun i hi => by
      rw [← totI_but (sumL ps) i n hi]
      exact totI_eq (fun y hy => by
        by_cases e : y = i
        · subst e; rw [if_pos rfl, pairF_self]; rfl
        · rw [if_neg e]; exact pair_full hi (fun q => e q.symm) hv hf))
    rw [totI_const] at h2
    have h3 : totI ((List.range n).map fun i => totI ((List.range n).map fun y => pairF ps i y + pairF ps y i)) = totI ((List.range n).map fun i => totI ((List.range n).map fun y => pairF ps i y)) + totI ((List.range n).map fun i => totI ((List.range n).map fun y => pairF ps i y)) := by
      rw [totI_eq (fun i _ => totI_add (fun y => pairF ps i y) (fun y => pairF ps y i) n), totI_add]
      rw [totI_swap (fun i y => pairF ps y i)]
    have h4 : totI ((List.range n).map fun (_ : Nat) => (plaL ps n)[w]?.getD 0) ≤ totI ((List.range n).map fun i => totI ((List.range n).map fun y => pairF ps i y)) := totI_all (fun i hi => by
      rw [place_pairs hi hv]; exact hge i hi)
    rw [totI_const] at h4
    rw [h2] at h3
    generalize totI ((List.range n).map fun i => totI ((List.range n).map fun y => pairF ps i y)) = S at h3 h4
    generalize (plaL ps n)[w]?.getD 0 = P at h1 h4
    generalize sumL ps = T at h1 h3
    have h5 : (n : Int) * (((n : Int) - 1) * (T + 1)) ≤ (n : Int) * (P + P) := Int.mul_le_mul_of_nonneg_left h1 (by omega)
    have h6 : (n : Int) * (((n : Int) - 1) * (T + 1)) = (n : Int) * (((n : Int) - 1) * T) + (n : Int) * ((n : Int) - 1) := by rw [Int.mul_add, Int.mul_add, Int.mul_one]
    have h7 : (n : Int) * (P + P) = (n : Int) * P + (n : Int) * P := Int.mul_add _ _ _
    have h8 : 0 < (n : Int) * ((n : Int) - 1) := Int.mul_pos (by omega) (by omega)
    omega

end Go.Proofs.Ytojfpnjnbpeniaa

namespace Go.Proofs.Ytojfpnjnbpeniaa
open Go.RowKit

set_option maxHeartbeats 1000000 in
/-- **toIntS**: a new slice with the same ints. -/
theorem toIntS_any (a : Option Addr) (len cap : Nat) (zs : List Int) (w : World) (h : IsInts w a len cap zs) :
    Calls Try.prog 48 #[.slice a len cap] w fun e w' => ∃ g, e = .returned (.slice (some ⟨g, 0, none⟩) len len) ∧ w'.ownsRow w.heap.size 3 1 (.slice (some ⟨g, 0, none⟩) len len) len (zs.map (Value.int .i64)) ∧ Below w.heap.size w w' := by
  obtain ⟨i0, hi, hz0, hz1, hz2⟩ := info_parts int_info
  have H := Lib.hid h
  have hm : len ≤ 1048600 := h.2.2.1
  clear h
  go_enter Try.func48, Try.ntmps48
  go_wp2_with (at_make; refine wpList_make_full _ rfl _ _ 26 rfl w.heap.size 3 i0 (.int .i64 0) 1 Try.underlying26 hi hz0 hz1 .i64 .i64 _ _ len rfl rfl rfl rfl (by rw [hz2]; omega) (by unfold maxLen; omega) (Nat.le_refl _) ?_; intro w1 hown hgrow)
  have hB1 : Below w.heap.size w w1 := (Below.refl _ w).grown hgrow (Nat.le_refl _) (fun k e => by cases e)
  have HO : Hid (w1.ownsRow w.heap.size 3 1 (.slice (some ⟨w.heap.size, 0, none⟩) len len) len ((fillTo zs len 0).map (Value.int .i64))) := by
    unfold Hid
    have e : (madeCells (Value.int .i64 0).cells (len * 1)).toList = (fillTo zs len 0).map (Value.int .i64) := by
      rw [show (Value.int .i64 0).cells = #[.int .i64 0] from rfl, toList_madeCells_one]; simp [fillTo]
    rw [← e]; exact hown
  clear hown hgrow hi hz0 hz1 hz2
  go_wp2
  go_loopw [4] (fun i wr => ∃ k : Nat, k ≤ len ∧ i = .int .i64 k ∧ Hid (wr.ownsRow w.heap.size 3 1 (.slice (some ⟨w.heap.size, 0, none⟩) len len) len ((fillTo zs len k).map (Value.int .i64))) ∧ Below w.heap.size w wr) (fun i _ => len - (intOf i).toNat)
  case atStart => exact ⟨0, Nat.zero_le _, rfl, HO, hB1⟩
  case round =>
    obtain ⟨k, hk, rfl, ho, hB⟩ := hrel
    have HI := H.out.below hB
    obtain ⟨h1, h2, h3, h4⟩ := HI
    have H1 := Lib.hid h1; clear h1
    have hfz := ho.out.frozenAt k
    by_cases hlt : k < len
    · obtain ⟨b, off, rfl, hb, hcell⟩ := h4 (by omega)
      have hck := hcell k hlt
      have hcg : wr.cell? ⟨w.heap.size, k, none⟩ = some (.int .i64 ((fillTo zs len k)[k]?.getD 0)) := by
        rw [ho.out.cellAt k (by omega)]
        have : k < (fillTo zs len k).length := by simp [fillTo, H1.out]; omega
        simp [this]
      have hst := ho.out.stored k (.int .i64 (zs[k]?.getD 0))
      have HS := Lib.hid hst
      clear hcell h4 hst
      go_wp2
      go_roundw
      case rel => exact ⟨k + 1, by omega, by go_num, by unfold Hid; rw [← fillTo_step zs len k H1.out hlt]; exact HS.out.1, hB.setCell (p := ⟨w.heap.size, k, none⟩) (Nat.le_refl _) _⟩
      case measure => simp [intOf]; omega
    · obtain rfl : k = len := by omega
      clear h4
      go_wp2
      go_ret
      exact ⟨_, rfl, by have := ho.out; rwa [fillTo_all zs k H1.out] at this, hB⟩

set_option maxHeartbeats 1000000 in
/-- **eqIntS**: whether two lists are equal. -/
theorem eqIntS_any (a : Option Addr) (len cap : Nat) (zs : List Int) (b : Option Addr) (len' cap' : Nat) (ys : List Int) (w : World) (h : IsInts w a len cap zs) (h' : IsInts w b len' cap' ys) :
    Calls Try.prog 43 #[.slice a len cap, .slice b len' cap'] w fun e w' => e = .returned (.bool (eqB zs ys)) ∧ Dr w w' := by
  by_cases hl : len = len'
  · subst hl
    have hne : ((len : Int) != (len : Int)) = false := by simp
    have hm := h.2.2.1
    have H := Lib.hid h; clear h
    have H' := Lib.hid h'; clear h'
    go_enter Try.func43, Try.ntmps43
    go_wp2
    go_loopw [5] (fun i wr => ∃ k : Nat, k ≤ len ∧ i = .int .i64 k ∧ Hid (zs.take k = ys.take k) ∧ Dr w wr) (fun i _ => len - (intOf i).toNat)
    case atStart => exact ⟨0, Nat.zero_le _, rfl, by simp [Hid], Dr.refl _⟩
    case round =>
      obtain ⟨k, hk, rfl, ht, hd⟩ := hrel
      obtain ⟨h1, _, _, h4⟩ := H.out.dr hd
      obtain ⟨g1, _, _, g4⟩ := H'.out.dr hd
      have H1 := Lib.hid h1; clear h1
      have G1 := Lib.hid g1; clear g1
      by_cases hlt : k < len
      · obtain ⟨b1, o1, rfl, hb1, hc1⟩ := h4 (by omega)
        obtain ⟨b2, o2, rfl, hb2, hc2⟩ := g4 (by omega)
        have hz := hc1 k hlt
        have hy := hc2 k hlt
        clear hc1 hc2 h4 g4
        cases he : (zs[k]?.getD 0 == ys[k]?.getD 0)
        · have hn : (zs[k]?.getD 0 != ys[k]?.getD 0) = true := by simp [bne, he]
          have HE := Lib.hid he; clear he
          go_wp2
          go_quiet (fail)
          go_wp2
          go_ret
          exact ⟨ret_bool (take_part zs ys k HE.out).symm, hd.drewN _⟩
        · have hn : (zs[k]?.getD 0 != ys[k]?.getD 0) = false := by simp [bne, he]
          have HE := Lib.hid he; clear he
          go_wp2
          go_quiet (fail)
          go_wp2
          go_roundw
          case rel => exact ⟨k + 1, by omega, by go_num, take_step zs ys k (by rw [H1.out]; omega) (by rw [G1.out]; omega) ht.out (by simpa using HE.out), hd.drewN _⟩
          case measure => simp [intOf]; omega
      · obtain rfl : k = len := by omega
        clear h4 g4
        go_wp2
        go_ret
        refine ⟨ret_bool ?_, hd⟩
        have := ht.out
        rw [List.take_of_length_le (by rw [H1.out]; omega), List.take_of_length_le (by rw [G1.out]; omega)] at this
        rw [this, eqB_self]
  · have hne : ((len : Int) != (len' : Int)) = true := by rw [bne_iff_ne]; omega
    have e : eqB zs ys = false := by
      simp only [eqB, decide_eq_false_iff_not]
      rintro rfl
      exact hl (h.1.symm.trans h'.1)
    rw [e]
    clear e h h' hl
    go_enter Try.func43, Try.ntmps43
    go_wp2
    go_ret
    exact ⟨rfl, Dr.refl _⟩

end Go.Proofs.Ytojfpnjnbpeniaa

namespace Go.Proofs.Ytojfpnjnbpeniaa
open Go.RowKit

theorem bool_info : (Try.prog.info? 4).map (fun i => (i.zero, i.size, i.bytes)) = some (some (.bool false), 1, 1) := by kernel_rfl

/-- What a row that is owned says to a reader. -/
theorem IsBools.of_owns {w : World} {base g len cap : Nat} {zs : List Bool} (h : w.ownsRow base 4 1 (.slice (some ⟨g, 0, none⟩) len cap) len (zs.map Value.bool)) (hl : len ≤ 1048600) : IsBools w (some ⟨g, 0, none⟩) len cap zs := by
  have hlen : zs.length = len := by have := h.1; simpa using this
  have hcap : len ≤ cap := by
    rcases h.2 with ⟨e, _⟩ | ⟨_, c, _, e, _, _, hc, _⟩
    · cases e
    · injection e with _ _ e3; omega
  refine ⟨hlen, hcap, hl, fun hp => ⟨g, 0, rfl, ?_, fun j hj => ?_⟩⟩
  · exact (h.lt g rfl).2
  · rw [Nat.zero_add, h.cellAt j (by omega)]
    simp [show j < zs.length from by omega]

/-- The first k of zs, then false ones: what toBoolS has written when k rounds are over. -/
def fillToB (zs : List Bool) (len k : Nat) : List Bool := zs.take k ++ List.replicate (len - k) false
theorem fillToB_step (zs : List Bool) (len k : Nat) (hz : zs.length = len) (hk : k < len) : ((fillToB zs len k).map Value.bool).set k (.bool (zs[k]?.getD false)) = (fillToB zs len (k + 1)).map Value.bool := by
  have e : len - k = (len - (k + 1)) + 1 := by omega
  unfold fillToB
  rw [e, List.replicate_succ, List.take_succ_eq_append_getElem (by omega)]
  have hl : ((zs.take k).map Value.bool).length = k := by simp; omega
  simp only [List.map_append, List.map_cons, List.append_assoc, List.cons_append, List.nil_append]
  rw [List.set_append_right _ _ (by omega), hl, Nat.sub_self, List.set_cons_zero]
  simp [show k < zs.length from by omega]
theorem fillToB_all (zs : List Bool) (len : Nat) (hz : zs.length = len) : fillToB zs len len = zs := by simp [fillToB, ← hz]

/-- Two lists of bools are equal. -/
def eqBB (zs ys : List Bool) : Bool := decide (zs = ys)
theorem eqBB_self (zs : List Bool) : eqBB zs zs = true := by simp [eqBB]
theorem take_stepB (zs ys : List Bool) (k : Nat) (hz : k < zs.length) (hy : k < ys.length) (h : zs.take k = ys.take k) (he : zs[k]?.getD false = ys[k]?.getD false) : zs.take (k + 1) = ys.take (k + 1) := by
  rw [List.take_succ_eq_append_getElem hz, List.take_succ_eq_append_getElem hy, h]
  simp [hz, hy] at he
  rw [he]
theorem take_partB (zs ys : List Bool) (k : Nat) (he : (zs[k]?.getD false == ys[k]?.getD false) = false) : eqBB zs ys = false := by
  simp only [eqBB, decide_eq_false_iff_not]
  rintro rfl
  simp at he

end Go.Proofs.Ytojfpnjnbpeniaa

namespace Go.Proofs.Ytojfpnjnbpeniaa
open Go.RowKit

theorem IsBools.of_owned {w : World} {base len cap : Nat} {a : Option Addr} {zs : List Bool} (h : w.ownsRow base 4 1 (.slice a len cap) len (zs.map Value.bool)) (hl : len ≤ 1048600) : IsBools w a len cap zs := by
  rcases h.2 with ⟨e, e0⟩ | ⟨g, c, _, e, _⟩
  · subst e0
    have hz : zs = [] := by have := h.1; simpa using this
    subst hz
    exact ⟨rfl, Nat.zero_le _, hl, fun hp => by omega⟩
  · injection e with e1 e2 e3
    subst e1
    exact IsBools.of_owns h hl

/-- Who has left, drawn: in memory of the call's own; the reader has gone on. -/
def DrawnLeft (R p : Nat) (w : World) (e : Ending) (w' : World) : Prop := ∃ (zs : List Bool) (a : Option Addr) (cap p' : Nat), e = .returned (.slice a zs.length cap) ∧ w'.ownsRow w.heap.size 4 1 (.slice a zs.length cap) zs.length (zs.map Value.bool) ∧ zs.length ≤ 10 ∧ Rd w' R p' ∧ p' ≤ p + 10 ∧ Step R w w'

end Go.Proofs.Ytojfpnjnbpeniaa
