/-
  impl.MarksRead and spec.MarksRead answer alike, in memory of their own, for every list of at most 1048600 ints. impl.MarksRead takes that math/bits' table lies in its variable.
-/
import Derived.Test.YtpgnneaaemfkoaaDoorRead
import Derived.Test.YtpgnneaaemfkoaaDoorMarksOf
import Derived.Test.YtpgnneaaemfkoaaDoorStepA
namespace Go.Proofs.YtpgnneaaemfkoaaDoor
open Go.RowKit

theorem neg_wrap (x : Nat) (h0 : x ≠ 0) (h : x < 1024) : IntKind.u64.wrap (-(x : Int)) = ((18446744073709551616 - x : Nat) : Int) := by rw [IntKind.wrap_u64]; omega
/-- The bits of the marks that are read, as the program reckons them. -/
theorem readable_eq (had shared : Nat) (h1 : had < 1024) (h2 : shared < 1024) :
    bits .and .u64 (had : Int) (IntKind.u64.wrap (bits .and .u64 (shared : Int) (IntKind.u64.wrap (-(shared : Int))) - 1)) = ((readable had shared : Nat) : Int) := by
  unfold readable
  by_cases h0 : shared = 0
  · subst h0
    have e1 : IntKind.u64.wrap (-((0 : Nat) : Int)) = ((0 : Nat) : Int) := by rfl
    have e2 : bits .and .u64 ((0 : Nat) : Int) ((0 : Nat) : Int) = ((0 : Nat) : Int) := bits_and_u64_nat 0 0 (by omega) (by omega)
    have e3 : IntKind.u64.wrap (((0 : Nat) : Int) - 1) = ((18446744073709551615 : Nat) : Int) := by rw [IntKind.wrap_u64]; rfl
    rw [e1, e2, e3, bits_and_u64_nat _ _ (by omega) (by omega), if_pos rfl]
    congr 1
    rw [show (18446744073709551615 : Nat) = 2 ^ 64 - 1 from by decide, Nat.and_two_pow_sub_one_eq_mod]
    exact Nat.mod_eq_of_lt (by omega)
  · obtain ⟨hlow, hk⟩ := Lib.lowest_bit 64 shared h0 (by omega)
    have f := (low_facts shared h2 h0).1
    rw [neg_wrap shared h0 h2, bits_and_u64_nat _ _ (by omega) (by omega), show (18446744073709551616 : Nat) = 2 ^ 64 from by decide, hlow, if_neg h0]
    have hp := bit_small (Lib.ctz 64 shared) (by omega)
    have hp1 := Nat.two_pow_pos (Lib.ctz 64 shared)
    have e3 : IntKind.u64.wrap (((2 ^ Lib.ctz 64 shared : Nat) : Int) - 1) = ((2 ^ Lib.ctz 64 shared - 1 : Nat) : Int) := by
      rw [IntKind.wrap_u64]; omega
    rw [e3, bits_and_u64_nat _ _ (by omega) (by omega)]
theorem clear_eq (x : Nat) (h0 : x ≠ 0) (h : x < 1024) : bits .and .u64 (x : Int) ((x : Int) - 1) = ((x &&& (x - 1) : Nat) : Int) := by
  have e : (x : Int) - 1 = ((x - 1 : Nat) : Int) := by omega
  rw [e, bits_and_u64_nat _ _ (by omega) (by omega)]

set_option maxHeartbeats 4000000 in
/-- **impl.MarksRead**. -/
theorem implRead_any (a : Option Addr) (len cap : Nat) (zs : List Int) (w : World) (h : IsInts w a len cap zs) (hT : Tab w) :
    Calls Tryd.prog 12 #[.slice a len cap] w (Told w (readL zs) (rankB zs)) := by
  obtain ⟨i0, hi, hz0, hz1, hz2⟩ := info_parts int_info
  have H1 := Lib.hid h.1
  have H := Lib.hid h; clear h
  have HT := Lib.hid hT; clear hT
  cases hr : rankB zs
  · have HR := Lib.hid hr
    have HL := Lib.hid (readL_no hr)
    go_enter Tryd.func12, Tryd.ntmps12
    go_wp2_with fail
    refine (implMarks_any _ _ _ zs _ H.out).mono ?_
    rintro e w1 ⟨he, rfl⟩
    rw [HR.out] at he
    subst he
    go_wp2
    go_ret2
    refine ⟨none, 0, ?_, ?_, Below.refl _ _⟩
    · rw [HL.out]; rfl
    · rw [HL.out]; exact World.ownsRow_nil _ _ _ _
  · have hl := rankB_len hr
    rw [H1.out] at hl
    obtain ⟨hl1, hl5⟩ := hl
    have HR := Lib.hid hr
    have HL := Lib.hid (readL_yes hr)
    obtain ⟨b1, b2⟩ := bits_small (fun i hi => rankB_at hr i hi) zs.length (Nat.le_refl _)
    have hst := left_start hr
    obtain ⟨had, hhad⟩ : ∃ had, (bitsTo zs zs.length).1 = had := ⟨_, rfl⟩
    obtain ⟨shared, hshared⟩ : ∃ shared, (bitsTo zs zs.length).2 = shared := ⟨_, rfl⟩
    rw [hhad] at b1 hst
    rw [hshared] at b2 hst
    have hre := readable_eq had shared b1 b2
    obtain ⟨x0, hx0⟩ : ∃ x0, readable had shared = x0 := ⟨_, rfl⟩
    rw [hx0] at hst hre
    have HST := Lib.hid hst
    have HHA := Lib.hid hhad
    have HSH := Lib.hid hshared
    clear hr hst hhad hshared hx0 b1 b2
    go_enter Tryd.func12, Tryd.ntmps12
    go_wp2_with fail
    refine (implMarks_any _ _ _ zs _ H.out).mono ?_
    rintro e w1 ⟨he, rfl⟩
    rw [HR.out] at he
    subst he
    go_wp2_with fail
    refine (markBits_any _ _ _ zs _ H.out HR.out).mono ?_
    rintro e w1 ⟨he, rfl⟩
    rw [HHA.out, HSH.out] at he
    subst he
    go_wp2_with (at_make; refine wpList_make_own _ rfl _ _ 23 rfl w.heap.size 3 i0 (.int .i64 0) 1 Tryd.underlying23 hi hz0 hz1 .i64 .i64 _ len rfl rfl rfl (by rw [hz2]; omega) (by unfold maxLen; omega) (Nat.le_refl _) ?_; intro w2 hown hgrow)
    obtain ⟨g, hg⟩ : ∃ g, w.heap.size = g := ⟨_, rfl⟩
    rw [hg] at hown ⊢
    have hB1 : Below g w w2 := ((Below.refl g w).grown hgrow (by omega) (fun k e => by cases e))
    have hsz1 : g ≤ w2.heap.size := by have := hgrow.size; omega
    have HBL : Hid (∀ wr, Below g w wr → IsInts wr a len cap zs ∧ Tab wr) := fun wr hb => ⟨H.out.below (by rw [hg]; exact hb), HT.out.below (by rw [hg]; exact hb)⟩
    have HG := Lib.hid hg
    have HO := Lib.hid hown
    clear hown hgrow hg
    go_wp2
    go_loopw [7, 8] (fun p o wr => ∃ (x r k c : Nat) (out : List Int) (ao : Option Addr), p = .int .u64 (x : Int) ∧ o = .slice ao k c ∧ Hid (wr.ownsRow g 3 1 (.slice ao k c) k (out.map (Value.int .i64))) ∧ Hid (out.length = k) ∧ k < r ∧ Hid (Left zs r x) ∧ Hid (out ++ readFrom zs r = readFrom zs 1) ∧ Below g w wr ∧ g ≤ wr.heap.size) (fun p _ _ => (intOf p).toNat)
    case atStart => exact ⟨x0, 1, 0, len, [], some ⟨g, 0, none⟩, rfl, rfl, HO, rfl, by omega, HST, rfl, hB1, hsz1⟩
    case round =>
      obtain ⟨x, r, k, c, out, ao, rfl, rfl, ho, hol, hkr, hle, hrf, hB, hsz⟩ := hrel
      by_cases hx : x = 0
      · subst hx
        have hx' : ((((0 : Nat) : Int)) != 0) = false := by simp
        go_wp2
        go_ret2
        have hend : readFrom zs r = [] := left_end HR.out (10 - r) r (by have := hle.out.1; omega) hle.out.1.1 hle.out
        have hrl : readL zs = out := by
          have := hrf.out
          rw [hend, List.append_nil] at this
          rw [HL.out, this]
        refine ⟨ao, c, ?_, ?_, ?_⟩
        · rw [hrl, hol.out]; rfl
        · rw [hrl, hol.out, HG.out]; exact ho.out
        · rw [HG.out]; exact hB
      · have hx1 := hle.out.2.1
        have hxne : ((x : Int) != 0) = true := by rw [bne_iff_ne]; omega
        obtain ⟨i, hil, hiz, hib, hrd, hrt, hle2⟩ := left_step HR.out hle.out hx
        have hcl := clear_eq x hx hx1
        have hdec := (low_facts x hx1 hx).2.2.1
        have hr10 := hle2.1.2
        obtain ⟨t, ht⟩ : ∃ t, Lib.ctz 64 x = t := ⟨_, rfl⟩
        obtain ⟨y, hy⟩ : ∃ y, x &&& (x - 1) = y := ⟨_, rfl⟩
        rw [ht] at hiz hib hrd hrt hle2 hr10
        rw [hy] at hcl hdec hle2
        rw [H1.out] at hil
        have HRD := Lib.hid hrd
        have HLE := Lib.hid hle2
        have HTT := Lib.hid ht
        have HIB := Lib.hid hib
        have HIZ := Lib.hid hiz
        obtain ⟨hII, hTT⟩ := HBL.out _ hB
        have HII := Lib.hid hII
        have HTB := Lib.hid hTT
        clear hrd hle2 ht hy hle hib hiz hII hTT
        go_wp2_with fail
        refine (tz_any x hx1 hx _ HTB.out).mono ?_
        rintro e w3 ⟨he, rfl⟩
        rw [HTT.out] at he
        subst he
        go_wp2_with fail
        refine (index_any _ _ _ zs (t : Int) i _ HII.out hil HIZ.out HIB.out).mono ?_
        rintro e w3 ⟨rfl, rfl⟩
        go_wp2_with (at_builtin; refine wpList_append_own _ rfl _ _ 23 rfl g 3 i0 (.int .i64 0) 1 8 Tryd.underlying23 hi hz0 hz1 hz2 rfl (by decide) _ _ _ rfl (ho.out.alloc _) ⟨wr.heap.size, 0, none⟩ 1 1 [.int .i64 (i : Int)] rfl rfl (cell_one_new _ _ _) (by simp [Value.oneCell']) (by unfold maxLen; omega) (by omega) (by simp; omega) ?_; intro v' w4 hown' hgrow _; obtain ⟨a4, cap4, rfl⟩ := owns_slice hown')
        have hrow : ∀ j, (Value.slice ao k c).ownBlock = some j → g ≤ j := fun j ej => (ho.out.lt j ej).1
        have B4 : Below g w w4 := (hB.alloc hsz _).grown hgrow (by simp; omega) hrow
        have O4 : Hid (w4.ownsRow g 3 1 (.slice a4 (k + 1) cap4) (k + 1) ((out ++ [(i : Int)]).map (Value.int .i64))) := by
          unfold Hid; rw [List.map_append]; exact hown'
        have hsz4 : g ≤ w4.heap.size := by have := hgrow.size; simp at this; omega
        have HL4 : Hid ((out ++ [(i : Int)]).length = k + 1) := by unfold Hid; simp [hol.out]
        have HF4 : Hid ((out ++ [(i : Int)]) ++ readFrom zs (t + 1) = readFrom zs 1) := by
          unfold Hid
          rw [← hrf.out, HRD.out, List.append_assoc]; rfl
        clear hown' hgrow hrow ho hB
        go_wp2
        go_roundw
        case rel => exact ⟨y, t + 1, k + 1, cap4, out ++ [(i : Int)], a4, rfl, rfl, O4, HL4, by omega, HLE, HF4, B4, hsz4⟩
        case measure => simp [intOf]; omega

set_option maxHeartbeats 2000000 in
/-- **l2With**. -/
theorem l2With_any (a : Option Addr) (len cap : Nat) (zs : List Int) (v : Int) (w : World) (h : IsInts w a len cap zs) :
    Calls Tryd.prog 32 #[.slice a len cap, .int .i64 v] w fun e w' => ∃ g c, e = .returned (.slice (some ⟨g, 0, none⟩) (withL zs v).length c) ∧ w'.ownsRow w.heap.size 3 1 (.slice (some ⟨g, 0, none⟩) (withL zs v).length c) (withL zs v).length ((withL zs v).map (Value.int .i64)) ∧ Below w.heap.size w w' := by
  obtain ⟨i0, hi, hz0, hz1, hz2⟩ := info_parts int_info
  have H1 := Lib.hid h.1
  have hm := h.2.2.1
  have H := Lib.hid h; clear h
  obtain ⟨b0, hb0⟩ : ∃ b0, w.heap.size = b0 := ⟨_, rfl⟩
  have HO0 : Hid ((w.alloc (.cells #[] 3)).ownsRow b0 3 1 (.slice (some ⟨b0, 0, none⟩) 0 0) 0 ((withTo zs v 0).map (Value.int .i64))) := by
    rw [← hb0]; exact World.ownsRow_lit (base := w.heap.size) (e := 3) (size := 1) w #[] 0 (Nat.le_refl _) (by unfold maxLen; omega) rfl
  have hB0 : Below b0 w (w.alloc (.cells #[] 3)) := by rw [← hb0]; exact (Below.refl _ w).alloc (Nat.le_refl _) _
  have hsz0 : b0 ≤ (w.alloc (.cells #[] 3)).heap.size := by simp; omega
  have HBL : Hid (∀ wr, Below b0 w wr → IsInts wr a len cap zs) := fun wr hb => H.out.below (by rw [hb0]; exact hb)
  go_enter Tryd.func32, Tryd.ntmps32
  go_wp2
  obtain ⟨w1, hw1⟩ : ∃ w1, w.alloc (.cells #[] 3) = w1 := ⟨_, rfl⟩
  rw [hw1] at HO0 hB0 hsz0 ⊢
  clear hw1
  have HBB := Lib.hid hb0
  clear hb0
  go_loopw [5, 6] (fun o i wr => ∃ (k n c g : Nat), k ≤ len ∧ i = .int .i64 k ∧ o = .slice (some ⟨g, 0, none⟩) n c ∧ n ≤ k ∧ Hid (wr.ownsRow b0 3 1 (.slice (some ⟨g, 0, none⟩) n c) n ((withTo zs v k).map (Value.int .i64))) ∧ Hid ((withTo zs v k).length = n) ∧ Below b0 w wr ∧ b0 ≤ wr.heap.size) (fun _ i _ => len - (intOf i).toNat)
  case atStart => exact ⟨0, 0, _, _, Nat.zero_le _, rfl, rfl, Nat.le_refl _, HO0, rfl, hB0, hsz0⟩
  case round =>
    obtain ⟨k, n, c, g, hk, rfl, rfl, hnk, ho, hn, hB, hsz⟩ := hrel
    by_cases hlt : k < len
    · obtain ⟨-, -, -, h4⟩ := HBL.out _ hB
      obtain ⟨b, off, rfl, hb, hcell⟩ := h4 (by omega)
      have hck := hcell k hlt
      clear h4 hcell
      by_cases heq : zs[k]?.getD 0 = v
      · have hbe : (zs[k]?.getD 0 == v) = true := by simpa using heq
        have HW := Lib.hid (withTo_yes heq)
        clear heq
        go_wp2_with (at_builtin; refine wpList_append_own _ rfl _ _ 23 rfl b0 3 i0 (.int .i64 0) 1 8 Tryd.underlying23 hi hz0 hz1 hz2 rfl (by decide) _ _ _ rfl (ho.out.alloc _) ⟨wr.heap.size, 0, none⟩ 1 1 [.int .i64 (k : Int)] rfl rfl (cell_one_new _ _ _) (by simp [Value.oneCell']) (by unfold maxLen; omega) (by omega) (by simp; omega) ?_; intro v' w4 hown' hgrow _; obtain ⟨g4, cap4, rfl⟩ := ownsRow_succ hown')
        have hrow : ∀ j, (Value.slice (some ⟨g, 0, none⟩) n c).ownBlock = some j → b0 ≤ j := fun j ej => (ho.out.lt j ej).1
        have B4 : Below b0 w w4 := (hB.alloc hsz _).grown hgrow (by simp; omega) hrow
        have O4 : Hid (w4.ownsRow b0 3 1 (.slice (some ⟨g4, 0, none⟩) (n + 1) cap4) (n + 1) ((withTo zs v (k + 1)).map (Value.int .i64))) := by
          unfold Hid; rw [HW.out, List.map_append]; exact hown'
        have hsz4 : b0 ≤ w4.heap.size := by have := hgrow.size; simp at this; omega
        have HL4 : Hid ((withTo zs v (k + 1)).length = n + 1) := by unfold Hid; rw [HW.out]; simp [hn.out]
        clear hown' hgrow hrow ho hB
        go_wp2
        go_roundw
        case rel => exact ⟨k + 1, n + 1, cap4, g4, by omega, by go_num, rfl, by omega, O4, HL4, B4, hsz4⟩
        case measure => simp [intOf]; omega
      · have hbe : (zs[k]?.getD 0 == v) = false := by simpa using heq
        have HW := Lib.hid (withTo_no heq)
        clear heq
        go_wp2
        go_roundw
        case rel => exact ⟨k + 1, n, c, g, by omega, by go_num, rfl, by omega, by rw [HW.out]; exact ho, by rw [HW.out]; exact hn, hB, hsz⟩
        case measure => simp [intOf]; omega
    · obtain rfl : k = len := by omega
      go_wp2
      go_ret
      have e : withL zs v = withTo zs v k := by unfold withL; rw [H1.out]
      rw [e, hn.out, HBB.out]
      exact ⟨g, c, rfl, ho.out, hB⟩

set_option maxHeartbeats 4000000 in
/-- **spec.MarksRead**. -/
theorem specRead_any (a : Option Addr) (len cap : Nat) (zs : List Int) (w : World) (h : IsInts w a len cap zs) :
    Calls Tryd.prog 14 #[.slice a len cap] w (Told w (readL zs) (rankB zs)) := by
  obtain ⟨i0, hi, hz0, hz1, hz2⟩ := info_parts int_info
  have H1 := Lib.hid h.1
  have H := Lib.hid h; clear h
  obtain ⟨b0, hb0⟩ : ∃ b0, w.heap.size = b0 := ⟨_, rfl⟩
  have HO0 : Hid ((w.alloc (.cells #[] 3)).ownsRow b0 3 1 (.slice (some ⟨b0, 0, none⟩) 0 0) 0 (([] : List Int).map (Value.int .i64))) := by
    rw [← hb0]; exact World.ownsRow_lit (base := w.heap.size) (e := 3) (size := 1) w #[] 0 (Nat.le_refl _) (by unfold maxLen; omega) rfl
  have hB0 : Below b0 w (w.alloc (.cells #[] 3)) := by rw [← hb0]; exact (Below.refl _ w).alloc (Nat.le_refl _) _
  have hsz0 : b0 ≤ (w.alloc (.cells #[] 3)).heap.size := by simp; omega
  have HBL : Hid (∀ wr, Below b0 w wr → IsInts wr a len cap zs) := fun wr hb => H.out.below (by rw [hb0]; exact hb)
  have HI1 := Lib.hid (HBL.out _ hB0)
  cases hr : rankB zs
  · have HR := Lib.hid hr
    have HL := Lib.hid (readL_no hr)
    go_enter Tryd.func14, Tryd.ntmps14
    go_wp2_with fail
    refine (specMarks_any _ _ _ zs _ HI1.out).mono ?_
    rintro e w1 ⟨he, rfl⟩
    rw [HR.out] at he
    subst he
    go_wp2
    go_ret2
    refine ⟨some ⟨b0, 0, none⟩, 0, ?_, ?_, ?_⟩
    · rw [HL.out]; rfl
    · rw [HL.out, hb0]; exact HO0.out
    · rw [hb0]; exact hB0
  · have hl := rankB_len hr
    rw [H1.out] at hl
    obtain ⟨hl1, hl5⟩ := hl
    have HR := Lib.hid hr
    have HL := Lib.hid (readL_yes hr)
    go_enter Tryd.func14, Tryd.ntmps14
    go_wp2_with fail
    refine (specMarks_any _ _ _ zs _ HI1.out).mono ?_
    rintro e w1 ⟨he, hw1⟩
    rw [HR.out] at he
    subst he
    rw [hw1] at HO0 hB0 hsz0
    clear hw1 HI1
    have HBB := Lib.hid hb0
    clear hb0 hr
    go_wp2
    go_loopw [4, 5] (fun o i wr => ∃ (r k c : Nat) (out : List Int) (ao : Option Addr), r ≤ 9 ∧ i = .int .i64 ((r : Int) + 1) ∧ o = .slice ao k c ∧ Hid (wr.ownsRow b0 3 1 (.slice ao k c) k (out.map (Value.int .i64))) ∧ Hid (out.length = k) ∧ k ≤ r ∧ Hid (out ++ readFrom zs (r + 1) = readFrom zs 1) ∧ Below b0 w wr ∧ b0 ≤ wr.heap.size) (fun _ i _ => 10 - (intOf i).toNat)
    case atStart => exact ⟨0, 0, 0, [], some ⟨b0, 0, none⟩, by omega, rfl, rfl, HO0, rfl, Nat.le_refl _, rfl, hB0, hsz0⟩
    case round =>
      obtain ⟨r, k, c, out, ao, hr9, rfl, rfl, ho, hol, hkr, hrf, hB, hsz⟩ := hrel
      by_cases hlt : r < 9
      · have hstep := readFrom_step zs (r + 1) (by omega)
        rw [show (((r + 1 : Nat)) : Int) = (r : Int) + 1 from by omega] at hstep
        have HSP := Lib.hid hstep; clear hstep
        go_wp2_with fail
        refine (l2With_any _ _ _ zs ((r : Int) + 1) _ (HBL.out _ hB)).mono ?_
        rintro e w3 ⟨g3, c3, rfl, ho3, hb3⟩
        have O3 := Lib.hid (owns_under ho.out hb3)
        have B3 := Lib.hid (hB.trans (hb3.mono hsz))
        have hsz3 : b0 ≤ w3.heap.size := Nat.le_trans hsz hb3.size
        have HW3 := Lib.hid ho3
        clear ho hB hb3 ho3
        obtain ⟨L, hL⟩ : ∃ L, withL zs ((r : Int) + 1) = L := ⟨_, rfl⟩
        rw [hL] at HSP HW3 ⊢
        obtain ⟨q, hq⟩ : ∃ q, L.length = q := ⟨_, rfl⟩
        rw [hq] at HSP HW3 ⊢
        have HQ := Lib.hid hq
        clear hL hq
        by_cases hbig : 1 < q
        · have hbi : (1 : Int) < (q : Int) := by omega
          go_wp2
          go_ret2
          have hrl : readL zs = out := by
            have h1 := hrf.out
            rw [HSP.out, if_pos hbig, List.append_nil] at h1
            rw [HL.out, h1]
          refine ⟨ao, c, ?_, ?_, ?_⟩
          · rw [hrl, hol.out]; rfl
          · rw [hrl, hol.out, HBB.out]; exact O3.out
          · rw [HBB.out]; exact B3.out
        · have hbi : ¬ (1 : Int) < (q : Int) := by omega
          have hcs := Lib.hid (own_cells HW3.out)
          have HLq : Hid ((L.map (Value.int .i64)).length = q * 1) := by unfold Hid; simp [HQ.out]
          go_wp2_with (at_builtin; refine wpList_append_own _ rfl _ _ 23 rfl b0 3 i0 (.int .i64 0) 1 8 Tryd.underlying23 hi hz0 hz1 hz2 rfl (by decide) _ _ _ rfl O3.out ⟨g3, 0, none⟩ q _ (L.map (Value.int .i64)) rfl HLq.out hcs.out (ints_one' _) (by unfold maxLen; omega) (by omega) hsz3 ?_; intro v' w4 hown' hgrow _; obtain ⟨a4, cap4, rfl⟩ := owns_slice hown')
          have hrow : ∀ j, (Value.slice ao k c).ownBlock = some j → b0 ≤ j := fun j ej => (O3.out.lt j ej).1
          have B4 : Below b0 w w4 := B3.out.grown hgrow hsz3 hrow
          have O4 : Hid (w4.ownsRow b0 3 1 (.slice a4 (k + q) cap4) (k + q) ((out ++ L).map (Value.int .i64))) := by
            unfold Hid; rw [List.map_append]; exact hown'
          have hsz4 : b0 ≤ w4.heap.size := Nat.le_trans hsz3 hgrow.size
          have HL4 : Hid ((out ++ L).length = k + q) := by unfold Hid; simp [hol.out, HQ.out]
          have HF4 : Hid ((out ++ L) ++ readFrom zs (r + 1 + 1) = readFrom zs 1) := by
            unfold Hid
            rw [← hrf.out, HSP.out, if_neg hbig, List.append_assoc]
          clear hown' hgrow hrow O3 B3 hcs HLq
          go_wp2
          go_roundw
          case rel => exact ⟨r + 1, k + q, cap4, out ++ L, a4, by omega, by go_num, rfl, O4, HL4, by omega, HF4, B4, hsz4⟩
          case measure => simp [intOf]; omega
      · obtain rfl : r = 9 := by omega
        have hrl : readL zs = out := by
          have h1 := hrf.out
          rw [readFrom_end, List.append_nil] at h1
          rw [HL.out, h1]
        have HRL := Lib.hid hrl; clear hrl
        go_wp2
        go_ret2
        refine ⟨ao, c, ?_, ?_, ?_⟩
        · rw [HRL.out, hol.out]; rfl
        · rw [HRL.out, hol.out, HBB.out]; exact ho.out
        · rw [HBB.out]; exact hB

/-- **spec.MarksRead**, its answer named. -/
theorem specRead_as (a : Option Addr) (len cap : Nat) (zs pl : List Int) (ok : Bool) (w : World) (h : IsInts w a len cap zs) (h1 : readL zs = pl) (h2 : rankB zs = ok) :
    Calls Tryd.prog 14 #[.slice a len cap] w (Told w pl ok) := by
  subst h1; subst h2; exact specRead_any a len cap zs w h
/-- **impl.MarksRead**, its answer named. -/
theorem implRead_as (a : Option Addr) (len cap : Nat) (zs pl : List Int) (ok : Bool) (w : World) (h : IsInts w a len cap zs) (hT : Tab w) (h1 : readL zs = pl) (h2 : rankB zs = ok) :
    Calls Tryd.prog 12 #[.slice a len cap] w (Told w pl ok) := by
  subst h1; subst h2; exact implRead_any a len cap zs w h hT

end Go.Proofs.YtpgnneaaemfkoaaDoor
