/-
  laws.FnExactPilesMerge returns true for every two lists of piles: impl.PilesMerge answers as the model does, writes into no argument, and what it returns is memory of its own. No condition but what the statement says itself.
-/
import Derived.Test.YtdmjgicopnihgaaOpen
import Derived.Test.YtdmjgicopnihgaaMarkP
namespace Go.Proofs.Ytdmjgicopnihgaa.fnExactPilesMerge
open Go.RowKit
set_option linter.unusedVariables false


set_option maxRecDepth 100000 in
set_option maxHeartbeats 2000000 in
/-- The law's walk: it returns true, and writes nothing that was there. -/
theorem walk (a0 : Option Addr) (len0 cap0 : Nat) (z0 : List Pl) (a1 : Option Addr) (len1 cap1 : Nat) (z1 : List Pl) (w : World) (w0 : IsPRow w a0 len0 cap0 z0) (w1 : IsPRow w a1 len1 cap1 z1) :
    Calls Try.prog 13 #[.slice a0 len0 cap0, .slice a1 len1 cap1] w fun e w' => e = .returned (.bool true) ∧ Below w.heap.size w w' := by
  by_cases hall : len0 ≤ 1048576 ∧ len1 ≤ 1048576
  · obtain ⟨hl0, hl1⟩ := hall
    have HI0 := Lib.hid (w0.piles hl0)
    have HH0 := Lib.hid w0.2.1
    have hm0 : len0 ≤ 1048600 := by omega
    have HI1 := Lib.hid (w1.piles hl1)
    have HH1 := Lib.hid w1.2.1
    have hm1 : len1 ≤ 1048600 := by omega
    clear w0 w1
    go_enter Try.func13, Try.ntmps13
    go_wp2_with fail
    refine (szPileS_any _ _ _ z0 1048576 _ HI0.out HH0.out (by omega)).mono ?_
    rintro e w1 ⟨s0, rfl, hsz0, hs10, hb⟩
    have HI0 := Lib.hid (HI0.out.below hb)
    have HI1 := Lib.hid (HI1.out.below hb)
    have B := Lib.hid hb
    clear hb
    by_cases hneg0 : s0 < 0
    · have hd : decide (s0 < 0) = true := decide_eq_true hneg0
      go_wp2
      go_ret
      exact ⟨rfl, B.out⟩
    · have hd0 : decide (s0 < 0) = false := decide_eq_false hneg0
      have HS0 := Lib.hid (hsz0 (by omega)).2
      have hs20 := (hsz0 (by omega)).1
      clear hsz0
      go_wp2_with fail
      refine (szPileS_any _ _ _ z1 s0 _ HI1.out HH1.out (by omega)).mono ?_
      rintro e w2 ⟨s1, rfl, hsz1, hs11, hb⟩
      have HI0 := Lib.hid (HI0.out.below hb)
      have HI1 := Lib.hid (HI1.out.below hb)
      have B := Lib.hid (B.out.trans (hb.mono B.out.size))
      clear hb
      by_cases hneg1 : s1 < 0
      · have hd : decide (s1 < 0) = true := decide_eq_true hneg1
        go_wp2
        go_ret
        exact ⟨rfl, B.out⟩
      · have hd1 : decide (s1 < 0) = false := decide_eq_false hneg1
        have HS1 := Lib.hid (hsz1 (by omega)).2
        have hs21 := (hsz1 (by omega)).1
        clear hsz1
        obtain ⟨r, hr⟩ : ∃ r, joinL z0 z1 = r := ⟨_, rfl⟩
        obtain ⟨ok, hok⟩ : ∃ ok, joinB z0 z1 = ok := ⟨_, rfl⟩
        have Hr := Lib.hid hr
        have Hok := Lib.hid hok
        have hrc := of_cases (joinL_cases z0 z1)
        rw [hr] at hrc
        have hr12 := hrc.1
        clear hr hok hrc
        have hne : (ok != ok) = false := by cases ok <;> rfl
        have he : eqP r r = true := eqP_self r
        have he0 : eqP z0 z0 = true := eqP_self z0
        have he1 : eqP z1 z1 = true := eqP_self z1
        go_wp2_with fail
        refine (toPileS_any _ len0 _ z0 _ HI0.out).mono ?_
        rintro e w3 ⟨ga0, rfl, ho, hb⟩
        have HI0 := Lib.hid (HI0.out.below hb)
        have HI1 := Lib.hid (HI1.out.below hb)
        have Oa0 := Lib.hid (ho)
        have B := Lib.hid (B.out.trans (hb.mono B.out.size))
        clear ho
        clear hb
        go_wp2_with fail
        refine (toPileS_any _ len1 _ z1 _ HI1.out).mono ?_
        rintro e w4 ⟨ga1, rfl, ho, hb⟩
        have HI0 := Lib.hid (HI0.out.below hb)
        have HI1 := Lib.hid (HI1.out.below hb)
        have Oa0 := Lib.hid (owns_below Oa0.out hb)
        have Oa1 := Lib.hid (ho)
        have B := Lib.hid (B.out.trans (hb.mono B.out.size))
        clear ho
        clear hb
        go_wp2_with fail
        refine (specMerge_as ga0 0 len0 _ z0 _ len1 _ z1 r ok _ (IsPiles.of_owned Oa0.out (by omega)) (Oa0.out.lt ga0 rfl).2 HS0.out (IsPiles.of_owned Oa1.out (by omega)) HS1.out Hr.out Hok.out).mono ?_
        rintro e w5 ⟨a3, c3, rfl, ho, hb, hn⟩
        have HI0 := Lib.hid (HI0.out.below hb)
        have HI1 := Lib.hid (HI1.out.below hb)
        have Oa0 := Lib.hid (owns_below Oa0.out hb)
        have Oa1 := Lib.hid (owns_below Oa1.out hb)
        have IW := Lib.hid (IsPiles.of_owned ho (by omega))
        have B := Lib.hid (B.out.trans (hb.mono B.out.size))
        clear ho hn
        clear hb
        have C := Lib.hid (Below.refl w5.heap.size w5)
        have B3 := Lib.hid B.out
        clear B
        have HI0' := Lib.hid HI0.out
        have HI1' := Lib.hid HI1.out
        have IW' := Lib.hid IW.out
        clear HI0 HI1 IW
        go_wp2_with fail
        refine (toPileS_any _ len0 _ z0 _ (HI0'.out.below C.out)).mono ?_
        rintro e w6 ⟨gx0, rfl, ho, hb⟩
        have Ox0 := Lib.hid (ho)
        have C := Lib.hid (C.out.trans (hb.mono C.out.size))
        clear ho
        clear hb
        have hC1 := C.out.size
        have hL0 : gx0 < w6.heap.size := (Ox0.out.lt gx0 rfl).2
        go_wp2_with fail
        refine (toPileS_any _ len1 _ z1 _ (HI1'.out.below C.out)).mono ?_
        rintro e w7 ⟨gx1, rfl, ho, hb⟩
        have Ox0 := Lib.hid (owns_below Ox0.out hb)
        have Ox1 := Lib.hid (ho)
        have C := Lib.hid (C.out.trans (hb.mono C.out.size))
        clear ho
        clear hb
        have hCg := C.out.size
        have hgx0 : gx0 < w7.heap.size := (Ox0.out.lt gx0 rfl).2
        have hgy0 : w5.heap.size ≤ gx0 := by have := (Ox0.out.lt gx0 rfl).1; omega
        have hgx1 : gx1 < w7.heap.size := (Ox1.out.lt gx1 rfl).2
        have hgy1 : w5.heap.size ≤ gx1 := by have := (Ox1.out.lt gx1 rfl).1; omega
        have hgne : gx0 ≠ gx1 := by have := (Ox1.out.lt gx1 rfl).1; omega
        go_wp2_with fail
        refine (implMerge_as _ len0 _ z0 _ len1 _ z1 r ok _ (IsPiles.of_owned Ox0.out (by omega)) HS0.out (IsPiles.of_owned Ox1.out (by omega)) HS1.out Hr.out Hok.out).mono ?_
        rintro e w8 ⟨a5, c5, rfl, ho, hb, hn⟩
        have Ox0 := Lib.hid (owns_below Ox0.out hb)
        have Ox1 := Lib.hid (owns_below Ox1.out hb)
        have Og := Lib.hid (ho)
        have C := Lib.hid (C.out.trans (hb.mono C.out.size))
        clear ho hn
        clear hb
        go_wp2_with fail
        refine (eqPileS_as _ _ _ r _ _ _ r true _ (IsPiles.of_owned Og.out (by omega)) (IW'.out.below C.out) he).mono ?_
        rintro e w9 ⟨rfl, hb⟩
        have Ox0 := Lib.hid (owns_below Ox0.out hb)
        have Ox1 := Lib.hid (owns_below Ox1.out hb)
        have Og := Lib.hid (owns_below Og.out hb)
        have C := Lib.hid (C.out.trans (hb.mono C.out.size))
        clear hb
        go_wp2_with fail
        refine (toPileS_any _ len0 _ z0 _ (HI0'.out.below C.out)).mono ?_
        rintro e w10 ⟨gy0, rfl, ho, hb⟩
        have Ox0 := Lib.hid (owns_below Ox0.out hb)
        have Ox1 := Lib.hid (owns_below Ox1.out hb)
        have Og := Lib.hid (owns_below Og.out hb)
        have Oy0 := Lib.hid (ho)
        have C := Lib.hid (C.out.trans (hb.mono C.out.size))
        clear ho
        clear hb
        go_wp2_with fail
        refine (eqPileS_as _ len0 _ z0 _ len0 _ z0 true _ (IsPiles.of_owned Ox0.out (by omega)) (IsPiles.of_owned Oy0.out (by omega)) he0).mono ?_
        rintro e w11 ⟨rfl, hb⟩
        have Ox0 := Lib.hid (owns_below Ox0.out hb)
        have Ox1 := Lib.hid (owns_below Ox1.out hb)
        have Og := Lib.hid (owns_below Og.out hb)
        have Oy0 := Lib.hid (owns_below Oy0.out hb)
        have C := Lib.hid (C.out.trans (hb.mono C.out.size))
        clear hb
        go_wp2_with fail
        refine (toPileS_any _ len1 _ z1 _ (HI1'.out.below C.out)).mono ?_
        rintro e w12 ⟨gy1, rfl, ho, hb⟩
        have Ox0 := Lib.hid (owns_below Ox0.out hb)
        have Ox1 := Lib.hid (owns_below Ox1.out hb)
        have Og := Lib.hid (owns_below Og.out hb)
        have Oy1 := Lib.hid (ho)
        have C := Lib.hid (C.out.trans (hb.mono C.out.size))
        clear ho
        clear hb
        go_wp2_with fail
        refine (eqPileS_as _ len1 _ z1 _ len1 _ z1 true _ (IsPiles.of_owned Ox1.out (by omega)) (IsPiles.of_owned Oy1.out (by omega)) he1).mono ?_
        rintro e w13 ⟨rfl, hb⟩
        have Ox0 := Lib.hid (owns_below Ox0.out hb)
        have Ox1 := Lib.hid (owns_below Ox1.out hb)
        have Og := Lib.hid (owns_below Og.out hb)
        have Oy1 := Lib.hid (owns_below Oy1.out hb)
        have C := Lib.hid (C.out.trans (hb.mono C.out.size))
        clear hb
        go_wp2_with fail
        refine (markP_any _ (some ⟨gx0, 0, none⟩) len0 _ z0 1 _ Ox0.out hm0 (by omega) (by omega)).mono ?_
        rintro e w14 ⟨rfl, ho, hg⟩
        have Ox0 := Lib.hid ho
        have Og := Lib.hid (owns_low Og.out hg (fun i ei => by cases ei; exact hgx0))
        have Ox1 := Lib.hid (owns_apart Ox1.out hg (fun ei => by injection ei with ei; exact hgne ei))
        have C := Lib.hid (C.out.grown hg (by have := C.out.size; omega) (fun i ei => by cases ei; exact hgy0))
        clear ho hg
        go_wp2_with fail
        refine (markP_any _ (some ⟨gx1, 0, none⟩) len1 _ z1 (1 + 2 * (len0 : Int)) _ Ox1.out hm1 (by omega) (by omega)).mono ?_
        rintro e w15 ⟨rfl, ho, hg⟩
        have Ox1 := Lib.hid ho
        have Og := Lib.hid (owns_low Og.out hg (fun i ei => by cases ei; exact hgx1))
        have C := Lib.hid (C.out.grown hg (by have := C.out.size; omega) (fun i ei => by cases ei; exact hgy1))
        clear ho hg
        have hk0 : ¬ (((1 + 2 * (len0 : Int)) + 2 * (len1 : Int)) < 0) := by omega
        have hk0d : decide (((1 + 2 * (len0 : Int)) + 2 * (len1 : Int)) < 0) = false := decide_eq_false hk0
        go_wp2_with fail
        refine (eqPileS_as _ _ _ r _ _ _ r true _ (IsPiles.of_owned Og.out (by omega)) (IW'.out.below C.out) he).mono ?_
        rintro e w16 ⟨rfl, hb⟩
        have Og := Lib.hid (owns_below Og.out hb)
        have C := Lib.hid (C.out.trans (hb.mono C.out.size))
        clear hb
        go_wp2_with fail
        refine (markP_any _ a5 r.length _ r 1 _ Og.out (by omega) (by omega) (by omega)).mono ?_
        rintro e w17 ⟨rfl, ho, hg⟩
        have C := Lib.hid (C.out.grown hg (by have := C.out.size; omega) (fun i ei => by have := (Og.out.lt i ei).1; omega))
        have Og := Lib.hid ho
        clear ho hg
        have hq0 : decide (1 + 2 * (r.length : Int) < 0) = false := decide_eq_false (by omega)
        have hqq : ((1 + 2 * (r.length : Int)) != (1 + 2 * (r.length : Int))) = false := by simp
        go_wp2_with fail
        refine (heldP_any _ r.length _ 1 _ (IsPiles.of_owned Og.out (by omega)) (by omega) (by omega)).mono ?_
        rintro e w18 ⟨rfl, hb⟩
        have Og := Lib.hid (owns_below Og.out hb)
        have C := Lib.hid (C.out.trans (hb.mono C.out.size))
        clear hb
        go_wp2_with fail
        refine (toPileS_any _ len0 _ z0 _ (HI0'.out.below C.out)).mono ?_
        rintro e w19 ⟨gz0, rfl, ho, hb⟩
        have Og := Lib.hid (owns_below Og.out hb)
        have Oz0 := Lib.hid (ho)
        have C := Lib.hid (C.out.trans (hb.mono C.out.size))
        clear ho
        clear hb
        go_wp2_with fail
        refine (toPileS_any _ len1 _ z1 _ (HI1'.out.below C.out)).mono ?_
        rintro e w20 ⟨gz1, rfl, ho, hb⟩
        have Og := Lib.hid (owns_below Og.out hb)
        have Oz0 := Lib.hid (owns_below Oz0.out hb)
        have Oz1 := Lib.hid (ho)
        have C := Lib.hid (C.out.trans (hb.mono C.out.size))
        clear ho
        clear hb
        go_wp2_with fail
        refine (implMerge_as _ len0 _ z0 _ len1 _ z1 r ok _ (IsPiles.of_owned Oz0.out (by omega)) HS0.out (IsPiles.of_owned Oz1.out (by omega)) HS1.out Hr.out Hok.out).mono ?_
        rintro e w21 ⟨a8, c8, rfl, ho, hb, hn⟩
        have Og := Lib.hid (owns_below Og.out hb)
        have Oz0 := Lib.hid (owns_below Oz0.out hb)
        have Oz1 := Lib.hid (owns_below Oz1.out hb)
        have Ih := Lib.hid (IsPiles.of_owned ho (by omega))
        have C := Lib.hid (C.out.trans (hb.mono C.out.size))
        clear ho hn
        clear hb
        go_wp2_with fail
        refine (eqPileS_as _ _ _ r _ _ _ r true _ Ih.out (IW'.out.below C.out) he).mono ?_
        rintro e w22 ⟨rfl, hb⟩
        have Ih := Lib.hid (Ih.out.below hb)
        have Og := Lib.hid (owns_below Og.out hb)
        have C := Lib.hid (C.out.trans (hb.mono C.out.size))
        clear hb
        go_wp2_with fail
        refine (heldP_any _ r.length _ 1 _ (IsPiles.of_owned Og.out (by omega)) (by omega) (by omega)).mono ?_
        rintro e w23 ⟨rfl, hb⟩
        have Og := Lib.hid (owns_below Og.out hb)
        have C := Lib.hid (C.out.trans (hb.mono C.out.size))
        clear hb
        go_wp2
        go_ret
        exact ⟨rfl, B3.out.trans (C.out.mono B3.out.size)⟩
  · by_cases hlong : 1048576 < len0
    · have hmx := w0.2.2.1
      go_enter Try.func13, Try.ntmps13
      go_wp2_with fail
      refine (szPileS_long _ _ _ 1048576 _ hlong hmx (by omega)).mono ?_
      rintro e w1 ⟨rfl, rfl⟩
      go_wp2
      go_ret
      exact ⟨rfl, Below.refl _ _⟩
    · have hlong1 : 1048576 < len1 := by omega
      have hl0 : len0 ≤ 1048576 := by omega
      have HI0 := Lib.hid (w0.piles hl0)
      have HH0 := Lib.hid w0.2.1
      have hmx := w1.2.2.1
      go_enter Try.func13, Try.ntmps13
      go_wp2_with fail
      refine (szPileS_any _ _ _ z0 1048576 _ HI0.out HH0.out (by omega)).mono ?_
      rintro e x1 ⟨s0, rfl, hsz, hs1, hb⟩
      by_cases hneg : s0 < 0
      · have hd : decide (s0 < 0) = true := decide_eq_true hneg
        go_wp2
        go_ret
        exact ⟨rfl, hb⟩
      · have hd : decide (s0 < 0) = false := decide_eq_false hneg
        have hs2 := (hsz (by omega)).1
        clear hsz
        go_wp2_with fail
        refine (szPileS_long _ _ _ s0 _ hlong1 hmx (by omega)).mono ?_
        rintro e x2 ⟨rfl, rfl⟩
        go_wp2
        go_ret
        exact ⟨rfl, hb⟩

end Go.Proofs.Ytdmjgicopnihgaa.fnExactPilesMerge
