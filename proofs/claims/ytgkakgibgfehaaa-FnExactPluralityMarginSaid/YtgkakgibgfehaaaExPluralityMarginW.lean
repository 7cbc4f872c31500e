/-
  laws.FnExactPluralityMargin returns true for every list of piles and all lots: impl.PluralityMargin answers as the model does, and writes into no argument. No condition but what the statement says itself.
-/
import Derived.Test.YtgkakgibgfehaaaLyE1
namespace Go.Proofs.Ytgkakgibgfehaaa.fnExactPluralityMargin
open Go.RowKit
set_option linter.unusedVariables false


set_option maxRecDepth 100000 in
set_option maxHeartbeats 2000000 in
/-- The law's walk: it returns true, and writes nothing that was there. -/
theorem walk (a0 : Option Addr) (len0 cap0 : Nat) (z0 : List Pl) (a1 : Option Addr) (len1 cap1 : Nat) (z1 : List Int) (w : World) (w0 : IsPRow w a0 len0 cap0 z0) (w1 : IsRow .i64 w a1 len1 cap1 z1) :
    Calls Tq.prog 13 #[.slice a0 len0 cap0, .slice a1 len1 cap1] w fun e w' => e = .returned (.bool true) ∧ Below w.heap.size w w' := by
  by_cases hlong1 : 1048576 < len1
  · have hd : decide ((1048576 : Int) < (len1 : Int)) = true := decide_eq_true (by omega)
    go_enter Tq.func13, Tq.ntmps13
    go_wp2
    go_ret
    exact ⟨rfl, Below.refl _ _⟩
  have hd1 : decide ((1048576 : Int) < (len1 : Int)) = false := decide_eq_false (by omega)
  by_cases hall : len0 ≤ 1048576
  · have hl0 := hall
    have HI0 := Lib.hid (w0.piles hl0)
    have HH0 := Lib.hid w0.2.1
    have hm0 : len0 ≤ 1048600 := by omega
    have HI1 := Lib.hid (w1.ints (by omega))
    have hlt1 : (z1.take len1).length = len1 := HI1.out.1
    obtain ⟨zt, hzt⟩ : ∃ zt, z1.take len1 = zt := ⟨_, rfl⟩
    rw [hzt] at HI1 hlt1
    clear w0 w1 hzt
    go_enter Tq.func13, Tq.ntmps13
    go_wp2_with fail
    refine (szPileS_any _ _ _ z0 1048576 _ HI0.out HH0.out (by omega)).mono ?_
    rintro e w1 ⟨s0, rfl, hsz0, hs10, hb⟩
    have HI0 := Lib.hid (HI0.out.below hb)
    have HI1 := Lib.hid (HI1.out.below hb)
    have B := Lib.hid hb
    clear hb
    by_cases hneg0 : s0 < 0
    · have hd : decide (s0 < 0) = true := decide_eq_true hneg0
      go_wp2
      go_ret
      exact ⟨rfl, B.out⟩
    · have hd0 : decide (s0 < 0) = false := decide_eq_false hneg0
      have HS0 := Lib.hid (hsz0 (by omega)).2
      have hs20 := (hsz0 (by omega)).1
      clear hsz0
      obtain ⟨r, hr⟩ : ∃ r, plMar z0 zt = r := ⟨_, rfl⟩
      have Hr := Lib.hid hr
      clear hr
      have hrr : (r != r) = false := by simp
      have he0 : eqP z0 z0 = true := eqP_self z0
      have he1 : eqB zt zt = true := eqB_self zt
      go_wp2_with fail
      refine (toPileS_any _ len0 _ z0 _ HI0.out).mono ?_
      rintro e w2 ⟨ga0, rfl, ho, hb⟩
      have HI0 := Lib.hid (HI0.out.below hb)
      have HI1 := Lib.hid (HI1.out.below hb)
      have Oa0 := Lib.hid (ho)
      have B := Lib.hid (B.out.trans (hb.mono B.out.size))
      clear ho
      clear hb
      go_wp2_with fail
      refine (toIntS_any _ len1 _ zt _ HI1.out).mono ?_
      rintro e w3 ⟨ga1, rfl, ho, hb⟩
      have HI0 := Lib.hid (HI0.out.below hb)
      have HI1 := Lib.hid (HI1.out.below hb)
      have Oa0 := Lib.hid (owns_below Oa0.out hb)
      have Oa1 := Lib.hid (ho)
      have B := Lib.hid (B.out.trans (hb.mono B.out.size))
      clear ho
      clear hb
      go_wp2_with fail
      refine (specMar_as _ len0 _ z0 _ len1 _ zt r _ (IsPiles.of_owned Oa0.out (by omega)) HS0.out (IsInts.of_owned Oa1.out (by omega)) Hr.out).mono ?_
      rintro e w4 ⟨rfl, hb⟩
      have HI0 := Lib.hid (HI0.out.below hb)
      have HI1 := Lib.hid (HI1.out.below hb)
      have Oa0 := Lib.hid (owns_below Oa0.out hb)
      have Oa1 := Lib.hid (owns_below Oa1.out hb)
      have B := Lib.hid (B.out.trans (hb.mono B.out.size))
      clear hb
      clear Oa0 Oa1
      go_wp2_with fail
      refine (toPileS_any _ len0 _ z0 _ HI0.out).mono ?_
      rintro e w5 ⟨gx0, rfl, ho, hb⟩
      have HI0 := Lib.hid (HI0.out.below hb)
      have HI1 := Lib.hid (HI1.out.below hb)
      have Ox0 := Lib.hid (ho)
      have B := Lib.hid (B.out.trans (hb.mono B.out.size))
      clear ho
      clear hb
      go_wp2_with fail
      refine (toIntS_any _ len1 _ zt _ HI1.out).mono ?_
      rintro e w6 ⟨gx1, rfl, ho, hb⟩
      have HI0 := Lib.hid (HI0.out.below hb)
      have HI1 := Lib.hid (HI1.out.below hb)
      have Ox0 := Lib.hid (owns_below Ox0.out hb)
      have Ox1 := Lib.hid (ho)
      have B := Lib.hid (B.out.trans (hb.mono B.out.size))
      clear ho
      clear hb
      go_wp2_with fail
      refine (implMar_as _ len0 _ z0 _ len1 _ zt r _ (IsPiles.of_owned Ox0.out (by omega)) HS0.out (IsInts.of_owned Ox1.out (by omega)) Hr.out).mono ?_
      rintro e w7 ⟨rfl, hb⟩
      have HI0 := Lib.hid (HI0.out.below hb)
      have HI1 := Lib.hid (HI1.out.below hb)
      have Ox0 := Lib.hid (owns_below Ox0.out hb)
      have Ox1 := Lib.hid (owns_below Ox1.out hb)
      have B := Lib.hid (B.out.trans (hb.mono B.out.size))
      clear hb
      go_wp2_with fail
      refine (toPileS_any _ len0 _ z0 _ HI0.out).mono ?_
      rintro e w8 ⟨gy0, rfl, ho, hb⟩
      have HI0 := Lib.hid (HI0.out.below hb)
      have HI1 := Lib.hid (HI1.out.below hb)
      have Ox0 := Lib.hid (owns_below Ox0.out hb)
      have Ox1 := Lib.hid (owns_below Ox1.out hb)
      have Oy0 := Lib.hid (ho)
      have B := Lib.hid (B.out.trans (hb.mono B.out.size))
      clear ho
      clear hb
      go_wp2_with fail
      refine (eqPileS_as _ len0 _ z0 _ len0 _ z0 true _ (IsPiles.of_owned Ox0.out (by omega)) (IsPiles.of_owned Oy0.out (by omega)) he0).mono ?_
      rintro e w9 ⟨rfl, hb⟩
      have HI0 := Lib.hid (HI0.out.below hb)
      have HI1 := Lib.hid (HI1.out.below hb)
      have Ox0 := Lib.hid (owns_below Ox0.out hb)
      have Ox1 := Lib.hid (owns_below Ox1.out hb)
      have Oy0 := Lib.hid (owns_below Oy0.out hb)
      have B := Lib.hid (B.out.trans (hb.mono B.out.size))
      clear hb
      go_wp2_with fail
      refine (toIntS_any _ len1 _ zt _ HI1.out).mono ?_
      rintro e w10 ⟨gy1, rfl, ho, hb⟩
      have HI0 := Lib.hid (HI0.out.below hb)
      have HI1 := Lib.hid (HI1.out.below hb)
      have Ox1 := Lib.hid (owns_below Ox1.out hb)
      have Oy1 := Lib.hid (ho)
      have B := Lib.hid (B.out.trans (hb.mono B.out.size))
      clear ho
      clear hb
      go_wp2_with fail
      refine (eqIntS_self _ _ _ zt _ _ _ (IsInts.of_owned Ox1.out (by omega)) (IsInts.of_owned Oy1.out (by omega))).mono ?_
      rintro e w11 ⟨rfl, hd⟩
      have hb := hd.below w10.heap.size
      have HI0 := Lib.hid (HI0.out.below hb)
      have HI1 := Lib.hid (HI1.out.below hb)
      have Ox1 := Lib.hid (owns_below Ox1.out hb)
      have Oy1 := Lib.hid (owns_below Oy1.out hb)
      have B := Lib.hid (B.out.trans (hb.mono B.out.size))
      clear hb hd
      go_wp2
      go_ret
      exact ⟨rfl, B.out⟩
  · have hlong : 1048576 < len0 := by omega
    have hmx := w0.2.2.1
    go_enter Tq.func13, Tq.ntmps13
    go_wp2_with fail
    refine (szPileS_long _ _ _ 1048576 _ hlong hmx (by omega)).mono ?_
    rintro e w1 ⟨rfl, rfl⟩
    go_wp2
    go_ret
    exact ⟨rfl, Below.refl _ _⟩

end Go.Proofs.Ytgkakgibgfehaaa.fnExactPluralityMargin
