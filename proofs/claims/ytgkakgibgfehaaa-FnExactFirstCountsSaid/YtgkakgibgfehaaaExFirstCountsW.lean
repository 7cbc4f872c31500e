/-
  laws.FnExactFirstCounts returns true for every list of piles and every list of bools: impl.FirstCounts answers as the model does, writes into no argument, and what it returns is memory of its own. No condition but what the statement says itself.
-/
import Derived.Test.YtgkakgibgfehaaaLyE1
namespace Go.Proofs.Ytgkakgibgfehaaa.fnExactFirstCounts
open Go.RowKit
set_option linter.unusedVariables false


set_option maxRecDepth 100000 in
set_option maxHeartbeats 2000000 in
/-- The law's walk: it returns true, and writes nothing that was there. -/
theorem walk (a0 : Option Addr) (len0 cap0 : Nat) (z0 : List Pl) (a1 : Option Addr) (len1 cap1 : Nat) (z1 : Nat → Bool) (w : World) (w0 : IsPRow w a0 len0 cap0 z0) (w1 : IsBoolRow w a1 len1 cap1 z1) :
    Calls Tq.prog 11 #[.slice a0 len0 cap0, .slice a1 len1 cap1] w fun e w' => e = .returned (.bool true) ∧ Below w.heap.size w w' := by
  by_cases hl1 : len1 ≤ 1048576
  · by_cases hl0 : len0 ≤ 1048576
    · have HI0 := Lib.hid (w0.piles hl0)
      have HH0 := Lib.hid w0.2.1
      have hm0 : len0 ≤ 1048600 := by omega
      have hm1 : len1 ≤ 1048600 := by omega
      have hbs := w1.bools hl1
      obtain ⟨L, hL⟩ : ∃ L, (List.range len1).map z1 = L := ⟨_, rfl⟩
      rw [hL] at hbs
      have HJ1 := Lib.hid hbs
      have hLn : L.length = len1 := hbs.1
      clear hL hbs
      clear w0 w1
      have hd1 : decide ((1048576 : Int) < (len1 : Int)) = false := decide_eq_false (by omega)
      go_enter Tq.func11, Tq.ntmps11
      go_wp2_with fail
      refine (szPileS_any _ _ _ z0 1048576 _ HI0.out HH0.out (by omega)).mono ?_
      rintro e w1 ⟨s0, rfl, hsz0, hs10, hb⟩
      have HI0 := Lib.hid (HI0.out.below hb)
      have HJ1 := Lib.hid (HJ1.out.below hb)
      have B := Lib.hid hb
      clear hb
      by_cases hneg0 : s0 < 0
      · have hd : decide (s0 < 0) = true := decide_eq_true hneg0
        go_wp2
        go_ret
        exact ⟨rfl, B.out⟩
      · have hd0 : decide (s0 < 0) = false := decide_eq_false hneg0
        have HS0 := Lib.hid (hsz0 (by omega)).2
        have hs20 := (hsz0 (by omega)).1
        clear hsz0
        obtain ⟨v, hv⟩ : ∃ v, fitsB z0 (len1 : Int) = v := ⟨_, rfl⟩
        obtain ⟨r, hr⟩ : ∃ r, (if v then countsL z0 L else []) = r := ⟨_, rfl⟩
        have hr5 : r.length ≤ 5 := by
          rw [← hr]
          cases v
          · simp
          · have h5 := (fits_parts hv).2.2.1
            rw [if_pos rfl, countsL_length]; omega
        have Hv := Lib.hid hv
        have Hr := Lib.hid hr
        clear hv hr
        have he0 : eqP z0 z0 = true := eqP_self z0
        have heB : eqBB L L = true := eqBB_self L
        have hne : (v != v) = false := by cases v <;> rfl
        go_wp2_with fail
        refine (toPileS_any _ len0 _ z0 _ HI0.out).mono ?_
        rintro e w2 ⟨ga0, rfl, ho, hb⟩
        have HI0 := Lib.hid (HI0.out.below hb)
        have HJ1 := Lib.hid (HJ1.out.below hb)
        have Oa0 := Lib.hid (ho)
        have B := Lib.hid (B.out.trans (hb.mono B.out.size))
        clear ho
        clear hb
        go_wp2_with fail
        refine (toBoolS_any _ len1 _ L _ HJ1.out).mono ?_
        rintro e w3 ⟨ga1, rfl, ho, hb⟩
        have HI0 := Lib.hid (HI0.out.below hb)
        have HJ1 := Lib.hid (HJ1.out.below hb)
        have Oa0 := Lib.hid (owns_below Oa0.out hb)
        have Oa1 := Lib.hid (ho)
        have B := Lib.hid (B.out.trans (hb.mono B.out.size))
        clear ho
        clear hb
        go_wp2_with fail
        refine (specCounts_as _ len0 _ z0 _ len1 _ L v r _ (IsPiles.of_owned Oa0.out (by omega)) HS0.out (IsBools.of_owns Oa1.out (by omega)) Hv.out Hr.out).mono ?_
        rintro e w4 ⟨a3, c3, rfl, ho, hb⟩
        have HI0 := Lib.hid (HI0.out.below hb)
        have HJ1 := Lib.hid (HJ1.out.below hb)
        have Oa0 := Lib.hid (owns_below Oa0.out hb)
        have Oa1 := Lib.hid (owns_below Oa1.out hb)
        have IW := Lib.hid (IsInts.of_owned ho (by omega))
        have B := Lib.hid (B.out.trans (hb.mono B.out.size))
        clear ho
        clear hb
        have C := Lib.hid (Below.refl w4.heap.size w4)
        have B3 := Lib.hid B.out
        clear B
        have HI0' := Lib.hid HI0.out
        have HJ1' := Lib.hid HJ1.out
        have IW' := Lib.hid IW.out
        clear HI0 HJ1 IW
        go_wp2_with fail
        refine (toPileS_any _ len0 _ z0 _ (HI0'.out.below C.out)).mono ?_
        rintro e w5 ⟨gx0, rfl, ho, hb⟩
        have Ox0 := Lib.hid (ho)
        have C := Lib.hid (C.out.trans (hb.mono C.out.size))
        clear ho
        clear hb
        have hgx0 : gx0 < w5.heap.size := (Ox0.out.lt gx0 rfl).2
        have hgy0 : w4.heap.size ≤ gx0 := by have h1 := (Ox0.out.lt gx0 rfl).1; have h2 := C.out.size; omega
        go_wp2_with fail
        refine (toBoolS_any _ len1 _ L _ (HJ1'.out.below C.out)).mono ?_
        rintro e w6 ⟨gx1, rfl, ho, hb⟩
        have Ox0 := Lib.hid (owns_below Ox0.out hb)
        have Ox1 := Lib.hid (ho)
        have C := Lib.hid (C.out.trans (hb.mono C.out.size))
        clear ho
        clear hb
        have hCg := C.out.size
        have hgz0 : gx0 < w6.heap.size := (Ox0.out.lt gx0 rfl).2
        have hgx1 : gx1 < w6.heap.size := (Ox1.out.lt gx1 rfl).2
        have hgy1 : w4.heap.size ≤ gx1 := by have h1 := (Ox1.out.lt gx1 rfl).1; omega
        go_wp2_with fail
        refine (implCounts_own _ len0 _ z0 _ len1 _ L v r _ (IsPiles.of_owned Ox0.out (by omega)) HS0.out (IsBools.of_owns Ox1.out (by omega)) Hv.out Hr.out).mono ?_
        rintro e w7 ⟨a5, c5, rfl, ho, hb⟩
        have Ox0 := Lib.hid (owns_below Ox0.out hb)
        have Ox1 := Lib.hid (owns_below Ox1.out hb)
        have Og := Lib.hid (ho)
        have C := Lib.hid (C.out.trans (hb.mono C.out.size))
        clear ho
        clear hb
        go_wp2_with fail
        refine (eqIntS_self _ _ _ r _ _ _ (IsInts.of_owned Og.out (by omega)) (IW'.out.below C.out)).mono ?_
        rintro e w8 ⟨rfl, hd⟩
        have hb := hd.below w7.heap.size
        have Ox0 := Lib.hid (owns_below Ox0.out hb)
        have Ox1 := Lib.hid (owns_below Ox1.out hb)
        have Og := Lib.hid (owns_below Og.out hb)
        have C := Lib.hid (C.out.trans (hb.mono C.out.size))
        clear hb hd
        go_wp2_with fail
        refine (toPileS_any _ len0 _ z0 _ (HI0'.out.below C.out)).mono ?_
        rintro e w9 ⟨gy0, rfl, ho, hb⟩
        have Ox0 := Lib.hid (owns_below Ox0.out hb)
        have Ox1 := Lib.hid (owns_below Ox1.out hb)
        have Og := Lib.hid (owns_below Og.out hb)
        have Oy0 := Lib.hid (ho)
        have C := Lib.hid (C.out.trans (hb.mono C.out.size))
        clear ho
        clear hb
        go_wp2_with fail
        refine (eqPileS_as _ len0 _ z0 _ len0 _ z0 true _ (IsPiles.of_owned Ox0.out (by omega)) (IsPiles.of_owned Oy0.out (by omega)) he0).mono ?_
        rintro e w10 ⟨rfl, hb⟩
        have Ox0 := Lib.hid (owns_below Ox0.out hb)
        have Ox1 := Lib.hid (owns_below Ox1.out hb)
        have Og := Lib.hid (owns_below Og.out hb)
        have Oy0 := Lib.hid (owns_below Oy0.out hb)
        have C := Lib.hid (C.out.trans (hb.mono C.out.size))
        clear hb
        clear Oy0
        go_wp2_with fail
        refine (toBoolS_any _ len1 _ L _ (HJ1'.out.below C.out)).mono ?_
        rintro e w11 ⟨gy1, rfl, ho, hb⟩
        have Ox0 := Lib.hid (owns_below Ox0.out hb)
        have Ox1 := Lib.hid (owns_below Ox1.out hb)
        have Og := Lib.hid (owns_below Og.out hb)
        have Oy1 := Lib.hid (ho)
        have C := Lib.hid (C.out.trans (hb.mono C.out.size))
        clear ho
        clear hb
        go_wp2_with fail
        refine (eqBoolS_any _ len1 _ L _ len1 _ L _ (IsBools.of_owns Ox1.out (by omega)) (IsBools.of_owns Oy1.out (by omega))).mono ?_
        rintro e w12 ⟨rfl, hd⟩
        have hb := hd.below w11.heap.size
        have Ox0 := Lib.hid (owns_below Ox0.out hb)
        have Ox1 := Lib.hid (owns_below Ox1.out hb)
        have Og := Lib.hid (owns_below Og.out hb)
        have Oy1 := Lib.hid (owns_below Oy1.out hb)
        have C := Lib.hid (C.out.trans (hb.mono C.out.size))
        clear hb hd
        clear Oy1
        go_wp2_with fail
        refine (markP_any _ (some ⟨gx0, 0, none⟩) len0 _ z0 1 _ Ox0.out hm0 (by omega) (by omega)).mono ?_
        rintro e w13 ⟨rfl, ho, hg⟩
        have Og := Lib.hid (owns_low Og.out hg (fun i ei => by cases ei; exact hgz0))
        have Ox1 := Lib.hid (owns_low Ox1.out hg (fun i ei => by cases ei; exact hgx0))
        have C := Lib.hid (C.out.grown hg (by have := C.out.size; omega) (fun i ei => by cases ei; exact hgy0))
        clear ho hg Ox0
        go_wp2_with fail
        refine (markB_any _ (some ⟨gx1, 0, none⟩) len1 _ L _ _ Ox1.out hm1 (by omega) (by omega)).mono ?_
        rintro e w14 ⟨rfl, hg⟩
        have Og := Lib.hid (owns_low Og.out hg (fun i ei => by cases ei; exact hgx1))
        have C := Lib.hid (C.out.grown hg (by have := C.out.size; omega) (fun i ei => by cases ei; exact hgy1))
        clear hg Ox1
        have hk0 : ¬ ((1 + 2 * (len0 : Int) + (len1 : Int)) < 0) := by omega
        have hk0d : decide ((1 + 2 * (len0 : Int) + (len1 : Int)) < 0) = false := decide_eq_false hk0
        go_wp2_with fail
        refine (eqIntS_self _ _ _ r _ _ _ (IsInts.of_owned Og.out (by omega)) (IW'.out.below C.out)).mono ?_
        rintro e w15 ⟨rfl, hd⟩
        have hb := hd.below w14.heap.size
        have Og := Lib.hid (owns_below Og.out hb)
        have C := Lib.hid (C.out.trans (hb.mono C.out.size))
        clear hb hd
        go_wp2_with fail
        refine (markInt_any w6.heap.size _ _ _ _ 1 _ Og.out (by omega) (by omega) (by omega)).mono ?_
        rintro e w16 ⟨rfl, ho, hb⟩
        have Og := Lib.hid ho
        have C := Lib.hid (C.out.trans (hb.mono hCg))
        clear ho hb
        have hq0 : ¬ (1 + (r.length : Int) < 0) := by omega
        have hq0d : decide (1 + (r.length : Int) < 0) = false := decide_eq_false hq0
        have hqq : ((1 + (r.length : Int)) != (1 + (r.length : Int))) = false := by simp
        go_wp2_with fail
        refine (heldInt_any _ _ _ 1 _ (IsInts.of_owned Og.out (by omega)) (by omega) (by omega)).mono ?_
        rintro e wq1 ⟨rfl, rfl⟩
        go_wp2_with fail
        refine (toPileS_any _ len0 _ z0 _ (HI0'.out.below C.out)).mono ?_
        rintro e w17 ⟨gz0, rfl, ho, hb⟩
        have Og := Lib.hid (owns_below Og.out hb)
        have Oz0 := Lib.hid (ho)
        have C := Lib.hid (C.out.trans (hb.mono C.out.size))
        clear ho
        clear hb
        go_wp2_with fail
        refine (toBoolS_any _ len1 _ L _ (HJ1'.out.below C.out)).mono ?_
        rintro e w18 ⟨gz1, rfl, ho, hb⟩
        have Og := Lib.hid (owns_below Og.out hb)
        have Oz0 := Lib.hid (owns_below Oz0.out hb)
        have Oz1 := Lib.hid (ho)
        have C := Lib.hid (C.out.trans (hb.mono C.out.size))
        clear ho
        clear hb
        go_wp2_with fail
        refine (implCounts_own _ len0 _ z0 _ len1 _ L v r _ (IsPiles.of_owned Oz0.out (by omega)) HS0.out (IsBools.of_owns Oz1.out (by omega)) Hv.out Hr.out).mono ?_
        rintro e w19 ⟨a8, c8, rfl, ho, hb⟩
        have Og := Lib.hid (owns_below Og.out hb)
        have Oz0 := Lib.hid (owns_below Oz0.out hb)
        have Oz1 := Lib.hid (owns_below Oz1.out hb)
        have Ih := Lib.hid (IsInts.of_owned ho (by omega))
        have C := Lib.hid (C.out.trans (hb.mono C.out.size))
        clear ho
        clear hb
        go_wp2_with fail
        refine (eqIntS_self _ _ _ r _ _ _ Ih.out (IW'.out.below C.out)).mono ?_
        rintro e w20 ⟨rfl, hd⟩
        have hb := hd.below w19.heap.size
        have Ih := Lib.hid (Ih.out.below hb)
        have Og := Lib.hid (owns_below Og.out hb)
        have C := Lib.hid (C.out.trans (hb.mono C.out.size))
        clear hb hd
        go_wp2_with fail
        refine (heldInt_any _ _ _ 1 _ (IsInts.of_owned Og.out (by omega)) (by omega) (by omega)).mono ?_
        rintro e wq2 ⟨rfl, rfl⟩
        go_wp2
        go_ret
        exact ⟨rfl, B3.out.trans (C.out.mono B3.out.size)⟩
    · have hlong : 1048576 < len0 := by omega
      have hmx := w0.2.2.1
      have hd1 : decide ((1048576 : Int) < (len1 : Int)) = false := decide_eq_false (by omega)
      go_enter Tq.func11, Tq.ntmps11
      go_wp2_with fail
      refine (szPileS_long _ _ _ 1048576 _ hlong hmx (by omega)).mono ?_
      rintro e w1 ⟨rfl, rfl⟩
      go_wp2
      go_ret
      exact ⟨rfl, Below.refl _ _⟩
  · have hd1 : decide ((1048576 : Int) < (len1 : Int)) = true := decide_eq_true (by omega)
    go_enter Tq.func11, Tq.ntmps11
    go_wp2
    go_ret
    exact ⟨rfl, Below.refl _ _⟩

end Go.Proofs.Ytgkakgibgfehaaa.fnExactFirstCounts
