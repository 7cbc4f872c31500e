/-
  laws.FnExactPairCounts returns true for every list of piles and every number: impl.PairCounts answers as the model does, writes into no argument, and what it returns is memory of its own. No condition but what the statement says itself.
-/
import Derived.Test.YtaaamidkfhabnaaGrp4
import Derived.Test.YtaaamidkfhabnaaGrp16
import Derived.Test.YtaaamidkfhabnaaGrp11
import Derived.Test.YtaaamidkfhabnaaWinsS
import Derived.Test.YtaaamidkfhabnaaGrp17
import Derived.Test.YtaaamidkfhabnaaGrp10
namespace Go.Proofs.Ytaaamidkfhabnaa.fnExactPairCounts
open Go.RowKit
set_option linter.unusedVariables false


set_option maxRecDepth 100000 in
set_option maxHeartbeats 2000000 in
/-- The law's walk: it returns true, and writes nothing that was there. -/
theorem walk (a0 : Option Addr) (len0 cap0 : Nat) (z0 : List Pl) (a1 : Int) (w : World) (w0 : IsPRow w a0 len0 cap0 z0) (w1 : (Lit.int .i64 a1).wf = true) :
    Calls Try.prog 14 #[.slice a0 len0 cap0, .int .i64 a1] w fun e w' => e = .returned (.bool true) ∧ Below w.heap.size w w' := by
  by_cases hall : len0 ≤ 1048576
  · have hl0 := hall
    have HI0 := Lib.hid (w0.piles hl0)
    have HH0 := Lib.hid w0.2.1
    have hm0 : len0 ≤ 1048600 := by omega
    clear w0
    go_enter Try.func14, Try.ntmps14
    go_wp2_with fail
    refine (szPileS_any _ _ _ z0 1048576 _ HI0.out HH0.out (by omega)).mono ?_
    rintro e w1 ⟨s0, rfl, hsz0, hs10, hb⟩
    have HI0 := Lib.hid (HI0.out.below hb)
    have B := Lib.hid hb
    clear hb
    by_cases hneg0 : s0 < 0
    · have hd : decide (s0 < 0) = true := decide_eq_true hneg0
      go_wp2
      go_ret
      exact ⟨rfl, B.out⟩
    · have hd0 : decide (s0 < 0) = false := decide_eq_false hneg0
      have HS0 := Lib.hid (hsz0 (by omega)).2
      have hs20 := (hsz0 (by omega)).1
      clear hsz0
      obtain ⟨v, hv⟩ : ∃ v, fitsB z0 a1 = v := ⟨_, rfl⟩
      have hn15 : v = true → 1 ≤ a1 ∧ a1 ≤ 5 := fun e => by subst e; obtain ⟨_, h1, h5, _⟩ := fits_parts hv; exact ⟨h1, h5⟩
      have Hv := Lib.hid hv
      clear hv
      have he0 : eqP z0 z0 = true := eqP_self z0
      have hne : (v != v) = false := by cases v <;> rfl
      go_wp2_with fail
      refine (toPileS_any _ len0 _ z0 _ HI0.out).mono ?_
      rintro e w2 ⟨ga0, rfl, ho, hb⟩
      have HI0 := Lib.hid (HI0.out.below hb)
      have Oa0 := Lib.hid (ho)
      have B := Lib.hid (B.out.trans (hb.mono B.out.size))
      clear ho
      clear hb
      go_wp2_with fail
      refine (specPairCounts_as _ len0 _ z0 a1 v _ (IsPiles.of_owned Oa0.out (by omega)) HS0.out Hv.out).mono ?_
      rintro e w3 ⟨a3, c3, G3, C3, rfl, hT3, hb⟩
      have HI0 := Lib.hid (HI0.out.below hb)
      have Oa0 := Lib.hid (owns_below Oa0.out hb)
      have B := Lib.hid (B.out.trans (hb.mono B.out.size))
      clear hb
      have C := Lib.hid (Below.refl w3.heap.size w3)
      have B3 := Lib.hid B.out
      clear B
      have HI0' := Lib.hid HI0.out
      clear HI0
      cases v
      · skip
        have IW' : Hid (IsRows w3 a3 0 c3 []) := IsRows.empty8 _ _ _
        clear hT3 hn15
        simp only [Bool.false_eq_true, if_false]
        go_wp2_with fail
        refine (toPileS_any _ len0 _ z0 _ (HI0'.out.below C.out)).mono ?_
        rintro e w4 ⟨gx0, rfl, ho, hb⟩
        have Ox0 := Lib.hid (ho)
        have C := Lib.hid (C.out.trans (hb.mono C.out.size))
        clear ho
        clear hb
        have hCg := C.out.size
        have hgx0 : gx0 < w4.heap.size := (Ox0.out.lt gx0 rfl).2
        have hgy0 : w3.heap.size ≤ gx0 := by have := (Ox0.out.lt gx0 rfl).1; omega
        go_wp2_with fail
        refine (implPairCounts_as _ len0 _ z0 a1 false _ (IsPiles.of_owned Ox0.out (by omega)) HS0.out Hv.out).mono ?_
        rintro e w5 (⟨-, rfl, hb⟩ | ⟨h, _⟩)
        rotate_left
        · cases h
        have Ox0 := Lib.hid (owns_below Ox0.out hb)
        have C := Lib.hid (C.out.trans (hb.mono C.out.size))
        clear hb
        have Ie : Hid (IsRows w5 none 0 0 []) := IsRows.empty8 _ _ _
        go_wp2_with fail
        refine (eqIntSS_same _ _ _ _ _ _ _ Ie.out (IW'.out.below C.out)).mono ?_
        rintro e w6 ⟨rfl, hd⟩
        have hb := hd.below w5.heap.size
        have Ox0 := Lib.hid (owns_below Ox0.out hb)
        have C := Lib.hid (C.out.trans (hb.mono C.out.size))
        clear hb hd
        clear Ie
        go_wp2_with fail
        refine (toPileS_any _ len0 _ z0 _ (HI0'.out.below C.out)).mono ?_
        rintro e w7 ⟨gy0, rfl, ho, hb⟩
        have Ox0 := Lib.hid (owns_below Ox0.out hb)
        have Oy0 := Lib.hid (ho)
        have C := Lib.hid (C.out.trans (hb.mono C.out.size))
        clear ho
        clear hb
        go_wp2_with fail
        refine (eqPileS_as _ len0 _ z0 _ len0 _ z0 true _ (IsPiles.of_owned Ox0.out (by omega)) (IsPiles.of_owned Oy0.out (by omega)) he0).mono ?_
        rintro e w8 ⟨rfl, hb⟩
        have Ox0 := Lib.hid (owns_below Ox0.out hb)
        have Oy0 := Lib.hid (owns_below Oy0.out hb)
        have C := Lib.hid (C.out.trans (hb.mono C.out.size))
        clear hb
        go_wp2_with fail
        refine (markP_any _ (some ⟨gx0, 0, none⟩) len0 _ z0 1 _ Ox0.out hm0 (by omega) (by omega)).mono ?_
        rintro e w9 ⟨rfl, ho, hg⟩
        have C := Lib.hid (C.out.grown hg (by have := C.out.size; omega) (fun i ei => by cases ei; exact hgy0))
        clear ho hg
        have hk0 : ¬ ((1 + 2 * (len0 : Int)) < 0) := by omega
        have hk0d : decide ((1 + 2 * (len0 : Int)) < 0) = false := decide_eq_false hk0
        have Ie : Hid (IsRows w9 none 0 0 []) := IsRows.empty8 _ _ _
        go_wp2_with fail
        refine (eqIntSS_same _ _ _ _ _ _ _ Ie.out (IW'.out.below C.out)).mono ?_
        rintro e w10 ⟨rfl, hd⟩
        have hb := hd.below w9.heap.size
        have C := Lib.hid (C.out.trans (hb.mono C.out.size))
        clear hb hd
        clear Ie
        go_wp2_with fail
        refine (markT_none _ _).mono ?_
        rintro e wm ⟨rfl, rfl⟩
        go_wp2_with fail
        refine (heldT_none _ _).mono ?_
        rintro e wm ⟨rfl, rfl⟩
        go_wp2_with fail
        refine (toPileS_any _ len0 _ z0 _ (HI0'.out.below C.out)).mono ?_
        rintro e w11 ⟨gz0, rfl, ho, hb⟩
        have Oz0 := Lib.hid (ho)
        have C := Lib.hid (C.out.trans (hb.mono C.out.size))
        clear ho
        clear hb
        go_wp2_with fail
        refine (implPairCounts_as _ len0 _ z0 a1 false _ (IsPiles.of_owned Oz0.out (by omega)) HS0.out Hv.out).mono ?_
        rintro e w12 (⟨-, rfl, hb⟩ | ⟨h, _⟩)
        rotate_left
        · cases h
        have C := Lib.hid (C.out.trans (hb.mono C.out.size))
        clear hb
        have Ie : Hid (IsRows w12 none 0 0 []) := IsRows.empty8 _ _ _
        go_wp2_with fail
        refine (eqIntSS_same _ _ _ _ _ _ _ Ie.out (IW'.out.below C.out)).mono ?_
        rintro e w13 ⟨rfl, hd⟩
        have hb := hd.below w12.heap.size
        have C := Lib.hid (C.out.trans (hb.mono C.out.size))
        clear hb hd
        clear Ie
        go_wp2_with fail
        refine (heldT_none _ _).mono ?_
        rintro e wm ⟨rfl, rfl⟩
        go_wp2
        go_ret
        exact ⟨rfl, B3.out.trans (C.out.mono B3.out.size)⟩
      · skip
        obtain ⟨h1, h5⟩ := hn15 rfl
        obtain ⟨N, rfl⟩ : ∃ N : Nat, a1 = (N : Int) := ⟨a1.toNat, by omega⟩
        have hN1 : 1 ≤ N := by omega
        have hN5 : N ≤ 5 := by omega
        have hT3' := hT3 rfl
        simp only [if_true, Int.toNat_natCast] at hT3' ⊢
        have IW' := Lib.hid (hT3'.isRows (by omega) (fun i j _ _ => rfl))
        clear hT3 hT3' hn15
        go_wp2_with fail
        refine (toPileS_any _ len0 _ z0 _ (HI0'.out.below C.out)).mono ?_
        rintro e w4 ⟨gx0, rfl, ho, hb⟩
        have Ox0 := Lib.hid (ho)
        have C := Lib.hid (C.out.trans (hb.mono C.out.size))
        clear ho
        clear hb
        have hCg := C.out.size
        have hgx0 : gx0 < w4.heap.size := (Ox0.out.lt gx0 rfl).2
        have hgy0 : w3.heap.size ≤ gx0 := by have := (Ox0.out.lt gx0 rfl).1; omega
        go_wp2_with fail
        refine (implPairCounts_as _ len0 _ z0 (N : Int) true _ (IsPiles.of_owned Ox0.out (by omega)) HS0.out Hv.out).mono ?_
        rintro e w5 (⟨h, _⟩ | ⟨-, gt, G, rfl, hT, -, hb⟩)
        · cases h
        rw [Int.toNat_natCast] at hT ⊢
        have Ox0 := Lib.hid (owns_below Ox0.out hb)
        have C := Lib.hid (C.out.trans (hb.mono C.out.size))
        have TG := Lib.hid hT
        clear hb hT
        go_wp2_with fail
        refine (eqIntSS_same _ _ _ _ _ _ _ (TG.out.isRows (by omega) (fun i j _ _ => rfl)) (IW'.out.below C.out)).mono ?_
        rintro e w6 ⟨rfl, hd⟩
        have hb := hd.below w5.heap.size
        have Ox0 := Lib.hid (owns_below Ox0.out hb)
        have TG := Lib.hid (TG.out.under hb)
        have C := Lib.hid (C.out.trans (hb.mono C.out.size))
        clear hb hd
        go_wp2_with fail
        refine (toPileS_any _ len0 _ z0 _ (HI0'.out.below C.out)).mono ?_
        rintro e w7 ⟨gy0, rfl, ho, hb⟩
        have Ox0 := Lib.hid (owns_below Ox0.out hb)
        have Oy0 := Lib.hid (ho)
        have C := Lib.hid (C.out.trans (hb.mono C.out.size))
        clear ho
        have TG := Lib.hid (TG.out.under hb)
        clear hb
        go_wp2_with fail
        refine (eqPileS_as _ len0 _ z0 _ len0 _ z0 true _ (IsPiles.of_owned Ox0.out (by omega)) (IsPiles.of_owned Oy0.out (by omega)) he0).mono ?_
        rintro e w8 ⟨rfl, hb⟩
        have Ox0 := Lib.hid (owns_below Ox0.out hb)
        have Oy0 := Lib.hid (owns_below Oy0.out hb)
        have C := Lib.hid (C.out.trans (hb.mono C.out.size))
        have TG := Lib.hid (TG.out.under hb)
        clear hb
        go_wp2_with fail
        refine (markP_any _ (some ⟨gx0, 0, none⟩) len0 _ z0 1 _ Ox0.out hm0 (by omega) (by omega)).mono ?_
        rintro e w9 ⟨rfl, ho, hg⟩
        have TG := Lib.hid (TG.out.low hg (fun i ei => by cases ei; exact hgx0))
        have C := Lib.hid (C.out.grown hg (by have := C.out.size; omega) (fun i ei => by cases ei; exact hgy0))
        clear ho hg
        have hk0 : ¬ ((1 + 2 * (len0 : Int)) < 0) := by omega
        have hk0d : decide ((1 + 2 * (len0 : Int)) < 0) = false := decide_eq_false hk0
        go_wp2_with fail
        refine (eqIntSS_same _ _ _ _ _ _ _ (TG.out.isRows (by omega) (fun i j _ _ => rfl)) (IW'.out.below C.out)).mono ?_
        rintro e w10 ⟨rfl, hd⟩
        have hb := hd.below w9.heap.size
        have TG := Lib.hid (TG.out.under hb)
        have C := Lib.hid (C.out.trans (hb.mono C.out.size))
        clear hb hd
        go_wp2_with fail
        refine (markT_any w4.heap.size gt N G _ _ TG.out hN5).mono ?_
        rintro e w11 ⟨rfl, hT, hb⟩
        have TG := Lib.hid hT
        have C := Lib.hid (C.out.trans (hb.mono hCg))
        clear hT hb
        obtain ⟨q, hq⟩ : ∃ q : Int, 1 + (N : Int) * (N : Int) = q := ⟨_, rfl⟩
        have hqb : 0 ≤ q ∧ q ≤ 26 := by have := mul_five hN5 (Nat.le_refl N); omega
        rw [hq]
        have HQ := Lib.hid hq
        clear hq
        have hq0d : decide (q < 0) = false := decide_eq_false (by omega)
        have hqq : (q != q) = false := by simp
        go_wp2_with fail
        refine (heldT_any _ gt N G _ TG.out hN5).mono ?_
        rintro e wq1 ⟨he, rfl⟩
        rw [HQ.out] at he
        subst he
        go_wp2_with fail
        refine (toPileS_any _ len0 _ z0 _ (HI0'.out.below C.out)).mono ?_
        rintro e w12 ⟨gz0, rfl, ho, hb⟩
        have Oz0 := Lib.hid (ho)
        have C := Lib.hid (C.out.trans (hb.mono C.out.size))
        clear ho
        have TG := Lib.hid (TG.out.under hb)
        clear hb
        go_wp2_with fail
        refine (implPairCounts_as _ len0 _ z0 (N : Int) true _ (IsPiles.of_owned Oz0.out (by omega)) HS0.out Hv.out).mono ?_
        rintro e w13 (⟨h, _⟩ | ⟨-, gt2, G2, rfl, hT, -, hb⟩)
        · cases h
        rw [Int.toNat_natCast] at hT ⊢
        have TG := Lib.hid (TG.out.under hb)
        have C := Lib.hid (C.out.trans (hb.mono C.out.size))
        have RH := Lib.hid (hT.isRows (by omega) (fun i j _ _ => rfl))
        clear hb hT
        go_wp2_with fail
        refine (eqIntSS_same _ _ _ _ _ _ _ RH.out (IW'.out.below C.out)).mono ?_
        rintro e w14 ⟨rfl, hd⟩
        have hb := hd.below w13.heap.size
        have TG := Lib.hid (TG.out.under hb)
        have C := Lib.hid (C.out.trans (hb.mono C.out.size))
        clear hb hd
        go_wp2_with fail
        refine (heldT_any _ gt N G _ TG.out hN5).mono ?_
        rintro e wq2 ⟨he, rfl⟩
        rw [HQ.out] at he
        subst he
        go_wp2
        go_ret
        exact ⟨rfl, B3.out.trans (C.out.mono B3.out.size)⟩
  · have hlong : 1048576 < len0 := by omega
    have hmx := w0.2.2.1
    go_enter Try.func14, Try.ntmps14
    go_wp2_with fail
    refine (szPileS_long _ _ _ 1048576 _ hlong hmx (by omega)).mono ?_
    rintro e w1 ⟨rfl, rfl⟩
    go_wp2
    go_ret
    exact ⟨rfl, Below.refl _ _⟩

end Go.Proofs.Ytaaamidkfhabnaa.fnExactPairCounts
