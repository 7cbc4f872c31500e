/-
  laws.FnFirstCounts returns true for every code. No condition.
-/
import Derived.Test.YtgkakgibgfehaaaSh3
import Derived.Test.YtgkakgibgfehaaaSh7
import Derived.Test.YtgkakgibgfehaaaSh26
namespace Go.Proofs.Ytgkakgibgfehaaa.fnFirstCounts
open Go.RowKit
set_option linter.unusedVariables false

set_option maxRecDepth 100000 in
set_option maxHeartbeats 2000000 in
/-- The law's walk: it returns true, and writes nothing that was there. -/
theorem walk (a0 : Option Addr) (len0 cap0 : Nat) (z0 : List Int) (w : World) (w0 : IsRow .u8 w a0 len0 cap0 z0) :
    Calls Tq.prog 3 #[.slice a0 len0 cap0] w fun e w' => e = .returned (.bool true) ∧ Below w.heap.size w w' := by
  by_cases hl : len0 ≤ 1048576
  · skip
    have hcap := w0.cap
    have HB := Lib.hid w0.bytes; clear w0
    go_enter Tq.func3, Tq.ntmps3
    go_wp2_with fail
    refine (drawFc_any a0 len0 cap0 _ _ HB.out hcap (by omega)).mono ?_
    rintro e w1 ⟨xs, g, c, L, al, cl, rfl, hp, hol, hl10, hb⟩
    have P := Lib.hid hp
    have B := Lib.hid hb
    have HSM := Lib.hid hp.2.1
    have hl13 := hp.2.2.2
    clear hb HB hp
    have hJ := IsBools.of_owned hol (by omega)
    clear hol
    obtain ⟨N, hN⟩ : ∃ N, L.length = N := ⟨_, rfl⟩
    have HN := Lib.hid hN
    rw [hN] at hJ hl10 ⊢
    have J := Lib.hid hJ
    clear hJ hN
    obtain ⟨v, hv⟩ : ∃ v, fitsB xs (N : Int) = v := ⟨_, rfl⟩
    obtain ⟨l, hL⟩ : ∃ l, (if v then countsL xs L else []) = l := ⟨_, rfl⟩
    have HV := Lib.hid hv
    have HL := Lib.hid hL
    have hll : l.length ≤ 10 := by
      rw [← hL]
      cases v
      · simp
      · rw [if_pos rfl, countsL_length, HN.out]; exact hl10
    clear hv hL
    have hne : (v != v) = false := by cases v <;> rfl
    have heq : (v == v) = true := by cases v <;> rfl
    go_wp2_with fail
    refine (implCounts_to _ _ _ xs _ N _ L v l _ P.out.piles HSM.out J.out HV.out HL.out).mono ?_
    rintro e w2 ⟨a1, c1, rfl, hi, hb⟩
    have P := Lib.hid (P.out.below hb)
    have J := Lib.hid (J.out.below hb)
    have B := Lib.hid (B.out.trans (hb.mono B.out.size))
    have I1 := Lib.hid hi
    clear hb hi
    go_wp2_with fail
    refine (specCounts_as _ _ _ xs _ N _ L v l _ P.out.piles HSM.out J.out HV.out HL.out).mono ?_
    rintro e w3 ⟨a2, c2, rfl, ho, hb⟩
    have P := Lib.hid (P.out.below hb)
    have J := Lib.hid (J.out.below hb)
    have I1 := Lib.hid (I1.out.below hb)
    have I2 := Lib.hid (IsInts.of_owned ho (by omega))
    have B := Lib.hid (B.out.trans (hb.mono B.out.size))
    clear hb ho
    go_wp2_with fail
    refine (sameInts_fst _ _ _ l _ _ _ I1.out I2.out).mono ?_
    rintro e w4 ⟨rfl, hd⟩
    have hb := hd.below w3.heap.size
    have P := Lib.hid (P.out.below hb)
    have J := Lib.hid (J.out.below hb)
    have I1 := Lib.hid (I1.out.below hb)
    have I2 := Lib.hid (I2.out.below hb)
    have B := Lib.hid (B.out.trans (hb.mono B.out.size))
    clear hb hd
    cases v
    · go_wp2_with fail
      refine (sameInts_fst _ _ _ l _ _ _ I1.out I2.out).mono ?_
      rintro e w5 ⟨rfl, hd⟩
      have B := Lib.hid (B.out.trans (hd.below _))
      clear hd
      go_wp2
      go_ret
      exact ⟨rfl, B.out⟩
    · clear I2
      obtain ⟨f1, f2, f3, f4, f5⟩ := fst_facts (ps := xs) (L := L) (by rw [HN.out]; exact HV.out)
      have hle : countsL xs L = l := HL.out
      rw [hle] at f1 f2 f3 f4
      rw [HN.out] at f1 f2
      have F2 := Lib.hid f2
      have F3 := Lib.hid f3
      have F4 := Lib.hid f4
      have F5 := Lib.hid f5
      rw [f1] at I1 ⊢
      have hN10 : N ≤ 10 := hl10
      clear f2 f3 f4 f5 hle hll
      go_wp2
      go_loopw [9] (fun iv wr => ∃ i : Nat, i ≤ N ∧ iv = .int .i64 (i : Int) ∧ Dr w4 wr) (fun iv _ => N - (intOf iv).toNat)
      case atStart => exact ⟨0, Nat.zero_le _, rfl, Dr.refl _⟩
      case round =>
        obtain ⟨i, hi, rfl, hd⟩ := hrel
        by_cases hlt : i < N
        · obtain ⟨bb, bo, eb, -, hcb⟩ := (J.out.below (hd.below _)).2.2.2 (by omega)
          subst eb
          obtain ⟨ib, io, ei, -, hci⟩ := (I1.out.dr hd).2.2.2 (by omega)
          subst ei
          have k1 := hcb i hlt
          have k2 := hci i hlt
          obtain ⟨t, ht⟩ : ∃ t, L[i]?.getD false = t := ⟨_, rfl⟩
          obtain ⟨z, hz⟩ : ∃ z, l[i]?.getD 0 = z := ⟨_, rfl⟩
          rw [ht] at k1
          rw [hz] at k2
          have hz0 : 0 ≤ z := by have := (F3.out i).1; rw [hz] at this; exact this
          have hzt : t = true → z = 0 := fun e => by rw [← hz]; exact F2.out i hlt (by rw [ht]; exact e)
          have hneg : decide (z < 0) = false := decide_eq_false (by omega)
          clear hcb hci ht hz
          cases t
          · clear hzt
            go_wp2_with fail
            all_goals (try go_quiet (fail))
            all_goals go_wp2
            all_goals go_roundw
            case rel => exact ⟨i + 1, by omega, by go_num, by first | exact hd | exact hd.drewN _⟩
            case measure => simp [intOf]; omega
          · obtain rfl := hzt rfl
            go_wp2_with fail
            all_goals (try go_quiet (fail))
            all_goals go_wp2
            all_goals go_roundw
            case rel => exact ⟨i + 1, by omega, by go_num, by first | exact hd | exact hd.drewN _⟩
            case measure => simp [intOf]; omega
        · obtain rfl : i = N := by omega
          obtain ⟨s, hs⟩ : ∃ s, totI l = s := ⟨_, rfl⟩
          obtain ⟨q, hq⟩ : ∃ q, totalL xs = q := ⟨_, rfl⟩
          have hsq : s ≤ q := by rw [← hs, ← hq, F5.out]; exact F4.out
          have HS := Lib.hid hs
          have HQ := Lib.hid hq
          have I1 := Lib.hid (I1.out.dr hd)
          have P := Lib.hid (P.out.below (hd.below _))
          have B := Lib.hid (B.out.trans (hd.below _))
          have heqN : ((i : Int) == (i : Int)) = true := by simp
          have hdec : decide (s ≤ q) = true := decide_eq_true hsq
          clear hs hq
          go_wp2_with fail
          refine (sumOf_as _ _ _ l s _ I1.out (by omega) (fun x => by have := F3.out x; omega) HS.out).mono ?_
          rintro e w6 ⟨rfl, rfl⟩
          go_wp2_with fail
          refine (implTotal_as _ _ _ xs q _ P.out.piles HSM.out HQ.out).mono ?_
          rintro e w7 ⟨rfl, hb⟩
          have B := Lib.hid (B.out.trans (hb.mono B.out.size))
          clear hb
          go_wp2
          go_ret
          exact ⟨rfl, B.out⟩
  · clear w0
    go_enter Tq.func3, Tq.ntmps3
    go_wp2
    go_ret
    exact ⟨rfl, Below.refl _ _⟩

end Go.Proofs.Ytgkakgibgfehaaa.fnFirstCounts
