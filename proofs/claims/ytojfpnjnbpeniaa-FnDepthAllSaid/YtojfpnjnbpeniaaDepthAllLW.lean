/-
  laws.FnDepthAll returns true for every code. No condition.
-/
import Derived.Test.YtojfpnjnbpeniaaGrp1
import Derived.Test.YtojfpnjnbpeniaaGrp17
import Derived.Test.YtojfpnjnbpeniaaGrp19
namespace Go.Proofs.Ytojfpnjnbpeniaa.fnDepthAll
open Go.RowKit
set_option linter.unusedVariables false


set_option maxRecDepth 100000 in
set_option maxHeartbeats 2000000 in
/-- The law's walk: it returns true, and writes nothing that was there. -/
theorem walk (a0 : Option Addr) (len0 cap0 : Nat) (z0 : List Int) (w : World) (w0 : IsRow .u8 w a0 len0 cap0 z0) :
    Calls Try.prog 4 #[.slice a0 len0 cap0] w fun e w' => e = .returned (.bool true) ∧ Below w.heap.size w w' := by
  by_cases hl : len0 ≤ 1048576
  · skip
    have hcap := w0.cap
    have HB := Lib.hid w0.bytes; clear w0
    go_enter Try.func4, Try.ntmps4
    go_wp2_with fail
    refine (drawDepth_any a0 len0 cap0 _ _ HB.out hcap (by omega)).mono ?_
    rintro e w1 ⟨xs, g, c, n, d, rfl, hp, hn6, hd0, hd6, hb⟩
    have P := Lib.hid hp
    have B := Lib.hid hb
    have HSM := Lib.hid hp.2.1
    have hl13 := hp.2.2.2
    clear hb HB hp
    obtain ⟨v, hv⟩ : ∃ v, depOk xs (n : Int) d = v := ⟨_, rfl⟩
    obtain ⟨l, hL⟩ : ∃ l, depR xs (n : Int) d = l := ⟨_, rfl⟩
    have hl5 : l.length ≤ 5 := by rw [← hL]; exact depR_short
    have HV := Lib.hid hv
    have HL := Lib.hid hL
    clear hv hL
    have hne : (v != v) = false := by cases v <;> rfl
    have heq : (v == v) = true := by cases v <;> rfl
    go_wp2_with fail
    refine (implDepth_as _ _ _ xs (n : Int) d v l _ P.out.piles HSM.out HV.out HL.out).mono ?_
    rintro e w2 ⟨a1, c1, rfl, ho, hb⟩
    have P := Lib.hid (P.out.below hb)
    have I1 := Lib.hid (IsInts.of_owned ho (by omega))
    have B := Lib.hid (B.out.trans (hb.mono B.out.size))
    clear hb ho
    go_wp2_with fail
    refine (specDepth_as _ _ _ xs (n : Int) d v l _ P.out.piles HSM.out HV.out HL.out).mono ?_
    rintro e w3 ⟨a2, c2, rfl, ho, hb⟩
    have P := Lib.hid (P.out.below hb)
    have I1 := Lib.hid (I1.out.below hb)
    have I2 := Lib.hid (IsInts.of_owned ho (by omega))
    have B := Lib.hid (B.out.trans (hb.mono B.out.size))
    clear hb ho
    go_wp2_with fail
    refine (sameInts_self _ _ _ l _ _ _ I1.out I2.out).mono ?_
    rintro e w4 ⟨rfl, hd⟩
    have hb := hd.below w3.heap.size
    have P := Lib.hid (P.out.below hb)
    have I1 := Lib.hid (I1.out.below hb)
    have I2 := Lib.hid (I2.out.below hb)
    have B := Lib.hid (B.out.trans (hb.mono B.out.size))
    clear hb hd
    cases v
    · skip
      go_wp2_with fail
      refine (sameInts_self _ _ _ l _ _ _ I1.out I2.out).mono ?_
      rintro e w5 ⟨rfl, hd⟩
      have hb := hd.below w4.heap.size
      have P := Lib.hid (P.out.below hb)
      have I1 := Lib.hid (I1.out.below hb)
      have I2 := Lib.hid (I2.out.below hb)
      have B := Lib.hid (B.out.trans (hb.mono B.out.size))
      clear hb hd
      go_wp2
      go_ret
      exact ⟨rfl, B.out⟩
    · skip
      have hfit : fitsB xs (n : Int) = true := by have := HV.out; unfold depOk at this; simp only [Bool.and_eq_true] at this; exact this.1
      obtain ⟨hpv, hn1, hn5, -⟩ := fits_parts hfit
      have HP := Lib.hid hpv
      have hx12 := (pilesB_pos hpv).2.2.2.2
      have HALL : Hid (totI (depL xs n 5) = wsum (fun t => (t.size : Int)) xs) := depL_all (fits_both hfit).2
      have HOK5 : Hid (depOk xs (n : Int) 5 = true) := by rw [Hid, depOk, hfit]; rfl
      have HR5 : Hid (depR xs (n : Int) 5 = depL xs n 5) := by rw [Hid, depR, if_pos HOK5.out, Int.toNat_natCast]; rfl
      have HBD : Hid (∀ x : Nat, 0 ≤ (depL xs n 5)[x]?.getD 0 ∧ (depL xs n 5)[x]?.getD 0 ≤ 100000) := fun x => by have := depL_bound hfit 5 x; omega
      have hln : (depL xs n 5).length = n := depL_length _ _ _
      obtain ⟨l5, hl5e⟩ : ∃ l5, depL xs n 5 = l5 := ⟨_, rfl⟩
      rw [hl5e] at HALL HR5 HBD hln
      clear hpv hfit hl5e
      clear I1 I2
      go_wp2_with fail
      refine (implDepth_as _ _ _ xs (n : Int) 5 true l5 _ P.out.piles HSM.out HOK5.out HR5.out).mono ?_
      rintro e w5 ⟨a5, c5, rfl, ho, hb⟩
      have P := Lib.hid (P.out.below hb)
      have I5 := Lib.hid (IsInts.of_owned ho (by omega))
      have B := Lib.hid (B.out.trans (hb.mono B.out.size))
      clear hb ho
      try rw [hln] at I5
      try rw [hln]
      go_wp2
      go_loopw [12, 13] (fun mv iv wr => ∃ (i : Nat) (m : Int), i ≤ xs.length ∧ iv = .int .i64 (i : Int) ∧ mv = .int .i64 m ∧ Hid (wsum (fun t => (t.size : Int)) (xs.take i) = m) ∧ Dr w5 wr) (fun _ iv _ => xs.length - (intOf iv).toNat)
      case atStart => exact ⟨0, 0, Nat.zero_le _, rfl, rfl, rfl, Dr.refl _⟩
      case round =>
        obtain ⟨i, m, hi, rfl, rfl, hM, hd⟩ := hrel
        have PW := Lib.hid (P.out.below (hd.below _))
        by_cases hlt : i < xs.length
        · skip
          obtain ⟨b, off, eb, hb, k0, k1⟩ := PW.out.piles.at_text hlt
          injection eb with eb
          injection eb with eb1 eb2
          subst eb1
          subst eb2
          rw [Nat.zero_add] at k0 k1
          have hm99 := mAt_valid HP.out i
          have htx : (tAt xs i).size ≤ 5 := txt_five HP.out i
          have hmb : 0 ≤ m ∧ m ≤ 500 * (i : Int) := by rw [← hM.out]; exact wsum_sizes HP.out i (by omega)
          have HN : Hid (wsum (fun t => (t.size : Int)) (xs.take (i + 1)) = m + ((tAt xs i).size : Int) * mAt xs i) := by rw [Hid, wsum_take hlt, hM.out]
          obtain ⟨t, ht⟩ : ∃ t, tAt xs i = t := ⟨_, rfl⟩
          obtain ⟨q, hq⟩ : ∃ q, mAt xs i = q := ⟨_, rfl⟩
          rw [ht] at k0 HN htx
          rw [hq] at k1 HN hm99
          clear ht hq
          obtain ⟨z, hz⟩ : ∃ z, (t.size : Int) = z := ⟨_, rfl⟩
          have hzb : 0 ≤ z ∧ z ≤ 5 := by omega
          have hzq : 0 ≤ z * q ∧ z * q ≤ 495 := ⟨Int.mul_nonneg hzb.1 hm99.1, Int.le_trans (Int.mul_le_mul hzb.2 hm99.2 hm99.1 (by omega)) (by omega)⟩
          have hii : (i : Int) < (xs.length : Int) := by omega
          rw [hz] at HN
          go_wp2_with fail
          go_quiet (fail)
          go_wp2
          go_roundw
          case rel => exact ⟨i + 1, m + z * q, by omega, by go_num, rfl, HN, hd.drewN _⟩
          case measure => simp [intOf]; omega
        · obtain rfl : i = xs.length := by omega
          have HE : Hid (totI l5 = m) := by rw [Hid, HALL.out, ← hM.out, List.take_length]
          have I6 := Lib.hid (I5.out.dr hd)
          have heqm : (m == m) = true := by simp
          go_wp2_with fail
          refine (sumOf_as _ _ _ l5 m _ I6.out (by omega) HBD.out HE.out).mono ?_
          rintro e w9 ⟨rfl, rfl⟩
          go_wp2
          go_ret
          exact ⟨rfl, B.out.trans (hd.below _)⟩
  · clear w0
    go_enter Try.func4, Try.ntmps4
    go_wp2
    go_ret
    exact ⟨rfl, Below.refl _ _⟩

end Go.Proofs.Ytojfpnjnbpeniaa.fnDepthAll
