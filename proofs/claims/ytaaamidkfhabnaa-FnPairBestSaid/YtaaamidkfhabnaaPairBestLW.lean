/-
  laws.FnPairBest returns true for every code. No condition.
-/
import Derived.Test.YtaaamidkfhabnaaGrp4
import Derived.Test.YtaaamidkfhabnaaGrp13
import Derived.Test.YtaaamidkfhabnaaPthS
import Derived.Test.YtaaamidkfhabnaaGrp14
import Derived.Test.YtaaamidkfhabnaaGrp15
import Derived.Test.YtaaamidkfhabnaaGrp3
import Derived.Test.YtaaamidkfhabnaaGrp12
namespace Go.Proofs.Ytaaamidkfhabnaa.fnPairBest
open Go.RowKit
set_option linter.unusedVariables false


set_option maxRecDepth 100000 in
set_option maxHeartbeats 2000000 in
/-- The law's walk: it returns true, and writes nothing that was there. -/
theorem walk (a0 : Option Addr) (len0 cap0 : Nat) (z0 : List Int) (w : World) (w0 : IsRow .u8 w a0 len0 cap0 z0) :
    Calls Try.prog 11 #[.slice a0 len0 cap0] w fun e w' => e = .returned (.bool true) ∧ Below w.heap.size w w' := by
  by_cases hl : len0 ≤ 1048576
  · skip
    have hcap := w0.cap
    have HB := Lib.hid w0.bytes; clear w0
    go_enter Try.func11, Try.ntmps11
    go_wp2_with fail
    refine (drawXBest_any a0 len0 cap0 _ _ HB.out hcap (by omega)).mono ?_
    rintro e w1 ⟨xs, g, c, n, rfl, hp, hn6, hb⟩
    have P := Lib.hid hp
    have B := Lib.hid hb
    have HSM := Lib.hid hp.2.1
    have hl13 := hp.2.2.2
    clear hb HB hp
    obtain ⟨v, hv⟩ : ∃ v, fitsB xs (n : Int) = v := ⟨_, rfl⟩
    have HV := Lib.hid hv
    obtain ⟨r, hr⟩ : ∃ r, pbestF xs (n : Int) = r := ⟨_, rfl⟩
    have hlen : r.length ≤ 5 := by rw [← hr]; exact pbestF_short
    have HR := Lib.hid hr
    clear hr hv
    go_wp2_with fail
    refine (implPairBest_as _ _ _ xs (n : Int) r _ P.out.piles HSM.out HR.out).mono ?_
    rintro e w2 ⟨aL, cL, rfl, ho, hb⟩
    have P := Lib.hid (P.out.below hb)
    have L1 := Lib.hid (IsInts.of_owned ho (by omega))
    have B := Lib.hid (B.out.trans (hb.mono B.out.size))
    clear hb ho
    go_wp2_with fail
    refine (specPairBest_as _ _ _ xs (n : Int) r _ P.out.piles HSM.out HR.out).mono ?_
    rintro e w3 ⟨aM, cM, rfl, ho, hb⟩
    have P := Lib.hid (P.out.below hb)
    have L1 := Lib.hid (L1.out.below hb)
    have L2 := Lib.hid (IsInts.of_owned ho (by omega))
    have B := Lib.hid (B.out.trans (hb.mono B.out.size))
    clear hb ho
    go_wp2_with fail
    refine (sameInts_self _ _ _ r _ _ _ L1.out L2.out).mono ?_
    rintro e w4 ⟨rfl, hd⟩
    have hb := hd.below w3.heap.size
    have P := Lib.hid (P.out.below hb)
    have L1 := Lib.hid (L1.out.below hb)
    have L2 := Lib.hid (L2.out.below hb)
    have B := Lib.hid (B.out.trans (hb.mono B.out.size))
    clear hb hd
    by_cases hz : r.length = 0
    · have hzi : ((r.length : Int) == 0) = true := by rw [hz]; rfl
      clear hz
      go_wp2_with fail
      refine (sameInts_self _ _ _ r _ _ _ L1.out L2.out).mono ?_
      rintro e w5 ⟨rfl, hd⟩
      have hb := hd.below w4.heap.size
      have P := Lib.hid (P.out.below hb)
      have L1 := Lib.hid (L1.out.below hb)
      have L2 := Lib.hid (L2.out.below hb)
      have B := Lib.hid (B.out.trans (hb.mono B.out.size))
      clear hb hd
      go_wp2
      go_ret
      exact ⟨rfl, B.out⟩
    · skip
      have hzi : ((r.length : Int) == 0) = false := beq_eq_false_iff_ne.2 (by omega)
      have hv1 : v = true := by
        cases v
        · exfalso
          have e : r = [] := by rw [← HR.out, pbestF, HV.out]; rfl
          rw [e] at hz
          simp at hz
        · rfl
      subst hv1
      obtain ⟨hpv, hn1i, hn5i, -⟩ := fits_parts HV.out
      have hn1 : 1 ≤ n := by omega
      have hn5 : n ≤ 5 := by omega
      have HP := Lib.hid hpv
      clear hpv hn1i hn5i
      clear L2
      have HL : Hid (r = candTo (pbestB (pairF xs) n) n) := by rw [Hid, ← HR.out, pbestF, HV.out]; rfl
      obtain ⟨r2, hr2⟩ : ∃ r2, ptopF xs (n : Int) = r2 := ⟨_, rfl⟩
      have hlen2 : r2.length ≤ 5 := by rw [← hr2]; exact ptopF_short
      have HR2 := Lib.hid hr2
      clear hr2
      go_wp2_with fail
      refine (implPairTop_as _ _ _ xs (n : Int) r2 _ P.out.piles HSM.out HR2.out).mono ?_
      rintro e w5 ⟨aT, cT, rfl, ho, hb⟩
      have P := Lib.hid (P.out.below hb)
      have L1 := Lib.hid (L1.out.below hb)
      have L3 := Lib.hid (IsInts.of_owned ho (by omega))
      have B := Lib.hid (B.out.trans (hb.mono B.out.size))
      clear hb ho
      have HLOW : Hid (∀ x y, 0 ≤ pairF xs x y) := fun x y => pairF_low (pilesB_pos HP.out).2.1 x y
      have HL2 : Hid (r2 = candTo (ptopB (pairF xs) n) n) := by rw [Hid, ← HR2.out, ptopF, HV.out]; rfl
      go_wp2
      go_loopw [8] (fun iv wr => ∃ i : Nat, i ≤ r.length ∧ iv = .int .i64 (i : Int) ∧ Dr w5 wr) (fun iv _ => r.length - (intOf iv).toNat)
      case atStart => exact ⟨0, Nat.zero_le _, rfl, Dr.refl _⟩
      case round =>
        obtain ⟨i, hi, rfl, hbi⟩ := hrel
        by_cases hlt : i < r.length
        · skip
          obtain ⟨x, hx, hbx, hxe⟩ : ∃ x, x < n ∧ pbestB (pairF xs) n x = true ∧ r[i]?.getD 0 = (x : Int) := by rw [HL.out] at hlt ⊢; exact cand_at hlt
          have HHX : Hid (hasB r2 (x : Int) = true) := by rw [Hid, HL2.out, cand_hasB hx]; exact (ptopB_iff _ _ _).2 (best_top HLOW.out hx ((pbestB_iff _ _ _).1 hbx))
          obtain ⟨bL, oL, haL, hbL, hcL⟩ := (L1.out.dr hbi).get (by omega)
          subst haL
          have ki := hcL i hlt
          rw [hxe] at ki
          have hii : (i : Int) < (r.length : Int) := by omega
          clear hcL
          go_wp2_with fail
          refine (hasInt_as8 _ _ _ r2 _ true _ (L3.out.dr hbi) HHX.out).mono ?_
          rintro e w9 ⟨rfl, rfl⟩
          go_wp2
          go_roundw
          case rel => exact ⟨i + 1, by omega, by go_num, hbi⟩
          case measure => simp [intOf]; omega
        · obtain rfl : i = r.length := by omega
          have hpos : decide ((0 : Int) < (r.length : Int)) = true := decide_eq_true (by omega)
          have hpos' : 0 < r.length := by omega
          go_wp2
          go_ret
          exact ⟨by first | rfl | exact ret_bool (by simpa using hpos'), B.out.trans (hbi.below _)⟩
  · clear w0
    go_enter Try.func11, Try.ntmps11
    go_wp2
    go_ret
    exact ⟨rfl, Below.refl _ _⟩

end Go.Proofs.Ytaaamidkfhabnaa.fnPairBest
