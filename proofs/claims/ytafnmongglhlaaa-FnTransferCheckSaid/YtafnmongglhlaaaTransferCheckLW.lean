/-
  laws.FnTransferCheck returns true for every code. No condition.
-/
import Derived.Test.YtafnmongglhlaaaGrp1
import Derived.Test.YtafnmongglhlaaaGrpO
import Derived.Test.YtafnmongglhlaaaGrpK
import Derived.Test.YtafnmongglhlaaaGrpM
import Derived.Test.YtafnmongglhlaaaGrp25
namespace Go.Proofs.Ytafnmongglhlaaa.fnTransferCheck
open Go.RowKit
set_option linter.unusedVariables false


set_option maxRecDepth 100000 in
set_option maxHeartbeats 2000000 in
/-- The law's walk: it returns true, and writes nothing that was there. -/
theorem walk (a0 : Option Addr) (len0 cap0 : Nat) (z0 : List Int) (w : World) (w0 : IsRow .u8 w a0 len0 cap0 z0) :
    Calls Try.prog 9 #[.slice a0 len0 cap0] w fun e w' => e = .returned (.bool true) ∧ Below w.heap.size w w' := by
  by_cases hl : len0 ≤ 1048576
  · skip
    have hcap := w0.cap
    have HB := Lib.hid w0.bytes; clear w0
    go_enter Try.func9, Try.ntmps9
    go_wp2_with fail
    refine (drawTfCheck_any a0 len0 cap0 _ _ HB.out hcap (by omega)).mono ?_
    rintro e w1 ⟨xs, g, c, lots, al, cl, s, b, lb, cb, ys, rfl, hp, hpv, hol, hl5, hs4, hy, hb⟩
    have B := Lib.hid hb
    have P := Lib.hid hp
    have HSM := Lib.hid hp.2.1
    have Y := Lib.hid hy
    obtain ⟨n, hn⟩ : ∃ n, lots.length = n := ⟨_, rfl⟩
    rw [hn] at hol hl5 ⊢
    have J := Lib.hid (IsInts.of_owned hol (by omega))
    clear hb HB hp hol hn hpv hy
    obtain ⟨v, hv⟩ : ∃ v, chkT xs lots (s : Int) ys = v := ⟨_, rfl⟩
    obtain ⟨tv, htv⟩ : ∃ tv, transB xs lots (s : Int) = tv := ⟨_, rfl⟩
    obtain ⟨l, hL⟩ : ∃ l, tfAll xs lots (s : Int) = l := ⟨_, rfl⟩
    have hl5' : l.length ≤ 5 := by rw [← hL]; exact tfAll_short _ _ _
    have HV := Lib.hid hv
    have HL := Lib.hid hL
    have HT := Lib.hid htv
    clear hv hL htv
    have hne : (v != v) = false := by cases v <;> rfl
    have heq : (v == v) = true := by cases v <;> rfl
    go_wp2_with fail
    refine (implCheckT_as _ _ _ xs _ n cl lots (s : Int) _ lb cb ys v _ P.out.piles HSM.out J.out Y.out HV.out).mono ?_
    rintro e w2 ⟨rfl, hb⟩
    have P := Lib.hid (P.out.below hb)
    have J := Lib.hid (J.out.below hb)
    have Y := Lib.hid (Y.out.below hb)
    have B := Lib.hid (B.out.trans (hb.mono B.out.size))
    clear hb
    go_wp2_with fail
    refine (specCheckT_as _ _ _ xs _ n cl lots (s : Int) _ lb cb ys v _ P.out.piles HSM.out J.out Y.out HV.out).mono ?_
    rintro e w3 ⟨rfl, hb⟩
    have P := Lib.hid (P.out.below hb)
    have J := Lib.hid (J.out.below hb)
    have Y := Lib.hid (Y.out.below hb)
    have B := Lib.hid (B.out.trans (hb.mono B.out.size))
    clear hb
    go_wp2_with fail
    refine (implSteps_as _ _ _ xs _ n cl lots (s : Int) l tv _ P.out.piles HSM.out J.out HT.out HL.out).mono ?_
    rintro e w4 ⟨a1, c1, gs1, rfl, ho, hb⟩
    have P := Lib.hid (P.out.below hb)
    have J := Lib.hid (J.out.below hb)
    have Y := Lib.hid (Y.out.below hb)
    have I1 := Lib.hid ((ho.is (by omega) (by omega)).g)
    have B := Lib.hid (B.out.trans (hb.mono B.out.size))
    clear hb ho
    cases tv
    · obtain rfl : false = v := by rw [← HV.out, chkT, HT.out]; rfl
      go_wp2
      go_ret
      exact ⟨rfl, B.out⟩
    · have HD : Hid (decide (l.map toG = ys) = v) := by rw [Hid, ← HV.out, chkT, HT.out, HL.out]; rfl
      go_wp2_with fail
      refine (sameSteps_as _ _ _ (l.map toG) _ lb cb ys v _ I1.out Y.out HD.out).mono ?_
      rintro e w5 ⟨rfl, hb⟩
      have P := Lib.hid (P.out.below hb)
      have J := Lib.hid (J.out.below hb)
      have Y := Lib.hid (Y.out.below hb)
      have I1 := Lib.hid (I1.out.below hb)
      have B := Lib.hid (B.out.trans (hb.mono B.out.size))
      clear hb
      go_wp2
      go_ret
      exact ⟨rfl, B.out⟩
  · clear w0
    go_enter Try.func9, Try.ntmps9
    go_wp2
    go_ret
    exact ⟨rfl, Below.refl _ _⟩

end Go.Proofs.Ytafnmongglhlaaa.fnTransferCheck
