/-
  laws.FnExactTransferCheck returns true for every argument: impl.TransferCheck answers as spec.TransferCheck and writes into no argument. No condition.
-/
import Derived.Test.YtafnmongglhlaaaGrp1
import Derived.Test.YtafnmongglhlaaaGrpC
import Derived.Test.YtafnmongglhlaaaGrpD
import Derived.Test.YtafnmongglhlaaaGrpR
import Derived.Test.YtafnmongglhlaaaGrpP
import Derived.Test.YtafnmongglhlaaaGrpK
import Derived.Test.YtafnmongglhlaaaGrpM
namespace Go.Proofs.Ytafnmongglhlaaa.fnExactTransferCheck
open Go.RowKit
set_option linter.unusedVariables false


set_option maxRecDepth 100000 in
set_option maxHeartbeats 2000000 in
/-- The law's walk: it returns true, and writes nothing that was there. -/
theorem walk (a0 : Option Addr) (len0 cap0 : Nat) (z0 : List Pl) (a1 : Option Addr) (len1 cap1 : Nat) (z1 : List Int) (a2 : Int) (a3 : Option Addr) (len3 cap3 : Nat) (z3 : List GSt) (w : World) (w0 : IsPRow w a0 len0 cap0 z0) (w1 : IsRow .i64 w a1 len1 cap1 z1) (w2 : (Lit.int .i64 a2).wf = true) (w3 : IsSRow w a3 len3 cap3 z3) :
    Calls Try.prog 10 #[.slice a0 len0 cap0, .slice a1 len1 cap1, .int .i64 a2, .slice a3 len3 cap3] w fun e w' => e = .returned (.bool true) ∧ Below w.heap.size w w' := by
  by_cases hlong1 : 1048576 < len1
  · have hd : decide ((1048576 : Int) < (len1 : Int)) = true := decide_eq_true (by omega)
    go_enter Try.func10, Try.ntmps10
    go_wp2
    go_ret
    exact ⟨rfl, Below.refl _ _⟩
  have hd1 : decide ((1048576 : Int) < (len1 : Int)) = false := decide_eq_false (by omega)
  by_cases hall : len0 ≤ 1048576
  · skip
    have HI0 := Lib.hid (w0.piles hall)
    have HH0 := Lib.hid w0.2.1
    have HI1 := Lib.hid (w1.ints (by omega))
    obtain ⟨zt, hzt⟩ : ∃ zt, z1.take len1 = zt := ⟨_, rfl⟩
    rw [hzt] at HI1
    have H3M := Lib.hid w3.2.1
    have HW3 := Lib.hid w3
    clear w0 w1 w2 w3 hzt
    go_enter Try.func10, Try.ntmps10
    go_wp2_with fail
    refine (szPileS_any _ _ _ z0 1048576 _ HI0.out HH0.out (by omega)).mono ?_
    rintro e w1 ⟨s0, rfl, hsz0, hs10, hb⟩
    have B := Lib.hid hb
    have B1 := Lib.hid hb
    have HI0 := Lib.hid (HI0.out.below hb)
    have HI1 := Lib.hid (HI1.out.below hb)
    clear hb
    by_cases hneg0 : s0 < 0
    · have hd : decide (s0 < 0) = true := decide_eq_true hneg0
      go_wp2
      go_ret
      exact ⟨rfl, B.out⟩
    have hd0 : decide (s0 < 0) = false := decide_eq_false hneg0
    have HS0 := Lib.hid (hsz0 (by omega)).2
    have hs20 := (hsz0 (by omega)).1
    clear hsz0
    by_cases h3 : 1048576 < len3
    · go_wp2_with fail
      refine (szStepS_long _ _ _ s0 _ h3 H3M.out (by omega)).mono ?_
      rintro e w2 ⟨rfl, rfl⟩
      go_wp2
      go_ret
      exact ⟨rfl, B.out⟩
    have HR := Lib.hid ((HW3.out.r (by omega)).below B1.out)
    clear HW3 B1
    go_wp2_with fail
    refine (szStepS_any _ _ _ z3 s0 _ HR.out (by omega)).mono ?_
    rintro e w2 ⟨s3, rfl, hsz3, hs13, hb⟩
    have HI0 := Lib.hid (HI0.out.below hb)
    have HI1 := Lib.hid (HI1.out.below hb)
    have HR := Lib.hid (HR.out.below hb)
    have B := Lib.hid (B.out.trans (hb.mono B.out.size))
    clear hb
    by_cases hneg3 : s3 < 0
    · have hd : decide (s3 < 0) = true := decide_eq_true hneg3
      go_wp2
      go_ret
      exact ⟨rfl, B.out⟩
    have hd3 : decide (s3 < 0) = false := decide_eq_false hneg3
    have H5 := Lib.hid (hsz3 (by omega)).2
    clear hsz3
    have HG := Lib.hid (HR.out.g H5.out)
    clear HR
    obtain ⟨v, hv⟩ : ∃ v, chkT z0 zt a2 z3 = v := ⟨_, rfl⟩
    have HV := Lib.hid hv
    clear hv
    have hne : (v != v) = false := by cases v <;> rfl
    have he0 : eqP z0 z0 = true := eqP_self z0
    go_wp2_with fail
    refine (toPileS_any _ len0 _ z0 _ HI0.out).mono ?_
    rintro e w3 ⟨ga, rfl, ho, hb⟩
    have HI0 := Lib.hid (HI0.out.below hb)
    have HI1 := Lib.hid (HI1.out.below hb)
    have HG := Lib.hid (HG.out.below hb)
    have Pa := Lib.hid (IsPiles.of_owned ho (by omega))
    have B := Lib.hid (B.out.trans (hb.mono B.out.size))
    clear hb ho
    go_wp2_with fail
    refine (toIntS_any _ len1 _ zt _ HI1.out).mono ?_
    rintro e w4 ⟨gb, rfl, ho, hb⟩
    have HI0 := Lib.hid (HI0.out.below hb)
    have HI1 := Lib.hid (HI1.out.below hb)
    have HG := Lib.hid (HG.out.below hb)
    have Pa := Lib.hid (Pa.out.below hb)
    have Jb := Lib.hid (IsInts.of_owned ho (by omega))
    have B := Lib.hid (B.out.trans (hb.mono B.out.size))
    clear hb ho
    go_wp2_with fail
    refine (toStepS_any _ len3 _ z3 _ HG.out H5.out).mono ?_
    rintro e w5 ⟨gc, rfl, ho, hb⟩
    have HI0 := Lib.hid (HI0.out.below hb)
    have HI1 := Lib.hid (HI1.out.below hb)
    have HG := Lib.hid (HG.out.below hb)
    have Pa := Lib.hid (Pa.out.below hb)
    have Jb := Lib.hid (Jb.out.below hb)
    have Yc := Lib.hid (ho)
    have B := Lib.hid (B.out.trans (hb.mono B.out.size))
    clear hb ho
    go_wp2_with fail
    refine (specCheckT_as _ len0 _ z0 _ len1 _ zt a2 _ len3 _ z3 v _ Pa.out HS0.out Jb.out Yc.out HV.out).mono ?_
    rintro e w6 ⟨rfl, hb⟩
    have HI0 := Lib.hid (HI0.out.below hb)
    have HI1 := Lib.hid (HI1.out.below hb)
    have HG := Lib.hid (HG.out.below hb)
    have Pa := Lib.hid (Pa.out.below hb)
    have Jb := Lib.hid (Jb.out.below hb)
    have Yc := Lib.hid (Yc.out.below hb)
    have B := Lib.hid (B.out.trans (hb.mono B.out.size))
    clear hb
    clear Pa Jb Yc
    go_wp2_with fail
    refine (toPileS_any _ len0 _ z0 _ HI0.out).mono ?_
    rintro e w7 ⟨gx, rfl, ho, hb⟩
    have HI0 := Lib.hid (HI0.out.below hb)
    have HI1 := Lib.hid (HI1.out.below hb)
    have HG := Lib.hid (HG.out.below hb)
    have Px := Lib.hid (IsPiles.of_owned ho (by omega))
    have B := Lib.hid (B.out.trans (hb.mono B.out.size))
    clear hb ho
    go_wp2_with fail
    refine (toIntS_any _ len1 _ zt _ HI1.out).mono ?_
    rintro e w8 ⟨gy, rfl, ho, hb⟩
    have HI0 := Lib.hid (HI0.out.below hb)
    have HI1 := Lib.hid (HI1.out.below hb)
    have HG := Lib.hid (HG.out.below hb)
    have Px := Lib.hid (Px.out.below hb)
    have Jy := Lib.hid (IsInts.of_owned ho (by omega))
    have B := Lib.hid (B.out.trans (hb.mono B.out.size))
    clear hb ho
    go_wp2_with fail
    refine (toStepS_any _ len3 _ z3 _ HG.out H5.out).mono ?_
    rintro e w9 ⟨gz, rfl, ho, hb⟩
    have HI0 := Lib.hid (HI0.out.below hb)
    have HI1 := Lib.hid (HI1.out.below hb)
    have HG := Lib.hid (HG.out.below hb)
    have Px := Lib.hid (Px.out.below hb)
    have Jy := Lib.hid (Jy.out.below hb)
    have Yz := Lib.hid (ho)
    have B := Lib.hid (B.out.trans (hb.mono B.out.size))
    clear hb ho
    go_wp2_with fail
    refine (implCheckT_as _ len0 _ z0 _ len1 _ zt a2 _ len3 _ z3 v _ Px.out HS0.out Jy.out Yz.out HV.out).mono ?_
    rintro e w10 ⟨rfl, hb⟩
    have HI0 := Lib.hid (HI0.out.below hb)
    have HI1 := Lib.hid (HI1.out.below hb)
    have HG := Lib.hid (HG.out.below hb)
    have Px := Lib.hid (Px.out.below hb)
    have Jy := Lib.hid (Jy.out.below hb)
    have Yz := Lib.hid (Yz.out.below hb)
    have B := Lib.hid (B.out.trans (hb.mono B.out.size))
    clear hb
    go_wp2_with fail
    refine (toPileS_any _ len0 _ z0 _ HI0.out).mono ?_
    rintro e w11 ⟨gp, rfl, ho, hb⟩
    have HI0 := Lib.hid (HI0.out.below hb)
    have HI1 := Lib.hid (HI1.out.below hb)
    have HG := Lib.hid (HG.out.below hb)
    have Px := Lib.hid (Px.out.below hb)
    have Jy := Lib.hid (Jy.out.below hb)
    have Yz := Lib.hid (Yz.out.below hb)
    have Pp := Lib.hid (IsPiles.of_owned ho (by omega))
    have B := Lib.hid (B.out.trans (hb.mono B.out.size))
    clear hb ho
    go_wp2_with fail
    refine (eqPileS_as _ len0 _ z0 _ len0 _ z0 true _ Px.out Pp.out he0).mono ?_
    rintro e w12 ⟨rfl, hb⟩
    have HI0 := Lib.hid (HI0.out.below hb)
    have HI1 := Lib.hid (HI1.out.below hb)
    have HG := Lib.hid (HG.out.below hb)
    have Px := Lib.hid (Px.out.below hb)
    have Jy := Lib.hid (Jy.out.below hb)
    have Yz := Lib.hid (Yz.out.below hb)
    have Pp := Lib.hid (Pp.out.below hb)
    have B := Lib.hid (B.out.trans (hb.mono B.out.size))
    clear hb
    go_wp2_with fail
    refine (toIntS_any _ len1 _ zt _ HI1.out).mono ?_
    rintro e w13 ⟨gq, rfl, ho, hb⟩
    have HI0 := Lib.hid (HI0.out.below hb)
    have HI1 := Lib.hid (HI1.out.below hb)
    have HG := Lib.hid (HG.out.below hb)
    have Px := Lib.hid (Px.out.below hb)
    have Jy := Lib.hid (Jy.out.below hb)
    have Yz := Lib.hid (Yz.out.below hb)
    have Pp := Lib.hid (Pp.out.below hb)
    have Jq := Lib.hid (IsInts.of_owned ho (by omega))
    have B := Lib.hid (B.out.trans (hb.mono B.out.size))
    clear hb ho
    go_wp2_with fail
    refine (eqIntS_self _ _ _ zt _ _ _ Jy.out Jq.out).mono ?_
    rintro e w14 ⟨rfl, hd⟩
    have hb := hd.below w13.heap.size
    have HI0 := Lib.hid (HI0.out.below hb)
    have HI1 := Lib.hid (HI1.out.below hb)
    have HG := Lib.hid (HG.out.below hb)
    have Px := Lib.hid (Px.out.below hb)
    have Jy := Lib.hid (Jy.out.below hb)
    have Yz := Lib.hid (Yz.out.below hb)
    have Pp := Lib.hid (Pp.out.below hb)
    have Jq := Lib.hid (Jq.out.below hb)
    have B := Lib.hid (B.out.trans (hb.mono B.out.size))
    clear hb hd
    go_wp2_with fail
    refine (toStepS_any _ len3 _ z3 _ HG.out H5.out).mono ?_
    rintro e w15 ⟨gr, rfl, ho, hb⟩
    have HI0 := Lib.hid (HI0.out.below hb)
    have HI1 := Lib.hid (HI1.out.below hb)
    have HG := Lib.hid (HG.out.below hb)
    have Px := Lib.hid (Px.out.below hb)
    have Jy := Lib.hid (Jy.out.below hb)
    have Yz := Lib.hid (Yz.out.below hb)
    have Pp := Lib.hid (Pp.out.below hb)
    have Jq := Lib.hid (Jq.out.below hb)
    have Yr := Lib.hid (ho)
    have B := Lib.hid (B.out.trans (hb.mono B.out.size))
    clear hb ho
    go_wp2_with fail
    refine (eqStepG_self _ _ _ z3 _ _ _ Yz.out Yr.out).mono ?_
    rintro e w16 ⟨rfl, hb⟩
    have HI0 := Lib.hid (HI0.out.below hb)
    have HI1 := Lib.hid (HI1.out.below hb)
    have HG := Lib.hid (HG.out.below hb)
    have Px := Lib.hid (Px.out.below hb)
    have Jy := Lib.hid (Jy.out.below hb)
    have Yz := Lib.hid (Yz.out.below hb)
    have Pp := Lib.hid (Pp.out.below hb)
    have Jq := Lib.hid (Jq.out.below hb)
    have Yr := Lib.hid (Yr.out.below hb)
    have B := Lib.hid (B.out.trans (hb.mono B.out.size))
    clear hb
    go_wp2
    go_ret
    exact ⟨rfl, B.out⟩
  · have hlong : 1048576 < len0 := by omega
    have hmx := w0.2.2.1
    go_enter Try.func10, Try.ntmps10
    go_wp2_with fail
    refine (szPileS_long _ _ _ 1048576 _ hlong hmx (by omega)).mono ?_
    rintro e w1 ⟨rfl, rfl⟩
    go_wp2
    go_ret
    exact ⟨rfl, Below.refl _ _⟩

end Go.Proofs.Ytafnmongglhlaaa.fnExactTransferCheck
