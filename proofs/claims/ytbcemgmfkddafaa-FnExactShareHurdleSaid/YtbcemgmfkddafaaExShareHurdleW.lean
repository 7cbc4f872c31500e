/-
  laws.FnExactShareHurdle returns true for every arguments: impl.ShareHurdle answers as spec.ShareHurdle, leaves its argument as it was, and what it returns is memory of its own. No condition.
-/
import Derived.Test.YtbcemgmfkddafaaGrp1
import Derived.Test.YtbcemgmfkddafaaMeasH
import Derived.Test.YtbcemgmfkddafaaGrp15
namespace Go.Proofs.Ytbcemgmfkddafaa.fnExactShareHurdle
open Go.RowKit
set_option linter.unusedVariables false


set_option maxRecDepth 100000 in
set_option maxHeartbeats 2000000 in
/-- The law's walk: it returns true, and writes nothing that was there. -/
theorem walk (a0 : Option Addr) (len0 cap0 : Nat) (z0 : List Int) (a1 : Int) (w : World) (w0 : IsRow .i64 w a0 len0 cap0 z0) (w1 : (Lit.int .i64 a1).wf = true) :
    Calls Try.prog 13 #[.slice a0 len0 cap0, .int .i64 a1] w fun e w' => e = .returned (.bool true) ∧ Below w.heap.size w w' := by
---
  by_cases hl0 : len0 ≤ 1048576
  case neg =>
    have hl' : (1048576 : Int) < (len0 : Int) := by omega
    clear w0 w1
    go_enter Try.func13, Try.ntmps13
    go_wp2
    all_goals
      go_ret
      exact ⟨rfl, Below.refl _ _⟩
  have HI0 := w0.ints hl0
  obtain ⟨vs, hvs⟩ : ∃ zs, z0.take len0 = zs := ⟨_, rfl⟩
  rw [hvs] at HI0
  have H0 := Lib.hid HI0
  have he0 : eqB vs vs = true := eqB_self vs
  clear HI0 hvs w0 w1
  have B : Hid (Below w.heap.size w w) := Below.refl _ _
  obtain ⟨pl, hpl⟩ : ∃ pl, hurR vs a1 = pl := ⟨_, rfl⟩
  obtain ⟨ok, hok⟩ : ∃ ok, okH vs a1 = ok := ⟨_, rfl⟩
  have hp5 : pl.length ≤ 5 := by rw [← hpl]; exact hurR_five _ _
  have HP := Lib.hid hpl
  have HK := Lib.hid hok
  clear hpl hok
  have he : eqB pl pl = true := eqB_self pl
  have hne : (ok != ok) = false := by cases ok <;> rfl
  have hnn : ¬ (1 + (pl.length : Int) < 0) := by omega
  have hnq : ((1 + (pl.length : Int)) != (1 + (pl.length : Int))) = false := by simp
  have hnl : ¬ (1 + (len0 : Int) < 0) := by omega
  go_enter Try.func13, Try.ntmps13
  go_wp2_with fail
  refine (toIntS_any _ len0 _ vs _ H0.out).mono ?_
  rintro e w1x ⟨gS0, rfl, ho, hb⟩
  have H0 := Lib.hid (H0.out.below hb)
  have S0 := Lib.hid (IsInts.of_owns ho (by omega))
  have B := Lib.hid (B.out.trans (hb.mono B.out.size))
  clear hb ho
  go_wp2_with fail
  refine (specHur_as _ len0 _ vs a1 pl ok _ S0.out HK.out HP.out).mono ?_
  rintro e w2x ⟨a2s, c2s, rfl, ho, hb⟩
  have H0 := Lib.hid (H0.out.below hb)
  have S0 := Lib.hid (S0.out.below hb)
  have I2 := Lib.hid (IsInts.of_owned ho (by omega))
  have B := Lib.hid (B.out.trans (hb.mono B.out.size))
  clear hb ho
  clear S0
  have BW := B
  obtain ⟨GW, hGW⟩ : ∃ GW, w2x.heap.size = GW := ⟨_, rfl⟩
  have HGW := Lib.hid hGW
  clear hGW
  have C : Hid (Below w2x.heap.size w2x w2x) := Below.refl _ _
  go_wp2_with fail
  refine (toIntS_any _ len0 _ vs _ (H0.out.below C.out)).mono ?_
  rintro e w3x ⟨gx0, rfl, ho, hb⟩
  have X0 := Lib.hid (ho)
  have C := Lib.hid (C.out.trans (hb.mono C.out.size))
  clear hb
  have g0l := (ho.lt gx0 rfl).2
  have g0g := (ho.lt gx0 rfl).1
  clear ho
  go_wp2_with fail
  refine (implHur_as _ len0 _ vs a1 pl ok _ (IsInts.of_owns X0.out (by omega)) HK.out HP.out).mono ?_
  rintro e w4x ⟨a4, c4, rfl, ho, hb⟩
  have X0 := Lib.hid (owns_under X0.out hb)
  have O4 := Lib.hid (ho)
  have C := Lib.hid (C.out.trans (hb.mono C.out.size))
  clear hb ho
  go_wp2_with fail
  refine (eqIntS_any _ _ _ pl _ _ _ pl _ (IsInts.of_owned O4.out (by omega)) (I2.out.below C.out)).mono ?_
  rintro e w5x ⟨rfl, hd⟩
  have hb := hd.below w4x.heap.size
  have X0 := Lib.hid (owns_under X0.out hb)
  have O4 := Lib.hid (owns_under O4.out hb)
  have C := Lib.hid (C.out.trans (hb.mono C.out.size))
  clear hb hd
  go_wp2_with fail
  refine (toIntS_any _ len0 _ vs _ (H0.out.below C.out)).mono ?_
  rintro e w6x ⟨gy0, rfl, ho, hb⟩
  have X0 := Lib.hid (owns_under X0.out hb)
  have O4 := Lib.hid (owns_under O4.out hb)
  have Y0 := Lib.hid (IsInts.of_owns ho (by omega))
  have C := Lib.hid (C.out.trans (hb.mono C.out.size))
  clear hb ho
  go_wp2_with fail
  refine (eqIntS_any _ _ _ vs _ _ _ vs _ (IsInts.of_owns X0.out (by omega)) Y0.out).mono ?_
  rintro e w7x ⟨rfl, hd⟩
  have hb := hd.below w6x.heap.size
  have X0 := Lib.hid (owns_under X0.out hb)
  have O4 := Lib.hid (owns_under O4.out hb)
  have C := Lib.hid (C.out.trans (hb.mono C.out.size))
  clear hb hd
  clear Y0
  go_wp2_with fail
  refine (markInt_step _ gx0 len0 _ _ 1 _ X0.out (by omega) (by omega) (by omega)).mono ?_
  rintro e w8x ⟨rfl, ho8, hs⟩
  have O4 := Lib.hid (owns_step O4.out hs (show gx0 < w3x.heap.size from g0l))
  have C := Lib.hid (C.out.trans (hs.below g0g C.out.size))
  clear hs ho8
  go_wp2_with fail
  refine (eqIntS_any _ _ _ pl _ _ _ pl _ (IsInts.of_owned O4.out (by omega)) (I2.out.below C.out)).mono ?_
  rintro e w9x ⟨rfl, hd⟩
  have hb := hd.below w8x.heap.size
  have O4 := Lib.hid (owns_under O4.out hb)
  have C := Lib.hid (C.out.trans (hb.mono C.out.size))
  clear hb hd
  go_wp2_with fail
  refine (markInt_any w3x.heap.size _ _ _ _ 1 _ O4.out (by omega) (by omega) (by omega)).mono ?_
  rintro e w10x ⟨rfl, ho, hb⟩
  have O4 := Lib.hid ho
  have C := Lib.hid (C.out.trans (hb.mono (by omega)))
  clear ho hb
  go_wp2_with fail
  refine (heldInt_any _ _ _ 1 _ (IsInts.of_owned O4.out (by omega)) (by omega) (by omega)).mono ?_
  rintro e w11x ⟨rfl, rfl⟩
  go_wp2_with fail
  refine (toIntS_any _ len0 _ vs _ (H0.out.below C.out)).mono ?_
  rintro e w11x ⟨gz0, rfl, ho, hb⟩
  have O4 := Lib.hid (owns_under O4.out hb)
  have Z0 := Lib.hid (IsInts.of_owns ho (by omega))
  have C := Lib.hid (C.out.trans (hb.mono C.out.size))
  clear hb ho
  go_wp2_with fail
  refine (implHur_as _ len0 _ vs a1 pl ok _ Z0.out HK.out HP.out).mono ?_
  rintro e w12x ⟨a13, c13, rfl, ho, hb⟩
  have O4 := Lib.hid (owns_under O4.out hb)
  have I13 := Lib.hid (IsInts.of_owned ho (by omega))
  have C := Lib.hid (C.out.trans (hb.mono C.out.size))
  clear hb ho Z0
  go_wp2_with fail
  refine (eqIntS_any _ _ _ pl _ _ _ pl _ I13.out (I2.out.below C.out)).mono ?_
  rintro e w13x ⟨rfl, hd⟩
  have hb := hd.below w12x.heap.size
  have O4 := Lib.hid (owns_under O4.out hb)
  have C := Lib.hid (C.out.trans (hb.mono C.out.size))
  clear hb hd I13
  go_wp2_with fail
  refine (heldInt_any _ _ _ 1 _ (IsInts.of_owned O4.out (by omega)) (by omega) (by omega)).mono ?_
  rintro e w14x ⟨rfl, rfl⟩
  go_wp2
  go_ret
  exact ⟨rfl, BW.out.trans (C.out.mono BW.out.size)⟩

end Go.Proofs.Ytbcemgmfkddafaa.fnExactShareHurdle
