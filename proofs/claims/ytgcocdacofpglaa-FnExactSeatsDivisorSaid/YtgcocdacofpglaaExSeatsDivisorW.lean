/-
  laws.FnExactSeatsDivisor returns true for every arguments: impl.SeatsDivisor answers as spec.SeatsDivisor, leaves its arguments as they were, and what it returns is memory of its own. No condition.
-/
import Derived.Test.YtgcocdacofpglaaGrp1
import Derived.Test.YtgcocdacofpglaaSeatY
import Derived.Test.YtgcocdacofpglaaGrp13
namespace Go.Proofs.Ytgcocdacofpglaa.fnExactSeatsDivisor
open Go.RowKit
set_option linter.unusedVariables false

theorem divL_five (vs : List Int) (s m : Int) (lots : List Int) : (divL vs s m lots).length ≤ 5 := by
  unfold divL
  split
  · rename_i h
    rw [seatsL_length]
    exact ((voteB_iff vs).1 ((okD_iff _ _ _ _).1 h).1).1.2.2
  · simp
set_option maxRecDepth 100000 in
set_option maxHeartbeats 2000000 in
/-- The law's walk: it returns true, and writes nothing that was there. -/
theorem walk (a0 : Option Addr) (len0 cap0 : Nat) (z0 : List Int) (a1 : Int) (a2 : Int) (a3 : Option Addr) (len3 cap3 : Nat) (z3 : List Int) (w : World) (w0 : IsRow .i64 w a0 len0 cap0 z0) (w1 : (Lit.int .i64 a1).wf = true) (w2 : (Lit.int .i64 a2).wf = true) (w3 : IsRow .i64 w a3 len3 cap3 z3) :
    Calls Try.prog 8 #[.slice a0 len0 cap0, .int .i64 a1, .int .i64 a2, .slice a3 len3 cap3] w fun e w' => e = .returned (.bool true) ∧ Below w.heap.size w w' := by
  by_cases hl0 : len0 ≤ 1048576
  case neg =>
    have hl' : (1048576 : Int) < (len0 : Int) := by omega
    clear w0 w1 w2 w3
    go_enter Try.func8, Try.ntmps8
    go_wp2
    all_goals
      go_ret
      exact ⟨rfl, Below.refl _ _⟩
  by_cases hl3 : len3 ≤ 1048576
  case neg =>
    have hl' : (1048576 : Int) < (len3 : Int) := by omega
    clear w0 w1 w2 w3
    go_enter Try.func8, Try.ntmps8
    go_wp2
    all_goals
      go_ret
      exact ⟨rfl, Below.refl _ _⟩
  have HI0 := w0.ints hl0
  obtain ⟨vs, hvs⟩ : ∃ zs, z0.take len0 = zs := ⟨_, rfl⟩
  rw [hvs] at HI0
  have H0 := Lib.hid HI0
  have he0 : eqB vs vs = true := eqB_self vs
  have HI3 := w3.ints hl3
  obtain ⟨lots, hlots⟩ : ∃ zs, z3.take len3 = zs := ⟨_, rfl⟩
  rw [hlots] at HI3
  have H3 := Lib.hid HI3
  have he3 : eqB lots lots = true := eqB_self lots
  clear HI0 hvs HI3 hlots w0 w1 w2 w3
  have B : Hid (Below w.heap.size w w) := Below.refl _ _
  obtain ⟨pl, hpl⟩ : ∃ pl, divL vs a1 a2 lots = pl := ⟨_, rfl⟩
  obtain ⟨ok, hok⟩ : ∃ ok, okD vs a1 a2 lots = ok := ⟨_, rfl⟩
  have hp5 : pl.length ≤ 5 := by rw [← hpl]; exact divL_five _ _ _ _
  have HP := Lib.hid hpl
  have HK := Lib.hid hok
  clear hpl hok
  have he : eqB pl pl = true := eqB_self pl
  have hne : (ok != ok) = false := by cases ok <;> rfl
  have hnn : ¬ (1 + (pl.length : Int) < 0) := by omega
  have hnq : ((1 + (pl.length : Int)) != (1 + (pl.length : Int))) = false := by simp
  have hnl : ¬ (1 + (len0 : Int) + (len3 : Int) < 0) := by omega
  go_enter Try.func8, Try.ntmps8
  go_wp2_with fail
  refine (toIntS_any _ len0 _ vs _ H0.out).mono ?_
  rintro e w1x ⟨gS0, rfl, ho, hb⟩
  have H0 := Lib.hid (H0.out.below hb)
  have H3 := Lib.hid (H3.out.below hb)
  have S0 := Lib.hid (IsInts.of_owns ho (by omega))
  have B := Lib.hid (B.out.trans (hb.mono B.out.size))
  clear hb ho
  go_wp2_with fail
  refine (toIntS_any _ len3 _ lots _ H3.out).mono ?_
  rintro e w2x ⟨gS3, rfl, ho, hb⟩
  have H0 := Lib.hid (H0.out.below hb)
  have H3 := Lib.hid (H3.out.below hb)
  have S0 := Lib.hid (S0.out.below hb)
  have S3 := Lib.hid (IsInts.of_owns ho (by omega))
  have B := Lib.hid (B.out.trans (hb.mono B.out.size))
  clear hb ho
  go_wp2_with fail
  refine (specSeats_as _ len0 _ vs a1 a2 _ len3 _ lots pl ok _ S0.out S3.out HK.out HP.out).mono ?_
  rintro e w3x ⟨a2s, c2s, rfl, ho, hb⟩
  have H0 := Lib.hid (H0.out.below hb)
  have H3 := Lib.hid (H3.out.below hb)
  have S0 := Lib.hid (S0.out.below hb)
  have S3 := Lib.hid (S3.out.below hb)
  have I2 := Lib.hid (IsInts.of_owned ho (by omega))
  have B := Lib.hid (B.out.trans (hb.mono B.out.size))
  clear hb ho
  clear S0 S3
  have BW := B
  obtain ⟨GW, hGW⟩ : ∃ GW, w3x.heap.size = GW := ⟨_, rfl⟩
  have HGW := Lib.hid hGW
  clear hGW
  have C : Hid (Below w3x.heap.size w3x w3x) := Below.refl _ _
  go_wp2_with fail
  refine (toIntS_any _ len0 _ vs _ (H0.out.below C.out)).mono ?_
  rintro e w4x ⟨gx0, rfl, ho, hb⟩
  have X0 := Lib.hid (ho)
  have C := Lib.hid (C.out.trans (hb.mono C.out.size))
  clear hb
  have g0l := (ho.lt gx0 rfl).2
  have g0g := (ho.lt gx0 rfl).1
  clear ho
  go_wp2_with fail
  refine (toIntS_any _ len3 _ lots _ (H3.out.below C.out)).mono ?_
  rintro e w5x ⟨gx3, rfl, ho, hb⟩
  have X0 := Lib.hid (owns_under X0.out hb)
  have X3 := Lib.hid (ho)
  have C := Lib.hid (C.out.trans (hb.mono C.out.size))
  clear hb
  have g3l := (ho.lt gx3 rfl).2
  have g3g := (ho.lt gx3 rfl).1
  clear ho
  go_wp2_with fail
  refine (implSeats_as _ len0 _ vs a1 a2 _ len3 _ lots pl ok _ (IsInts.of_owns X0.out (by omega)) (IsInts.of_owns X3.out (by omega)) HK.out HP.out).mono ?_
  rintro e w6x ⟨a4, c4, rfl, ho, hb⟩
  have X0 := Lib.hid (owns_under X0.out hb)
  have X3 := Lib.hid (owns_under X3.out hb)
  have O4 := Lib.hid (ho)
  have C := Lib.hid (C.out.trans (hb.mono C.out.size))
  clear hb ho
  go_wp2_with fail
  refine (eqIntS_any _ _ _ pl _ _ _ pl _ (IsInts.of_owned O4.out (by omega)) (I2.out.below C.out)).mono ?_
  rintro e w7x ⟨rfl, hd⟩
  have hb := hd.below w6x.heap.size
  have X0 := Lib.hid (owns_under X0.out hb)
  have X3 := Lib.hid (owns_under X3.out hb)
  have O4 := Lib.hid (owns_under O4.out hb)
  have C := Lib.hid (C.out.trans (hb.mono C.out.size))
  clear hb hd
  go_wp2_with fail
  refine (toIntS_any _ len0 _ vs _ (H0.out.below C.out)).mono ?_
  rintro e w8x ⟨gy0, rfl, ho, hb⟩
  have X0 := Lib.hid (owns_under X0.out hb)
  have X3 := Lib.hid (owns_under X3.out hb)
  have O4 := Lib.hid (owns_under O4.out hb)
  have Y0 := Lib.hid (IsInts.of_owns ho (by omega))
  have C := Lib.hid (C.out.trans (hb.mono C.out.size))
  clear hb ho
  go_wp2_with fail
  refine (eqIntS_any _ _ _ vs _ _ _ vs _ (IsInts.of_owns X0.out (by omega)) Y0.out).mono ?_
  rintro e w9x ⟨rfl, hd⟩
  have hb := hd.below w8x.heap.size
  have X0 := Lib.hid (owns_under X0.out hb)
  have X3 := Lib.hid (owns_under X3.out hb)
  have O4 := Lib.hid (owns_under O4.out hb)
  have C := Lib.hid (C.out.trans (hb.mono C.out.size))
  clear hb hd
  clear Y0
  go_wp2_with fail
  refine (toIntS_any _ len3 _ lots _ (H3.out.below C.out)).mono ?_
  rintro e w10x ⟨gy3, rfl, ho, hb⟩
  have X0 := Lib.hid (owns_under X0.out hb)
  have X3 := Lib.hid (owns_under X3.out hb)
  have O4 := Lib.hid (owns_under O4.out hb)
  have Y3 := Lib.hid (IsInts.of_owns ho (by omega))
  have C := Lib.hid (C.out.trans (hb.mono C.out.size))
  clear hb ho
  go_wp2_with fail
  refine (eqIntS_any _ _ _ lots _ _ _ lots _ (IsInts.of_owns X3.out (by omega)) Y3.out).mono ?_
  rintro e w11x ⟨rfl, hd⟩
  have hb := hd.below w10x.heap.size
  have X0 := Lib.hid (owns_under X0.out hb)
  have X3 := Lib.hid (owns_under X3.out hb)
  have O4 := Lib.hid (owns_under O4.out hb)
  have C := Lib.hid (C.out.trans (hb.mono C.out.size))
  clear hb hd
  clear Y3
  go_wp2_with fail
  refine (markInt_step _ gx0 len0 _ _ 1 _ X0.out (by omega) (by omega) (by omega)).mono ?_
  rintro e w12x ⟨rfl, ho8, hs⟩
  have X3 := Lib.hid (owns_step X3.out hs (show gx0 < w4x.heap.size from g0l))
  have O4 := Lib.hid (owns_step O4.out hs (show gx0 < w5x.heap.size by omega))
  have C := Lib.hid (C.out.trans (hs.below g0g C.out.size))
  clear hs ho8
  go_wp2_with fail
  refine (markInt_step _ gx3 len3 _ _ (1 + (len0 : Int)) _ X3.out (by omega) (by omega) (by omega)).mono ?_
  rintro e w13x ⟨rfl, ho8, hs⟩
  have O4 := Lib.hid (owns_step O4.out hs g3l)
  have C := Lib.hid (C.out.trans (hs.below (show w3x.heap.size ≤ gx3 by omega) C.out.size))
  clear hs ho8
  go_wp2_with fail
  refine (eqIntS_any _ _ _ pl _ _ _ pl _ (IsInts.of_owned O4.out (by omega)) (I2.out.below C.out)).mono ?_
  rintro e w14x ⟨rfl, hd⟩
  have hb := hd.below w13x.heap.size
  have O4 := Lib.hid (owns_under O4.out hb)
  have C := Lib.hid (C.out.trans (hb.mono C.out.size))
  clear hb hd
  go_wp2_with fail
  refine (markInt_any w5x.heap.size _ _ _ _ 1 _ O4.out (by omega) (by omega) (by omega)).mono ?_
  rintro e w15x ⟨rfl, ho, hb⟩
  have O4 := Lib.hid ho
  have C := Lib.hid (C.out.trans (hb.mono (by omega)))
  clear ho hb
  go_wp2_with fail
  refine (heldInt_any _ _ _ 1 _ (IsInts.of_owned O4.out (by omega)) (by omega) (by omega)).mono ?_
  rintro e w16x ⟨rfl, rfl⟩
  go_wp2_with fail
  refine (toIntS_any _ len0 _ vs _ (H0.out.below C.out)).mono ?_
  rintro e w16x ⟨gz0, rfl, ho, hb⟩
  have O4 := Lib.hid (owns_under O4.out hb)
  have Z0 := Lib.hid (IsInts.of_owns ho (by omega))
  have C := Lib.hid (C.out.trans (hb.mono C.out.size))
  clear hb ho
  go_wp2_with fail
  refine (toIntS_any _ len3 _ lots _ (H3.out.below C.out)).mono ?_
  rintro e w17x ⟨gz3, rfl, ho, hb⟩
  have O4 := Lib.hid (owns_under O4.out hb)
  have Z3 := Lib.hid (IsInts.of_owns ho (by omega))
  have Z0 := Lib.hid (Z0.out.below hb)
  have C := Lib.hid (C.out.trans (hb.mono C.out.size))
  clear hb ho
  go_wp2_with fail
  refine (implSeats_as _ len0 _ vs a1 a2 _ len3 _ lots pl ok _ Z0.out Z3.out HK.out HP.out).mono ?_
  rintro e w18x ⟨a13, c13, rfl, ho, hb⟩
  have O4 := Lib.hid (owns_under O4.out hb)
  have I13 := Lib.hid (IsInts.of_owned ho (by omega))
  have C := Lib.hid (C.out.trans (hb.mono C.out.size))
  clear hb ho Z0 Z3
  go_wp2_with fail
  refine (eqIntS_any _ _ _ pl _ _ _ pl _ I13.out (I2.out.below C.out)).mono ?_
  rintro e w19x ⟨rfl, hd⟩
  have hb := hd.below w18x.heap.size
  have O4 := Lib.hid (owns_under O4.out hb)
  have C := Lib.hid (C.out.trans (hb.mono C.out.size))
  clear hb hd I13
  go_wp2_with fail
  refine (heldInt_any _ _ _ 1 _ (IsInts.of_owned O4.out (by omega)) (by omega) (by omega)).mono ?_
  rintro e w20x ⟨rfl, rfl⟩
  go_wp2
  go_ret
  exact ⟨rfl, BW.out.trans (C.out.mono BW.out.size)⟩

end Go.Proofs.Ytgcocdacofpglaa.fnExactSeatsDivisor
