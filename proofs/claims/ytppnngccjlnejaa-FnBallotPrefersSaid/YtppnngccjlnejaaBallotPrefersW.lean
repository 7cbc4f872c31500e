/-
  laws.FnBallotPrefers returns true for every code: a preference has one direction. No condition.
-/
import Derived.Test.YtppnngccjlnejaaOpen
import Derived.Test.YtppnngccjlnejaaPrefers
import Derived.Test.YtppnngccjlnejaaDrawP
namespace Go.Proofs.Ytppnngccjlnejaa.fnBallotPrefers
open Go.RowKit
set_option linter.unusedVariables false


/-- The law's walk: it returns true, and writes nothing that was there. -/
theorem walk (a0 : Option Addr) (len0 cap0 : Nat) (z0 : List Int) (w : World) (w0 : IsRow .u8 w a0 len0 cap0 z0) :
    Calls Try.prog 8 #[.slice a0 len0 cap0] w fun e w' => e = .returned (.bool true) ∧ Below w.heap.size w w' := by
  by_cases hl : len0 ≤ 1048576
  · have hcap := w0.cap
    have HB := Lib.hid w0.bytes; clear w0
    go_enter Try.func8, Try.ntmps8
    go_wp2_with fail
    refine (drawPrefers_any a0 len0 cap0 _ _ HB.out hcap (by omega)).mono ?_
    rintro e w1 ⟨zs, a1, c1, x, y, rfl, ho, hz, hb⟩
    have I1 := Lib.hid (IsInts.of_owned ho (by omega)); clear ho
    have B1 := Lib.hid hb; clear hb HB
    go_wp2_with fail
    refine (implPrefers_any _ _ _ zs x y _ I1.out).mono ?_
    rintro e w2 ⟨rfl, hb⟩
    have I2 := Lib.hid (I1.out.below hb)
    have B2 := Lib.hid (B1.out.trans (hb.mono B1.out.size)); clear hb I1 B1
    go_wp2_with fail
    refine (specPrefers_any _ _ _ zs x y _ I2.out).mono ?_
    rintro e w3 ⟨rfl, hd⟩
    have I3 := Lib.hid (I2.out.dr hd)
    have B3 := Lib.hid (B2.out.trans (hd.below _)); clear hd I2 B2
    cases hv : prefB zs x y
    · by_cases hxy : x = y
      · have hx : (x != y) = false := by simpa using hxy
        have HXY := Lib.hid hxy; clear hxy
        go_wp2
        go_ret
        exact ⟨rfl, B3.out⟩
      · have hx : (x != y) = true := by simpa using hxy
        have HXY := Lib.hid hxy; clear hxy
        go_wp2
        go_ret
        exact ⟨rfl, B3.out⟩
    · have hback := (prefB_anti hv).1
      have hx : (x != y) = true := by simpa using (prefB_anti hv).2
      go_wp2_with fail
      refine (implPrefers_any _ _ _ zs y x _ I3.out).mono ?_
      rintro e w4 ⟨rfl, hb⟩
      have B4 := Lib.hid (B3.out.trans (hb.mono B3.out.size)); clear hb
      go_wp2
      go_ret
      exact ⟨rfl, B4.out⟩
  · have hl' : (1048576 : Int) < (len0 : Int) := by omega
    clear w0
    go_enter Try.func8, Try.ntmps8
    go_wp2
    go_ret
    exact ⟨rfl, Below.refl _ _⟩

end Go.Proofs.Ytppnngccjlnejaa.fnBallotPrefers
