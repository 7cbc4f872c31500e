/-
  laws.FnBallotPrefersAll returns true for every code: of a valid ballot, whoever is named is preferred to all behind. No condition.
-/
import Derived.Test.YtppnngccjlnejaaOpen
import Derived.Test.YtppnngccjlnejaaBefore
import Derived.Test.YtppnngccjlnejaaDrawC
import Derived.Test.YtppnngccjlnejaaText
namespace Go.Proofs.Ytppnngccjlnejaa.fnBallotPrefersAll
open Go.RowKit
set_option linter.unusedVariables false


/-- The law's walk: it returns true, and writes nothing that was there. -/
theorem walk (a0 : Option Addr) (len0 cap0 : Nat) (z0 : List Int) (w : World) (w0 : IsRow .u8 w a0 len0 cap0 z0) :
    Calls Try.prog 9 #[.slice a0 len0 cap0] w fun e w' => e = .returned (.bool true) ∧ Below w.heap.size w w' := by
  by_cases hl : len0 ≤ 1048576
  · have hcap := w0.cap
    have HB := Lib.hid w0.bytes; clear w0
    go_enter Try.func9, Try.ntmps9
    go_wp2_with fail
    refine (drawText_any a0 len0 cap0 _ _ HB.out hcap (by omega)).mono ?_
    rintro e w1 ⟨zs, a1, c1, rfl, ho, hz, hb⟩
    have I1 := Lib.hid (IsInts.of_owned ho (by omega)); clear ho
    have B1 := Lib.hid hb; clear hb HB
    have heq : ((txtB zs).toList == (txtB zs).toList) = true := by simp
    go_wp2_with fail
    refine (implText_any _ _ _ zs _ I1.out).mono ?_
    rintro e w2 ⟨rfl, hb⟩
    have I2 := Lib.hid (I1.out.below hb)
    have B2 := Lib.hid (B1.out.trans (hb.mono B1.out.size)); clear hb I1 B1
    go_wp2_with fail
    refine (specText_any _ _ _ zs _ I2.out).mono ?_
    rintro e w3 ⟨rfl, hd⟩
    have I3 := Lib.hid (I2.out.dr hd)
    have B3 := Lib.hid (B2.out.trans (hd.below _)); clear hd I2 B2
    cases hv : validB zs 5
    · have HV := Lib.hid hv
      go_wp2_with fail
      refine (specValid_any _ _ _ zs _ _ I3.out).mono ?_
      rintro e w4 ⟨he, hd⟩
      rw [hv] at he
      subst he
      have I4 := Lib.hid (I3.out.dr hd)
      have B4 := Lib.hid (B3.out.trans (hd.below _)); clear hd I3 B3
      go_wp2
      go_ret
      exact ⟨rfl, B4.out⟩
    · have HV := Lib.hid hv
      go_wp2_with fail
      refine (specValid_any _ _ _ zs _ _ I3.out).mono ?_
      rintro e w4 ⟨he, hd⟩
      rw [hv] at he
      subst he
      have I4 := Lib.hid (I3.out.dr hd)
      have B4 := Lib.hid (B3.out.trans (hd.below _)); clear hd I3 B3
      go_wp2
      go_loopw [6] (fun i wr => ∃ X : Nat, X ≤ 5 ∧ i = .int .i64 X ∧ Hid (IsInts wr a1 zs.length c1 zs) ∧ Hid (Below w.heap.size w wr)) (fun i _ => 5 - (intOf i).toNat)
      case atStart => exact ⟨0, by omega, rfl, I4, B4⟩
      case round =>
        obtain ⟨X, hX, rfl, hI, hB⟩ := hrel
        obtain ⟨wo, rfl⟩ : ∃ wo : World, wo = wr := ⟨_, rfl⟩
        by_cases hlt : X < 5
        · have hX5 : decide ((X : Int) < 5) = true := by simp; omega
          go_wp2
          go_loopw [7] (fun i wr => ∃ Y : Nat, Y ≤ 5 ∧ i = .int .i64 Y ∧ Hid (IsInts wr a1 zs.length c1 zs) ∧ Hid (Below w.heap.size w wr)) (fun i _ => 5 - (intOf i).toNat)
          case atStart => exact ⟨0, by omega, rfl, hI, hB⟩
          case round =>
            obtain ⟨Y, hY, rfl, hI, hB⟩ := hrel
            by_cases hlt2 : Y < 5
            · go_wp2_with fail
              refine (implPrefers_any _ _ _ zs (X : Int) (Y : Int) _ hI.out).mono ?_
              rintro e w5 ⟨rfl, hb⟩
              have I5 := Lib.hid (hI.out.below hb)
              have B5 := Lib.hid (hB.out.trans (hb.mono hB.out.size)); clear hb
              by_cases hxy : X = Y
              · have hp : prefB zs (X : Int) (Y : Int) = false := by rw [hxy]; simp [prefB]
                have hne : ((X : Int) != (Y : Int)) = false := by rw [hxy]; simp
                have HXY := Lib.hid hxy; clear hxy
                go_wp2
                go_roundw
                case rel => exact ⟨Y + 1, by omega, by go_num, I5, B5⟩
                case measure => simp [intOf]; omega
              · have hxy' : (X : Int) ≠ (Y : Int) := by omega
                have hne : ((X : Int) != (Y : Int)) = true := by rw [bne_iff_ne]; exact hxy'
                have hpv : prefB zs (X : Int) (Y : Int) = prefL zs (X : Int) (Y : Int) := by unfold prefB; rw [if_pos ⟨HV.out, hxy'⟩]
                rw [prefL_alt _ _ hxy'] at hpv
                have HXY := Lib.hid hxy'; clear hxy hxy'
                cases hh : hasB zs (X : Int)
                · have hp : prefB zs (X : Int) (Y : Int) = false := by rw [hpv, hh]; rfl
                  clear hpv
                  go_wp2_with fail
                  refine (hasInt_any _ _ _ zs (X : Int) _ I5.out).mono ?_
                  rintro e w6 ⟨rfl, rfl⟩
                  go_wp2
                  go_roundw
                  case rel => exact ⟨Y + 1, by omega, by go_num, I5, B5⟩
                  case measure => simp [intOf]; omega
                · cases hq : prefL zs (Y : Int) (X : Int)
                  all_goals
                    have hp : prefB zs (X : Int) (Y : Int) = !(prefL zs (Y : Int) (X : Int)) := by rw [hpv, hh]; rfl
                    rw [hq] at hp
                    clear hpv
                    go_wp2_with fail
                    refine (hasInt_any _ _ _ zs (X : Int) _ I5.out).mono ?_
                    rintro e w6 ⟨rfl, rfl⟩
                    go_wp2_with fail
                    refine (before_any _ _ _ zs (Y : Int) (X : Int) _ I5.out HXY.out.symm).mono ?_
                    rintro e w7 ⟨rfl, rfl⟩
                    go_wp2
                    go_roundw
                    case rel => exact ⟨Y + 1, by omega, by go_num, I5, B5⟩
                    case measure => simp [intOf]; omega
            · go_wp2
              go_roundw
              case rel => exact ⟨X + 1, by omega, by go_num, hI, hB⟩
              case measure => simp [intOf]; omega
        · go_wp2
          go_ret
          exact ⟨rfl, hB.out⟩
  · have hl' : (1048576 : Int) < (len0 : Int) := by omega
    clear w0
    go_enter Try.func9, Try.ntmps9
    go_wp2
    go_ret
    exact ⟨rfl, Below.refl _ _⟩

end Go.Proofs.Ytppnngccjlnejaa.fnBallotPrefersAll
