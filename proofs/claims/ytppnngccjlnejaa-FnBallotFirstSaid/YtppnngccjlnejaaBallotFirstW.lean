/-
  laws.FnBallotFirst returns true for every code: of a valid ballot, the first candidate who has not left is taken. No condition.
-/
import Derived.Test.YtppnngccjlnejaaOpen
import Derived.Test.YtppnngccjlnejaaFirst
import Derived.Test.YtppnngccjlnejaaDrawF
namespace Go.Proofs.Ytppnngccjlnejaa.fnBallotFirst
open Go.RowKit
set_option linter.unusedVariables false


/-- The law's walk: it returns true, and writes nothing that was there. -/
theorem walk (a0 : Option Addr) (len0 cap0 : Nat) (z0 : List Int) (w : World) (w0 : IsRow .u8 w a0 len0 cap0 z0) :
    Calls Try.prog 7 #[.slice a0 len0 cap0] w fun e w' => e = .returned (.bool true) ∧ Below w.heap.size w w' := by
  by_cases hl : len0 ≤ 1048576
  · have hcap := w0.cap
    have HB := Lib.hid w0.bytes; clear w0
    go_enter Try.func7, Try.ntmps7
    go_wp2_with fail
    refine (drawFirst_any a0 len0 cap0 _ _ HB.out hcap (by omega)).mono ?_
    rintro e w1 ⟨zs, a1, c1, L, a2, c2, rfl, ho, hz, hoL, hL, hb⟩
    have I1 := Lib.hid (IsInts.of_owned ho (by omega)); clear ho
    have J1 := Lib.hid (IsBools.of_owned hoL (by omega)); clear hoL
    have B1 := Lib.hid hb; clear hb HB
    have heq : (firstB zs L != firstB zs L) = false := by simp
    have heq2 : (firstB zs L == firstB zs L) = true := by simp
    go_wp2_with fail
    refine (implFirst_any _ _ _ zs _ _ _ L _ I1.out J1.out).mono ?_
    rintro e w2 ⟨rfl, hb⟩
    have I2 := Lib.hid (I1.out.below hb)
    have J2 := Lib.hid (J1.out.below hb)
    have B2 := Lib.hid (B1.out.trans (hb.mono B1.out.size)); clear hb I1 J1 B1
    go_wp2_with fail
    refine (specFirst_any _ _ _ zs _ _ _ L _ I2.out J2.out).mono ?_
    rintro e w3 ⟨rfl, hd⟩
    have I3 := Lib.hid (I2.out.dr hd)
    have J3 := Lib.hid (J2.out.dr hd)
    have B3 := Lib.hid (B2.out.trans (hd.below _)); clear hd I2 J2 B2
    cases hv : validB zs (L.length : Int)
    · go_wp2_with fail
      refine (specValid_any _ _ _ zs _ _ I3.out).mono ?_
      rintro e w4 ⟨he, hd⟩
      rw [hv] at he
      subst he
      have B4 := Lib.hid (B3.out.trans (hd.below _)); clear hd
      go_wp2
      go_ret
      exact ⟨rfl, B4.out⟩
    · have HV := Lib.hid hv
      have HF : Hid (firstB zs L = firstL zs L) := by unfold Hid firstB; rw [hv]; rfl
      have HM := Lib.hid (validB_mem hv).2.2
      go_wp2_with fail
      refine (specValid_any _ _ _ zs _ _ I3.out).mono ?_
      rintro e w4 ⟨he, hd⟩
      rw [hv] at he
      subst he
      have I4 := Lib.hid (I3.out.dr hd)
      have J4 := Lib.hid (J3.out.dr hd)
      have B4 := Lib.hid (B3.out.trans (hd.below _)); clear hd I3 J3 B3
      clear hv
      go_wp2
      go_loop [7] (fun i => ∃ k : Nat, k ≤ zs.length ∧ i = .int .i64 k ∧ Hid (firstL zs L = firstL (zs.drop k) L)) (fun i => zs.length - (intOf i).toNat)
      case atStart => exact ⟨0, Nat.zero_le _, rfl, by simp [Hid]⟩
      case round =>
        obtain ⟨k, hk, rfl, hp⟩ := hrel
        obtain ⟨_, _, _, h4⟩ := I4.out
        obtain ⟨_, _, _, g4⟩ := J4.out
        by_cases hlt : k < zs.length
        · obtain ⟨b, o, rfl, hb, hc⟩ := h4 (by omega)
          have hzc := hc k hlt
          have hr := HM.out (zs[k]?.getD 0) (by simp [hlt])
          obtain ⟨c, hcz⟩ := Int.eq_ofNat_of_zero_le hr.1
          obtain ⟨lb, lo, rfl, hlb, hlc⟩ := g4 (by omega)
          have hcl : c < L.length := by omega
          have hcell := hlc c hcl
          rw [hcz] at hzc
          have HD := drop_cons zs k hlt
          rw [hcz] at HD
          have HDh := Lib.hid HD
          clear hc hlc hr hcz h4 g4 HD
          cases hL' : L[c]?.getD false
          · have HL := Lib.hid hL'
            rw [hL'] at hcell
            clear hL'
            have hfin : firstB zs L = (c : Int) := by
              rw [HF.out, hp.out, HDh.out, firstL, if_neg (by rw [Int.toNat_natCast, HL.out]; simp)]
            have hfe : (firstB zs L == (c : Int)) = true := by rw [hfin]; simp
            clear hfin
            go_wp2
            go_ret
            exact ⟨rfl, B4.out⟩
          · have HL := Lib.hid hL'
            rw [hL'] at hcell
            clear hL'
            go_wp2
            go_round
            case rel =>
              refine ⟨k + 1, by omega, by go_num, ?_⟩
              unfold Hid
              rw [hp.out, HDh.out, firstL, if_pos (by rw [Int.toNat_natCast]; exact HL.out)]
            case measure => simp [intOf]; omega
        · obtain rfl : k = zs.length := by omega
          have hfin : firstB zs L = -1 := by
            rw [HF.out, hp.out, List.drop_of_length_le (Nat.le_refl _)]; rfl
          have hfe : (firstB zs L == (-1 : Int)) = true := by rw [hfin]; rfl
          clear hfin h4 g4
          go_wp2
          go_ret
          exact ⟨rfl, B4.out⟩
  · have hl' : (1048576 : Int) < (len0 : Int) := by omega
    clear w0
    go_enter Try.func7, Try.ntmps7
    go_wp2
    go_ret
    exact ⟨rfl, Below.refl _ _⟩

end Go.Proofs.Ytppnngccjlnejaa.fnBallotFirst
