/-
  laws.FnLotsFirst returns true for every code: impl.LotsFirst answers as the model does at the drawn lots and candidates, and it is the first of the lots that is one of them, or -1. No condition but what the statement says itself (a code of at most 2^20 bytes).
-/
import Derived.Test.YtapmmbngfklahaaOpen
import Derived.Test.YtapmmbngfklahaaLotS
import Derived.Test.YtapmmbngfklahaaLotI
import Derived.Test.YtapmmbngfklahaaDrawLo
namespace Go.Proofs.Ytapmmbngfklahaa.fnLotsFirst
open Go.RowKit
set_option linter.unusedVariables false


set_option maxRecDepth 100000 in
set_option maxHeartbeats 2000000 in
/-- The law's walk: it returns true, and writes nothing that was there. -/
theorem walk (a0 : Option Addr) (len0 cap0 : Nat) (z0 : List Int) (w : World) (w0 : IsRow .u8 w a0 len0 cap0 z0) :
    Calls Try.prog 6 #[.slice a0 len0 cap0] w fun e w' => e = .returned (.bool true) ∧ Below w.heap.size w w' := by
  by_cases hl : len0 ≤ 1048576
  · have hcap := w0.cap
    have HB := Lib.hid w0.bytes; clear w0
    go_enter Try.func6, Try.ntmps6
    go_wp2_with fail
    refine (drawLotsFirst_any a0 len0 cap0 _ _ HB.out hcap (by omega)).mono ?_
    rintro e w1 ⟨zs, a1, c1, L, a2, c2, rfl, ho, hz, hoL, hL, hb⟩
    have I1 := Lib.hid (IsInts.of_owned ho (by omega)); clear ho
    have J1 := Lib.hid (IsBools.of_owned hoL (by omega)); clear hoL
    have B1 := Lib.hid hb; clear hb HB
    have heq : (pickB zs L != pickB zs L) = false := by simp
    have heq2 : (pickB zs L == pickB zs L) = true := by simp
    go_wp2_with fail
    refine (implPick_any _ _ _ zs _ _ _ L _ I1.out J1.out).mono ?_
    rintro e w2 ⟨rfl, hb⟩
    have I2 := Lib.hid (I1.out.below hb)
    have J2 := Lib.hid (J1.out.below hb)
    have B2 := Lib.hid (B1.out.trans (hb.mono B1.out.size)); clear hb I1 J1 B1
    go_wp2_with fail
    refine (specPick_any _ _ _ zs _ _ _ L _ I2.out J2.out).mono ?_
    rintro e w3 ⟨rfl, hd⟩
    have I3 := Lib.hid (I2.out.dr hd)
    have J3 := Lib.hid (J2.out.dr hd)
    have B3 := Lib.hid (B2.out.trans (hd.below _)); clear hd I2 J2 B2
    cases hv : lotsB zs
    · have HV := Lib.hid hv
      go_wp2_with fail
      refine (specLots_any _ _ _ zs _ I3.out).mono ?_
      rintro e w4 ⟨he, hd⟩
      rw [HV.out] at he
      subst he
      have B4 := Lib.hid (B3.out.trans (hd.below _)); clear hd
      go_wp2
      go_ret
      exact ⟨rfl, B4.out⟩
    by_cases hll : L.length = zs.length
    case neg =>
      have HV := Lib.hid hv
      have hne : ((L.length : Int) != (zs.length : Int)) = true := bne_iff_ne.2 (by omega)
      go_wp2_with fail
      refine (specLots_any _ _ _ zs _ I3.out).mono ?_
      rintro e w4 ⟨he, hd⟩
      rw [HV.out] at he
      subst he
      have B4 := Lib.hid (B3.out.trans (hd.below _)); clear hd
      go_wp2
      go_ret
      exact ⟨rfl, B4.out⟩
    case pos =>
      have HV := Lib.hid hv
      have hne : ((L.length : Int) != (zs.length : Int)) = false := by rw [hll]; simp
      have HF : Hid (pickB zs L = pickL zs L) := by unfold Hid pickB; rw [if_pos ⟨hv, hll⟩]
      have HM : Hid (∀ z ∈ zs, 0 ≤ z ∧ z < (L.length : Int)) := by unfold Hid; rw [hll]; exact lotsB_mem hv
      have HLL := Lib.hid hll
      clear hll
      go_wp2_with fail
      refine (specLots_any _ _ _ zs _ I3.out).mono ?_
      rintro e w4 ⟨he, hd⟩
      rw [hv] at he
      subst he
      have I4 := Lib.hid (I3.out.dr hd)
      have J4 := Lib.hid (J3.out.dr hd)
      have B4 := Lib.hid (B3.out.trans (hd.below _)); clear hd I3 J3 B3
      clear hv
      go_wp2
      go_loop [7] (fun i => ∃ k : Nat, k ≤ zs.length ∧ i = .int .i64 k ∧ Hid (pickL zs L = pickL (zs.drop k) L)) (fun i => zs.length - (intOf i).toNat)
      case atStart => exact ⟨0, Nat.zero_le _, rfl, by simp [Hid]⟩
      case round =>
        obtain ⟨k, hk, rfl, hp⟩ := hrel
        obtain ⟨_, _, _, h4⟩ := I4.out
        obtain ⟨_, _, _, g4⟩ := J4.out
        by_cases hlt : k < zs.length
        · obtain ⟨b, o, rfl, hb, hc⟩ := h4 (by omega)
          have hzc := hc k hlt
          have hr := HM.out (zs[k]?.getD 0) (by simp [hlt])
          obtain ⟨c, hcz⟩ := Int.eq_ofNat_of_zero_le hr.1
          obtain ⟨lb, lo, rfl, hlb, hlc⟩ := g4 (by omega)
          have hcl : c < L.length := by omega
          have hcell := hlc c hcl
          rw [hcz] at hzc
          have HD := drop_cons zs k hlt
          rw [hcz] at HD
          have HDh := Lib.hid HD
          clear hc hlc hr hcz h4 g4 HD
          cases hL' : L[c]?.getD false
          · have HL := Lib.hid hL'
            rw [hL'] at hcell
            clear hL'
            go_wp2
            go_round
            case rel =>
              refine ⟨k + 1, by omega, by go_num, ?_⟩
              unfold Hid
              rw [hp.out, HDh.out, pickL, if_neg (by rw [Int.toNat_natCast, HL.out]; simp)]
            case measure => simp [intOf]; omega
          · have HL := Lib.hid hL'
            rw [hL'] at hcell
            clear hL'
            have hfin : pickB zs L = (c : Int) := by
              rw [HF.out, hp.out, HDh.out, pickL, if_pos (by rw [Int.toNat_natCast]; exact HL.out)]
            have hfe : (pickB zs L == (c : Int)) = true := by rw [hfin]; simp
            clear hfin
            go_wp2
            go_ret
            exact ⟨rfl, B4.out⟩
        · obtain rfl : k = zs.length := by omega
          have hfin : pickB zs L = -1 := by
            rw [HF.out, hp.out, List.drop_of_length_le (Nat.le_refl _)]; rfl
          have hfe : (pickB zs L == (-1 : Int)) = true := by rw [hfin]; rfl
          clear hfin h4 g4
          go_wp2
          go_ret
          exact ⟨rfl, B4.out⟩
  · have hl' : (1048576 : Int) < (len0 : Int) := by omega
    clear w0
    go_enter Try.func6, Try.ntmps6
    go_wp2
    go_ret
    exact ⟨rfl, Below.refl _ _⟩

end Go.Proofs.Ytapmmbngfklahaa.fnLotsFirst
