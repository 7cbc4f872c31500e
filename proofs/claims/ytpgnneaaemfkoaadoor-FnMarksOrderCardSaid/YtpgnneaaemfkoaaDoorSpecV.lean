/-
  spec.BallotValid: what it answers at every list of at most 1048600 ints and every number; it writes nothing. No condition but what each theorem says.
-/
import Derived.Test.YtpgnneaaemfkoaaDoorHasS
import Derived.Test.YtpgnneaaemfkoaaDoorBase
namespace Go.Proofs.YtpgnneaaemfkoaaDoor
open Go.RowKit

set_option maxHeartbeats 400000 in
/-- **spec.BallotValid**. -/
theorem specValid_any (a : Option Addr) (len cap : Nat) (zs : List Int) (n : Int) (w : World) (h : IsInts w a len cap zs) :
    Calls Tryd.prog 23 #[.slice a len cap, .int .i64 n] w fun e w' => e = .returned (.bool (validB zs n)) ∧ Dr w w' := by
  obtain ⟨m, hm⟩ : ∃ m, wrap64 (n - 1) = m := ⟨_, rfl⟩
  have H := Lib.hid h; clear h
  have HV : Hid (validB zs n = (goodTo zs m len && inB n 1 5)) := by unfold Hid validB; rw [hm, H.out.1]
  go_enter Tryd.func23, Tryd.ntmps23
  go_wp2
  go_loopw [5] (fun i wr => ∃ k : Nat, k ≤ len ∧ i = .int .i64 k ∧ Hid (goodTo zs m k = true) ∧ Dr w wr) (fun i _ => len - (intOf i).toNat)
  case atStart => exact ⟨0, Nat.zero_le _, rfl, by simp [Hid, goodTo], Dr.refl _⟩
  case round =>
    obtain ⟨k, hk, rfl, hc, hd⟩ := hrel
    by_cases hlt : k < len
    · have HI := H.out.dr hd
      have HK := HI.take hk
      obtain ⟨h1, h2, h3, h4⟩ := HI
      obtain ⟨b, off, rfl, hb, hcell⟩ := h4 (by omega)
      have hck := hcell k hlt
      have HS := goodTo_succ zs m k
      rw [hc.out, Bool.true_and] at HS
      have HS := Lib.hid HS
      clear h1 h4 hcell
      by_cases hin : inB (zs[k]?.getD 0) 0 m = true
      · cases hh : hasB (zs.take k) (zs[k]?.getD 0)
        all_goals
          go_wp2
          go_quiet (first | (go_at_call 35; exact quiet_same (l6In_any _ _ _ _)) | (go_at_call 36; exact quiet_same (l1Has_any _ _ _ _ _ _ (HK.drewN _))))
          go_wp2
        · go_roundw
          case rel => exact ⟨k + 1, by omega, by go_num, by unfold Hid; rw [HS.out, hin, hh]; rfl, hd.drewN _⟩
          case measure => simp [intOf]; omega
        · go_ret
          refine ⟨ret_bool ?_, hd.drewN _⟩
          rw [HV.out, goodTo_no (by rw [HS.out, hin, hh]; rfl) hlt]; rfl
      · have hin' : inB (zs[k]?.getD 0) 0 m = false := by simpa using hin
        clear hin
        go_wp2
        go_quiet (first | (go_at_call 35; exact quiet_same (l6In_any _ _ _ _)) | (go_at_call 36; exact quiet_same (l1Has_any _ _ _ _ _ _ (HK.drewN _))))
        go_wp2
        go_ret
        refine ⟨ret_bool ?_, hd.drewN _⟩
        rw [HV.out, goodTo_no (by rw [HS.out, hin']; rfl) hlt]; rfl
    · obtain rfl : k = len := by omega
      go_wp2_with (go_at_call 35; refine (l6In_any _ _ _ _).mono ?_; rintro e w' ⟨rfl, rfl⟩)
      go_ret
      refine ⟨ret_bool ?_, hd⟩
      rw [HV.out, hc.out, Bool.true_and]

end Go.Proofs.YtpgnneaaemfkoaaDoor
