/-
  spec.LotsValid, spec.LotsFirst and spec.LotsSeal: what they answer at every list of at most 1048600 ints, every list of bools and every number; they write nothing.
-/
import Derived.Test.YtapmmbngfklahaaLotQ
import Derived.Test.YtapmmbngfklahaaOpen
namespace Go.Proofs.Ytapmmbngfklahaa
open Go.RowKit

theorem lotsB_eq {zs : List Int} {len : Nat} (h : zs.length = len) (hl : len ≤ 1048600) : lotsB zs = (goodTo zs ((len : Int) - 1) len && inB (len : Int) 1 5) := by
  unfold lotsB validB
  rw [h, IntWalk.wrap64_in _ ⟨by omega, by omega⟩]

set_option maxHeartbeats 400000 in
/-- **spec.LotsValid**. -/
theorem specLots_any (a : Option Addr) (len cap : Nat) (zs : List Int) (w : World) (h : IsInts w a len cap zs) :
    Calls Try.prog 21 #[.slice a len cap] w fun e w' => e = .returned (.bool (lotsB zs)) ∧ Dr w w' := by
  have hl := h.2.2.1
  have HV := Lib.hid (lotsB_eq h.1 hl)
  have H := Lib.hid h; clear h
  go_enter Try.func21, Try.ntmps21
  go_wp2
  go_loopw [3] (fun i wr => ∃ k : Nat, k ≤ len ∧ i = .int .i64 k ∧ Hid (goodTo zs ((len : Int) - 1) k = true) ∧ Dr w wr) (fun i _ => len - (intOf i).toNat)
  case atStart => exact ⟨0, Nat.zero_le _, rfl, by simp [Hid, goodTo], Dr.refl _⟩
  case round =>
    obtain ⟨k, hk, rfl, hc, hd⟩ := hrel
    by_cases hlt : k < len
    · have HI := H.out.dr hd
      have HK := HI.take hk
      obtain ⟨h1, h2, h3, h4⟩ := HI
      obtain ⟨b, off, rfl, hb, hcell⟩ := h4 (by omega)
      have hck := hcell k hlt
      have HS := goodTo_succ zs ((len : Int) - 1) k
      rw [hc.out, Bool.true_and] at HS
      have HS := Lib.hid HS
      clear h1 h4 hcell
      by_cases hin : inB (zs[k]?.getD 0) 0 ((len : Int) - 1) = true
      · cases hh : hasB (zs.take k) (zs[k]?.getD 0)
        all_goals
          go_wp2
          go_quiet (first | (go_at_call 37; exact quiet_same (l6In_any _ _ _ _)) | (go_at_call 42; exact quiet_same (l1Has_any _ _ _ _ _ _ (HK.drewN _))))
          go_wp2
        · go_roundw
          case rel => exact ⟨k + 1, by omega, by go_num, by unfold Hid; rw [HS.out, hin, hh]; rfl, hd.drewN _⟩
          case measure => simp [intOf]; omega
        · go_ret
          refine ⟨ret_bool ?_, hd.drewN _⟩
          rw [HV.out, goodTo_no (by rw [HS.out, hin, hh]; rfl) hlt]; rfl
      · have hin' : inB (zs[k]?.getD 0) 0 ((len : Int) - 1) = false := by simpa using hin
        clear hin
        go_wp2
        go_quiet (first | (go_at_call 37; exact quiet_same (l6In_any _ _ _ _)) | (go_at_call 42; exact quiet_same (l1Has_any _ _ _ _ _ _ (HK.drewN _))))
        go_wp2
        go_ret
        refine ⟨ret_bool ?_, hd.drewN _⟩
        rw [HV.out, goodTo_no (by rw [HS.out, hin']; rfl) hlt]; rfl
    · obtain rfl : k = len := by omega
      go_wp2_with (go_at_call 37; refine (l6In_any _ _ _ _).mono ?_; rintro e w' ⟨rfl, rfl⟩)
      go_ret
      refine ⟨ret_bool ?_, hd⟩
      rw [HV.out, hc.out, Bool.true_and]

set_option maxHeartbeats 1000000 in
theorem l4First_any (a : Option Addr) (len cap : Nat) (zs : List Int) (a' : Option Addr) (len' cap' : Nat) (L : List Bool) (w : World) (h : IsInts w a len cap zs) (h' : IsBools w a' len' cap' L) (hr : ∀ z ∈ zs, 0 ≤ z ∧ z < (len' : Int)) :
    Calls Try.prog 41 #[.slice a len cap, .slice a' len' cap'] w fun e w' => e = .returned (.int .i64 (pickL zs L)) ∧ w = w' := by
  obtain ⟨h1, h2, h3, h4⟩ := h
  obtain ⟨g1, g2, g3, g4⟩ := h'
  have H1 := Lib.hid h1; clear h1
  have H4 := Lib.hid h4; clear h4
  have G4 := Lib.hid g4; clear g4 g1
  have HR := Lib.hid hr; clear hr
  go_enter Try.func41, Try.ntmps41
  go_wp2
  go_loop [5] (fun i => ∃ k : Nat, k ≤ len ∧ i = .int .i64 k ∧ Hid (pickL zs L = pickL (zs.drop k) L)) (fun i => len - (intOf i).toNat)
  case atStart => exact ⟨0, Nat.zero_le _, rfl, by simp [Hid]⟩
  case round =>
    obtain ⟨k, hk, rfl, hp⟩ := hrel
    by_cases hlt : k < len
    · obtain ⟨b, o, rfl, hb, hc⟩ := H4.out (by omega)
      have hz := hc k hlt
      have hkz : k < zs.length := by rw [H1.out]; exact hlt
      have hr := HR.out (zs[k]?.getD 0) (by simp [hkz])
      obtain ⟨c, hcz⟩ := Int.eq_ofNat_of_zero_le hr.1
      obtain ⟨lb, lo, rfl, hlb, hlc⟩ := G4.out (by omega)
      have hcl : c < len' := by omega
      have hcell := hlc c hcl
      rw [hcz] at hz
      have HD : zs.drop k = (c : Int) :: zs.drop (k + 1) := by
        rw [List.drop_eq_getElem_cons hkz, ← hcz]; simp [hkz]
      have HD := Lib.hid HD
      clear hc hlc hr hcz hkz
      cases hL : L[c]?.getD false
      · have HL := Lib.hid hL
        go_wp2
        go_round
        case rel =>
          refine ⟨k + 1, by omega, by go_num, ?_⟩
          unfold Hid
          rw [hp.out, HD.out, pickL, if_neg (by rw [Int.toNat_natCast, HL.out]; simp)]
        case measure => simp [intOf]; omega
      · have HL := Lib.hid hL
        go_wp2
        go_ret
        refine ⟨ret_int ?_, rfl⟩
        rw [hp.out, HD.out, pickL, if_pos (by rw [Int.toNat_natCast]; exact HL.out)]
    · obtain rfl : k = len := by omega
      go_wp2
      go_ret
      refine ⟨ret_int ?_, rfl⟩
      rw [hp.out, List.drop_of_length_le (by rw [H1.out]; omega)]; rfl

set_option maxHeartbeats 1000000 in
/-- **spec.LotsFirst**. -/
theorem specPick_any (a : Option Addr) (len cap : Nat) (zs : List Int) (a' : Option Addr) (len' cap' : Nat) (L : List Bool) (w : World) (h : IsInts w a len cap zs) (h' : IsBools w a' len' cap' L) :
    Calls Try.prog 20 #[.slice a len cap, .slice a' len' cap'] w fun e w' => e = .returned (.int .i64 (pickB zs L)) ∧ Dr w w' := by
  have hE : Hid (pickB zs L = if lotsB zs = true ∧ len' = len then pickL zs L else -1) := by unfold Hid pickB; rw [h.1, h'.1]
  have hm := h'.2.2.1
  have hm' := h.2.2.1
  have HL := Lib.hid h.1
  have H := Lib.hid h; clear h
  have H' := Lib.hid h'; clear h'
  cases hv : lotsB zs
  · have HV := Lib.hid hv
    go_enter Try.func20, Try.ntmps20
    go_wp2_with fail
    refine (specLots_any _ _ _ zs _ H.out).mono ?_
    rintro e w1 ⟨rfl, hd⟩
    go_wp2
    go_ret
    refine ⟨ret_int ?_, hd⟩
    rw [hE.out, HV.out]; rfl
  · have HV := Lib.hid hv
    by_cases hll : len' = len
    · have hll2 : (len' : Int) = (len : Int) := by omega
      have HR : Hid (∀ z ∈ zs, 0 ≤ z ∧ z < (len' : Int)) := by intro z hz; have := lotsB_mem HV.out z hz; rw [HL.out] at this; omega
      subst hll
      clear hll2
      go_enter Try.func20, Try.ntmps20
      go_wp2_with fail
      refine (specLots_any _ _ _ zs _ H.out).mono ?_
      rintro e w1 ⟨rfl, hd⟩
      go_wp2_with fail
      refine (l4First_any _ _ _ zs _ _ _ L _ (H.out.dr hd) (H'.out.dr hd) HR.out).mono ?_
      rintro e w2 ⟨rfl, rfl⟩
      go_wp2
      go_ret
      refine ⟨ret_int ?_, hd⟩
      rw [hE.out, if_pos (by simp [HV.out])]
    · have hll2 : ¬ (len' : Int) = (len : Int) := by omega
      have hll3 : ((len' : Int) != (len : Int)) = true := by simpa using hll2
      go_enter Try.func20, Try.ntmps20
      go_wp2_with fail
      refine (specLots_any _ _ _ zs _ H.out).mono ?_
      rintro e w1 ⟨rfl, hd⟩
      go_wp2
      go_ret
      refine ⟨ret_int ?_, hd⟩
      rw [hE.out, if_neg (fun e => hll e.2)]

set_option maxHeartbeats 1000000 in
/-- **spec.LotsSeal**. -/
theorem specSeal_any (x y : Int) (w : World) :
    Calls Try.prog 25 #[.int .i64 x, .int .i64 y] w fun e w' => e = .returned (.int .i64 (sealB x y)) ∧ w = w' := by
  cases hx : inB x 0 999
  · have HX := Lib.hid hx
    go_enter Try.func25, Try.ntmps25
    go_wp2_with (go_at_call 37; refine (l6In_any _ _ _ _).mono ?_; rintro e w' ⟨rfl, rfl⟩)
    go_ret
    exact ⟨ret_int (by rw [sealB, if_neg (by rw [HX.out]; simp)]), rfl⟩
  · cases hy : inB y 0 999
    · have HY := Lib.hid hy
      go_enter Try.func25, Try.ntmps25
      go_wp2_with (go_at_call 37; refine (l6In_any _ _ _ _).mono ?_; rintro e w' ⟨rfl, rfl⟩)
      go_ret
      exact ⟨ret_int (by rw [sealB, if_neg (by rw [HY.out]; simp)]), rfl⟩
    · have HX := Lib.hid hx
      have HY := Lib.hid hy
      obtain ⟨hx0, hx1⟩ := inB_of hx
      obtain ⟨hy0, hy1⟩ := inB_of hy
      have hS : Hid (sealB x y = (x * 7919 + y * 104729 + 12345) % 1000003) := by unfold Hid; rw [sealB, if_pos ⟨HX.out, HY.out⟩, sealV]
      go_enter Try.func25, Try.ntmps25
      go_wp2_with (go_at_call 37; refine (l6In_any _ _ _ _).mono ?_; rintro e w' ⟨rfl, rfl⟩)
      go_ret
      exact ⟨ret_int (by rw [hS.out]), rfl⟩

end Go.Proofs.Ytapmmbngfklahaa
