/-
  laws.FnPairCountsMerge returns true for every two codes. No condition.
-/
import Derived.Test.YtaaamidkfhabnaaGrp4
import Derived.Test.YtaaamidkfhabnaaGrp13
import Derived.Test.YtaaamidkfhabnaaPthS
import Derived.Test.YtaaamidkfhabnaaGrp14
import Derived.Test.YtaaamidkfhabnaaGrp15
import Derived.Test.YtaaamidkfhabnaaGrp3
import Derived.Test.YtaaamidkfhabnaaGrp12
namespace Go.Proofs.Ytaaamidkfhabnaa.fnPairCountsMerge
open Go.RowKit
set_option linter.unusedVariables false


set_option maxRecDepth 100000 in
set_option maxHeartbeats 2000000 in
/-- The law's walk: it returns true, and writes nothing that was there. -/
theorem walk (a0 : Option Addr) (len0 cap0 : Nat) (z0 : List Int) (a1 : Option Addr) (len1 cap1 : Nat) (z1 : List Int) (w : World) (w0 : IsRow .u8 w a0 len0 cap0 z0) (w1 : IsRow .u8 w a1 len1 cap1 z1) :
    Calls Try.prog 4 #[.slice a0 len0 cap0, .slice a1 len1 cap1] w fun e w' => e = .returned (.bool true) ∧ Below w.heap.size w w' := by
  by_cases hl : len0 ≤ 1048576 ∧ len1 ≤ 1048576
  · obtain ⟨hl, hl1⟩ := hl
    have hl1i : decide ((1048576 : Int) < (len1 : Int)) = false := decide_eq_false (by omega)
    have hcap := w0.cap
    have HB := Lib.hid w0.bytes; clear w0 w1
    go_enter Try.func4, Try.ntmps4
    go_wp2_with fail
    refine (drawXCounts_any a0 len0 cap0 _ _ HB.out hcap (by omega)).mono ?_
    rintro e w1 ⟨xs, g, c, n, rfl, hp, hn6, hb⟩
    have P := Lib.hid hp
    have B := Lib.hid hb
    have HSM := Lib.hid hp.2.1
    have hl13 := hp.2.2.2
    clear hb HB hp
    obtain ⟨v, hv⟩ : ∃ v, fitsB xs (n : Int) = v := ⟨_, rfl⟩
    have HV := Lib.hid hv
    go_wp2_with fail
    refine (implPairCounts_as _ _ _ xs (n : Int) v _ P.out.piles HSM.out hv).mono ?_
    clear hv
    rintro e w2 (⟨rfl, rfl, hb⟩ | ⟨rfl, gt, G, rfl, hT, -, hb⟩)
    · skip
      have P := Lib.hid (P.out.below hb)
      have B := Lib.hid (B.out.trans (hb.mono B.out.size))
      clear hb
      go_wp2_with fail
      refine (specPairCounts_as _ _ _ xs (n : Int) false _ P.out.piles HSM.out HV.out).mono ?_
      rintro e w3 ⟨aw, cw, _, _, rfl, -, hb⟩
      have P := Lib.hid (P.out.below hb)
      have B := Lib.hid (B.out.trans (hb.mono B.out.size))
      clear hb
      have IA : Hid (IsRows w3 none 0 0 []) := IsRows.empty _ _ _
      have IB : Hid (IsRows w3 aw 0 cw []) := IsRows.empty _ _ _
      simp only [Bool.false_eq_true, if_false]
      go_wp2_with fail
      refine (sameTable_same _ _ _ _ _ _ _ IA.out IB.out).mono ?_
      rintro e w4 ⟨rfl, hd⟩
      have hb := hd.below w3.heap.size
      have P := Lib.hid (P.out.below hb)
      have B := Lib.hid (B.out.trans (hb.mono B.out.size))
      clear hb hd
      have IA : Hid (IsRows w4 none 0 0 []) := IsRows.empty _ _ _
      have IB : Hid (IsRows w4 aw 0 cw []) := IsRows.empty _ _ _
      go_wp2_with fail
      refine (sameTable_same _ _ _ _ _ _ _ IA.out IB.out).mono ?_
      rintro e w5 ⟨rfl, hd⟩
      have hb := hd.below w4.heap.size
      have P := Lib.hid (P.out.below hb)
      have B := Lib.hid (B.out.trans (hb.mono B.out.size))
      clear hb hd
      go_wp2
      go_ret
      exact ⟨rfl, B.out⟩
    · skip
      obtain ⟨hpv, hn1i, hn5i, -⟩ := fits_parts HV.out
      have hn1 : 1 ≤ n := by omega
      have hn5 : n ≤ 5 := by omega
      have HP := Lib.hid hpv
      clear hpv hn1i hn5i
      rw [Int.toNat_natCast] at hT ⊢
      have P := Lib.hid (P.out.below hb)
      have T := Lib.hid hT
      have B := Lib.hid (B.out.trans (hb.mono B.out.size))
      clear hb hT
      go_wp2_with fail
      refine (specPairCounts_as _ _ _ xs (n : Int) true _ P.out.piles HSM.out HV.out).mono ?_
      rintro e w3 ⟨aw, cw, G2, C2, rfl, hT2, hb⟩
      have P := Lib.hid (P.out.below hb)
      have T := Lib.hid (T.out.under hb)
      have T2 := Lib.hid (hT2 rfl)
      have B := Lib.hid (B.out.trans (hb.mono B.out.size))
      clear hb hT2
      rw [Int.toNat_natCast] at T2
      simp only [if_true]
      have IA := Lib.hid (T.out.isRows (by omega) (fun i j _ _ => rfl))
      have IB := Lib.hid (T2.out.isRows (by omega) (fun i j _ _ => rfl))
      clear T2
      go_wp2_with fail
      refine (sameTable_same _ _ _ _ _ _ _ IA.out IB.out).mono ?_
      rintro e w4 ⟨rfl, hd⟩
      have hb := hd.below w3.heap.size
      have P := Lib.hid (P.out.below hb)
      have T := Lib.hid (T.out.under hb)
      have B := Lib.hid (B.out.trans (hb.mono B.out.size))
      clear hb hd IA IB
      obtain ⟨k, hkk⟩ : ∃ k, len1 % (xs.length + 1) = k := ⟨_, rfl⟩
      have hk : k ≤ xs.length := by have := Nat.mod_lt len1 (show 0 < xs.length + 1 by omega); omega
      have hkeq : ((len1 : Int) % ((xs.length : Int) + 1)) = (k : Int) := by rw [← hkk]; exact (Int.natCast_emod len1 (xs.length + 1)).symm
      have hwl : IntKind.i64.wrap ((xs.length : Int) + 1) = (xs.length : Int) + 1 := IntWalk.i64_in _ (by omega)
      have hlz : (((xs.length : Int) + 1) == 0) = false := by simp; omega
      have hkt : (len1 : Int).tmod ((xs.length : Int) + 1) = (k : Int) := by rw [Int.tmod_eq_emod_of_nonneg (by omega)]; exact hkeq
      have HVT := Lib.hid (fits_sub HV.out (List.take_sublist k xs))
      have HVD := Lib.hid (fits_sub HV.out (List.drop_sublist k xs))
      have HST := Lib.hid (HSM.out.take k)
      have HSD : Hid (Small (xs.drop k)) := Small.of fun p hp => HSM.out.mem p (List.mem_of_mem_drop hp)
      have hki : (k : Int) ≤ (xs.length : Int) := by omega
      have hkc : (k : Int) ≤ (c : Int) := by have := P.out.piles.2.1; omega
      have hlc : (xs.length : Int) ≤ (c : Int) := by have := P.out.piles.2.1; omega
      have hlcn : xs.length ≤ c := by omega
      clear hkk
      go_wp2_with fail
      refine (implPairCounts_as _ k _ (xs.take k) (n : Int) true _ (P.out.piles.take hk) HST.out HVT.out).mono ?_
      rintro e w5 (⟨h, _⟩ | ⟨-, ga, Ga, rfl, hT, -, hb⟩)
      · cases h
      rw [Int.toNat_natCast] at hT ⊢
      have P := Lib.hid (P.out.below hb)
      have T := Lib.hid (T.out.under hb)
      have TA := Lib.hid hT
      have B := Lib.hid (B.out.trans (hb.mono B.out.size))
      clear hb hT hkeq hkt hwl hlz
      have hne : ((n : Int) != (n : Int)) = false := by simp
      by_cases hck : c = k
      · have hnil : xs.drop k = [] := List.drop_of_length_le (by omega)
        have hz : xs.length - k = 0 := by omega
        have hyk : xs.length = k := by omega
        have IE : Hid (IsPiles w5 (some ⟨g, 0, none⟩) 0 0 (xs.drop k)) := by rw [Hid, hnil]; exact IsPiles.empty _ _ _
        clear hnil
        go_wp2_with fail
        refine (implPairCounts_as _ _ _ (xs.drop k) (n : Int) true _ IE.out HSD.out HVD.out).mono ?_
        rintro e w6 (⟨h, _⟩ | ⟨-, gb, Gb, rfl, hT, -, hb⟩)
        · cases h
        rw [Int.toNat_natCast] at hT ⊢
        have P := Lib.hid (P.out.below hb)
        have T := Lib.hid (T.out.under hb)
        have TA := Lib.hid (TA.out.under hb)
        have TB := Lib.hid hT
        have B := Lib.hid (B.out.trans (hb.mono B.out.size))
        clear hb hT
        go_wp2
        go_loopw [16, 17] (fun xv _ wr => ∃ x : Nat, x ≤ n ∧ xv = .int .i64 (x : Int) ∧ Dr w6 wr) (fun xv _ _ => n - (intOf xv).toNat)
        case atStart => exact ⟨0, Nat.zero_le _, rfl, Dr.refl _⟩
        case round =>
          obtain ⟨x, hx, rfl, hbx⟩ := hrel
          by_cases hlt : x < n
          · go_wp2
            go_loopw [17] (fun yv wr => ∃ y : Nat, y ≤ n ∧ yv = .int .i64 (y : Int) ∧ Dr w6 wr) (fun yv _ => n - (intOf yv).toNat)
            case atStart => exact ⟨0, Nat.zero_le _, rfl, hbx⟩
            case round =>
              obtain ⟨y, hy, rfl, hby⟩ := hrel
              by_cases hlt2 : y < n
              · skip
                have UT := Lib.hid (T.out.under (hby.below _))
                have UTA := Lib.hid (TA.out.under (hby.below _))
                have UTB := Lib.hid (TB.out.under (hby.below _))
                have rUT0 := UT.out.row_cell hlt (Nat.le_refl _)
                have kUTp := UT.out.cell hlt hlt2
                obtain ⟨gUT0, hgUT0⟩ : ∃ gUT0, G x = gUT0 := ⟨_, rfl⟩
                rw [hgUT0] at rUT0 kUTp
                clear hgUT0
                obtain ⟨p, hp⟩ : ∃ p, pairF xs x y = p := ⟨_, rfl⟩
                simp only [hp] at kUTp
                have rUTA0 := UTA.out.row_cell hlt (Nat.le_refl _)
                have kUTAq := UTA.out.cell hlt hlt2
                obtain ⟨gUTA0, hgUTA0⟩ : ∃ gUTA0, Ga x = gUTA0 := ⟨_, rfl⟩
                rw [hgUTA0] at rUTA0 kUTAq
                clear hgUTA0
                obtain ⟨q, hq⟩ : ∃ q, pairF (xs.take k) x y = q := ⟨_, rfl⟩
                simp only [hq] at kUTAq
                have rUTB0 := UTB.out.row_cell hlt (Nat.le_refl _)
                have kUTBr := UTB.out.cell hlt hlt2
                obtain ⟨gUTB0, hgUTB0⟩ : ∃ gUTB0, Gb x = gUTB0 := ⟨_, rfl⟩
                rw [hgUTB0] at rUTB0 kUTBr
                clear hgUTB0
                obtain ⟨r, hr⟩ : ∃ r, pairF (xs.drop k) x y = r := ⟨_, rfl⟩
                simp only [hr] at kUTBr
                have hpqr : p = q + r := by rw [← hp, ← hq, ← hr, ← pairF_parts, List.take_append_drop]
                have hqb : 0 ≤ q ∧ q ≤ 1188 := by rw [← hq]; exact pairF_most HP.out k x y
                have hpb : 0 ≤ p ∧ p ≤ 1188 := by rw [← hp]; have := pairF_most HP.out xs.length x y; rwa [List.take_length] at this
                have hnq : (p != q + r) = false := by rw [hpqr]; simp
                have hrb : -1188 ≤ r ∧ r ≤ 1188 := by omega
                have hxi : (x : Int) < (n : Int) := by omega
                have hyi : (y : Int) < (n : Int) := by omega
                clear hp hq hr hpqr
                go_wp2_with fail
                go_quiet (fail)
                go_wp2
                go_roundw
                case rel => exact ⟨y + 1, by omega, by go_num, hby.drewN _⟩
                case measure => simp [intOf]; omega
              · obtain rfl : y = n := by omega
                go_wp2
                go_roundw
                case rel => exact ⟨x + 1, by omega, by go_num, hby⟩
                case measure => simp [intOf]; omega
          · obtain rfl : x = n := by omega
            go_wp2
            go_ret
            exact ⟨rfl, B.out.trans (hbx.below _)⟩
      · have ID : Hid (IsPiles w5 (some ⟨g, 0 + k * 2, none⟩) (xs.length - k) (c - k) (xs.drop k)) := P.out.piles.drop hk (by omega)
        rw [Nat.zero_add] at ID
        go_wp2_with fail
        refine (implPairCounts_as _ _ _ (xs.drop k) (n : Int) true _ ID.out HSD.out HVD.out).mono ?_
        rintro e w6 (⟨h, _⟩ | ⟨-, gb, Gb, rfl, hT, -, hb⟩)
        · cases h
        rw [Int.toNat_natCast] at hT ⊢
        have P := Lib.hid (P.out.below hb)
        have T := Lib.hid (T.out.under hb)
        have TA := Lib.hid (TA.out.under hb)
        have TB := Lib.hid hT
        have B := Lib.hid (B.out.trans (hb.mono B.out.size))
        clear hb hT
        go_wp2
        go_loopw [16, 17] (fun xv _ wr => ∃ x : Nat, x ≤ n ∧ xv = .int .i64 (x : Int) ∧ Dr w6 wr) (fun xv _ _ => n - (intOf xv).toNat)
        case atStart => exact ⟨0, Nat.zero_le _, rfl, Dr.refl _⟩
        case round =>
          obtain ⟨x, hx, rfl, hbx⟩ := hrel
          by_cases hlt : x < n
          · go_wp2
            go_loopw [17] (fun yv wr => ∃ y : Nat, y ≤ n ∧ yv = .int .i64 (y : Int) ∧ Dr w6 wr) (fun yv _ => n - (intOf yv).toNat)
            case atStart => exact ⟨0, Nat.zero_le _, rfl, hbx⟩
            case round =>
              obtain ⟨y, hy, rfl, hby⟩ := hrel
              by_cases hlt2 : y < n
              · skip
                have UT := Lib.hid (T.out.under (hby.below _))
                have UTA := Lib.hid (TA.out.under (hby.below _))
                have UTB := Lib.hid (TB.out.under (hby.below _))
                have rUT0 := UT.out.row_cell hlt (Nat.le_refl _)
                have kUTp := UT.out.cell hlt hlt2
                obtain ⟨gUT0, hgUT0⟩ : ∃ gUT0, G x = gUT0 := ⟨_, rfl⟩
                rw [hgUT0] at rUT0 kUTp
                clear hgUT0
                obtain ⟨p, hp⟩ : ∃ p, pairF xs x y = p := ⟨_, rfl⟩
                simp only [hp] at kUTp
                have rUTA0 := UTA.out.row_cell hlt (Nat.le_refl _)
                have kUTAq := UTA.out.cell hlt hlt2
                obtain ⟨gUTA0, hgUTA0⟩ : ∃ gUTA0, Ga x = gUTA0 := ⟨_, rfl⟩
                rw [hgUTA0] at rUTA0 kUTAq
                clear hgUTA0
                obtain ⟨q, hq⟩ : ∃ q, pairF (xs.take k) x y = q := ⟨_, rfl⟩
                simp only [hq] at kUTAq
                have rUTB0 := UTB.out.row_cell hlt (Nat.le_refl _)
                have kUTBr := UTB.out.cell hlt hlt2
                obtain ⟨gUTB0, hgUTB0⟩ : ∃ gUTB0, Gb x = gUTB0 := ⟨_, rfl⟩
                rw [hgUTB0] at rUTB0 kUTBr
                clear hgUTB0
                obtain ⟨r, hr⟩ : ∃ r, pairF (xs.drop k) x y = r := ⟨_, rfl⟩
                simp only [hr] at kUTBr
                have hpqr : p = q + r := by rw [← hp, ← hq, ← hr, ← pairF_parts, List.take_append_drop]
                have hqb : 0 ≤ q ∧ q ≤ 1188 := by rw [← hq]; exact pairF_most HP.out k x y
                have hpb : 0 ≤ p ∧ p ≤ 1188 := by rw [← hp]; have := pairF_most HP.out xs.length x y; rwa [List.take_length] at this
                have hnq : (p != q + r) = false := by rw [hpqr]; simp
                have hrb : -1188 ≤ r ∧ r ≤ 1188 := by omega
                have hxi : (x : Int) < (n : Int) := by omega
                have hyi : (y : Int) < (n : Int) := by omega
                clear hp hq hr hpqr
                go_wp2_with fail
                go_quiet (fail)
                go_wp2
                go_roundw
                case rel => exact ⟨y + 1, by omega, by go_num, hby.drewN _⟩
                case measure => simp [intOf]; omega
              · obtain rfl : y = n := by omega
                go_wp2
                go_roundw
                case rel => exact ⟨x + 1, by omega, by go_num, hby⟩
                case measure => simp [intOf]; omega
          · obtain rfl : x = n := by omega
            go_wp2
            go_ret
            exact ⟨rfl, B.out.trans (hbx.below _)⟩
  · clear w0 w1
    go_enter Try.func4, Try.ntmps4
    go_wp2
    all_goals
      go_ret
      exact ⟨rfl, Below.refl _ _⟩

end Go.Proofs.Ytaaamidkfhabnaa.fnPairCountsMerge
