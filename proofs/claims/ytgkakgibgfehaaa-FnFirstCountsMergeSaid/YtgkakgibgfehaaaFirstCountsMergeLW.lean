/-
  laws.FnFirstCountsMerge returns true for every two codes. No condition.
-/
import Derived.Test.YtgkakgibgfehaaaSh3
import Derived.Test.YtgkakgibgfehaaaSh7
import Derived.Test.YtgkakgibgfehaaaSh26
import Derived.Test.YtgkakgibgfehaaaShN
namespace Go.Proofs.Ytgkakgibgfehaaa.fnFirstCountsMerge
open Go.RowKit
set_option linter.unusedVariables false


set_option maxRecDepth 100000 in
set_option maxHeartbeats 2000000 in
/-- The law's walk: it returns true, and writes nothing that was there. -/
theorem walk (a0 : Option Addr) (len0 cap0 : Nat) (z0 : List Int) (a1 : Option Addr) (len1 cap1 : Nat) (z1 : List Int) (w : World) (w0 : IsRow .u8 w a0 len0 cap0 z0) (w1 : IsRow .u8 w a1 len1 cap1 z1) :
    Calls Tq.prog 5 #[.slice a0 len0 cap0, .slice a1 len1 cap1] w fun e w' => e = .returned (.bool true) ∧ Below w.heap.size w w' := by
  by_cases hl : len0 ≤ 1048576 ∧ len1 ≤ 1048576
  · obtain ⟨hl, hl1⟩ := hl
    have hl1i : decide ((1048576 : Int) < (len1 : Int)) = false := decide_eq_false (by omega)
    have hcap := w0.cap
    have HB := Lib.hid w0.bytes; clear w0 w1
    go_enter Tq.func5, Tq.ntmps5
    go_wp2_with fail
    refine (drawFc_any a0 len0 cap0 _ _ HB.out hcap (by omega)).mono ?_
    rintro e w1 ⟨xs, g, c, L, al, cl, rfl, hp, hol, hl10, hb⟩
    have P := Lib.hid hp
    have B := Lib.hid hb
    have HSM := Lib.hid hp.2.1
    have hl13 := hp.2.2.2
    clear hb HB hp
    have hJ := IsBools.of_owned hol (by omega)
    clear hol
    obtain ⟨N, hN⟩ : ∃ N, L.length = N := ⟨_, rfl⟩
    have HN := Lib.hid hN
    rw [hN] at hJ hl10 ⊢
    have J := Lib.hid hJ
    clear hJ hN
    obtain ⟨v, hv⟩ : ∃ v, fitsB xs (N : Int) = v := ⟨_, rfl⟩
    obtain ⟨l, hL⟩ : ∃ l, (if v then countsL xs L else []) = l := ⟨_, rfl⟩
    have HV := Lib.hid hv
    have HL := Lib.hid hL
    have hll : l.length ≤ 10 := by
      rw [← hL]
      cases v
      · simp
      · rw [if_pos rfl, countsL_length, HN.out]; exact hl10
    clear hv hL
    have hne : (v != v) = false := by cases v <;> rfl
    have heq : (v == v) = true := by cases v <;> rfl
    go_wp2_with fail
    refine (implCounts_to _ _ _ xs _ N _ L v l _ P.out.piles HSM.out J.out HV.out HL.out).mono ?_
    rintro e w2 ⟨a1, c1, rfl, hi, hb⟩
    have P := Lib.hid (P.out.below hb)
    have J := Lib.hid (J.out.below hb)
    have B := Lib.hid (B.out.trans (hb.mono B.out.size))
    have I1 := Lib.hid hi
    clear hb hi
    go_wp2_with fail
    refine (specCounts_as _ _ _ xs _ N _ L v l _ P.out.piles HSM.out J.out HV.out HL.out).mono ?_
    rintro e w3 ⟨a2, c2, rfl, ho, hb⟩
    have P := Lib.hid (P.out.below hb)
    have J := Lib.hid (J.out.below hb)
    have I1 := Lib.hid (I1.out.below hb)
    have I2 := Lib.hid (IsInts.of_owned ho (by omega))
    have B := Lib.hid (B.out.trans (hb.mono B.out.size))
    clear hb ho
    go_wp2_with fail
    refine (sameInts_fst _ _ _ l _ _ _ I1.out I2.out).mono ?_
    rintro e w4 ⟨rfl, hd⟩
    have hb := hd.below w3.heap.size
    have P := Lib.hid (P.out.below hb)
    have J := Lib.hid (J.out.below hb)
    have I1 := Lib.hid (I1.out.below hb)
    have I2 := Lib.hid (I2.out.below hb)
    have B := Lib.hid (B.out.trans (hb.mono B.out.size))
    clear hb hd
    cases v
    · go_wp2_with fail
      refine (sameInts_fst _ _ _ l _ _ _ I1.out I2.out).mono ?_
      rintro e w5 ⟨rfl, hd⟩
      have B := Lib.hid (B.out.trans (hd.below _))
      clear hd
      go_wp2
      go_ret
      exact ⟨rfl, B.out⟩
    · clear I2
      have hfit : fitsB xs (L.length : Int) = true := by rw [HN.out]; exact HV.out
      obtain ⟨hF, -, hN1, hN5⟩ := fits_fitP hfit
      rw [HN.out] at hN1 hN5
      have hle : countsL xs L = l := HL.out
      obtain ⟨k, hkk⟩ : ∃ k, len1 % (xs.length + 1) = k := ⟨_, rfl⟩
      have hk : k ≤ xs.length := by have := Nat.mod_lt len1 (show 0 < xs.length + 1 by omega); omega
      have hwl : IntKind.i64.wrap ((xs.length : Int) + 1) = (xs.length : Int) + 1 := IntWalk.i64_in _ (by omega)
      have hlz : (((xs.length : Int) + 1) == 0) = false := by simp; omega
      have hkt : (len1 : Int).tmod ((xs.length : Int) + 1) = (k : Int) := by rw [Int.tmod_eq_emod_of_nonneg (by omega), ← hkk]; exact (Int.natCast_emod len1 (xs.length + 1)).symm
      have HVT := Lib.hid (fits_sub HV.out (List.take_sublist k xs))
      have HVD := Lib.hid (fits_sub HV.out (List.drop_sublist k xs))
      have HST := Lib.hid (HSM.out.take k)
      have HSD : Hid (Small (xs.drop k)) := Small.of fun p hp => HSM.out.mem p (List.mem_of_mem_drop hp)
      have hki : (k : Int) ≤ (xs.length : Int) := by omega
      have hkc : (k : Int) ≤ (c : Int) := by have := P.out.piles.2.1; omega
      have hlc : (xs.length : Int) ≤ (c : Int) := by have := P.out.piles.2.1; omega
      have hlcn : xs.length ≤ c := by omega
      obtain ⟨l2, hl2⟩ : ∃ l2, countsL (xs.take k) L = l2 := ⟨_, rfl⟩
      obtain ⟨l3, hl3⟩ : ∃ l3, countsL (xs.drop k) L = l3 := ⟨_, rfl⟩
      have h1l : l.length = N := by rw [← hle, countsL_length]; exact HN.out
      have h2l : l2.length = N := by rw [← hl2, countsL_length]; exact HN.out
      have h3l : l3.length = N := by rw [← hl3, countsL_length]; exact HN.out
      have FP : Hid (∀ x : Nat, x < N → l[x]?.getD 0 = l2[x]?.getD 0 + l3[x]?.getD 0) := fun x hx => by
        rw [← hle, ← hl2, ← hl3, ← counts_parts _ _ (by rw [HN.out]; exact hx), List.take_append_drop]
      have F2 : Hid (∀ x : Nat, 0 ≤ l2[x]?.getD 0 ∧ l2[x]?.getD 0 ≤ 5940) := fun x => by
        have := fitP_counts (ps := xs.take k) (L := L) (by rw [HN.out]; exact HVT.out) (xs.take k).length x
        rwa [List.take_length, hl2] at this
      have F3 : Hid (∀ x : Nat, 0 ≤ l3[x]?.getD 0 ∧ l3[x]?.getD 0 ≤ 5940) := fun x => by
        have := fitP_counts (ps := xs.drop k) (L := L) (by rw [HN.out]; exact HVD.out) (xs.drop k).length x
        rwa [List.take_length, hl3] at this
      have HL2 : Hid ((if true then countsL (xs.take k) L else []) = l2) := by unfold Hid; rw [if_pos rfl]; exact hl2
      have HL3 : Hid ((if true then countsL (xs.drop k) L else []) = l3) := by unfold Hid; rw [if_pos rfl]; exact hl3
      have H2L := Lib.hid h2l
      have H3L := Lib.hid h3l
      rw [h1l] at I1 ⊢
      clear hkk hle hl2 hl3 h1l h2l h3l hfit hF hll
      go_wp2_with fail
      refine (implCounts_to _ k _ (xs.take k) _ N _ L true l2 _ (P.out.piles.take hk) HST.out J.out HVT.out HL2.out).mono ?_
      rintro e w7 ⟨a3, c3, rfl, hi, hb⟩
      have P := Lib.hid (P.out.below hb)
      have J := Lib.hid (J.out.below hb)
      have I1 := Lib.hid (I1.out.below hb)
      have B := Lib.hid (B.out.trans (hb.mono B.out.size))
      have I3 := Lib.hid hi
      have h2l := H2L.out
      rw [h2l] at I3 ⊢
      clear hb hi hkt hwl hlz h2l H2L
      by_cases hck : c = k
      · have hnil : xs.drop k = [] := List.drop_of_length_le (by omega)
        have hz : xs.length - k = 0 := by omega
        have hyk : xs.length = k := by omega
        have IE : Hid (IsPiles w7 (some ⟨g, 0, none⟩) 0 0 (xs.drop k)) := by rw [Hid, hnil]; exact IsPiles.empty _ _ _
        clear hnil
        go_wp2_with fail
        refine (implCounts_to _ _ _ (xs.drop k) _ N _ L true l3 _ IE.out HSD.out J.out HVD.out HL3.out).mono ?_
        rintro e w8 ⟨a4, c4, rfl, hi, hb⟩
        have I1 := Lib.hid (I1.out.below hb)
        have I3 := Lib.hid (I3.out.below hb)
        have B := Lib.hid (B.out.trans (hb.mono B.out.size))
        have I4 := Lib.hid hi
        have h3l := H3L.out
        rw [h3l] at I4 ⊢
        clear hb hi
        go_wp2
        go_loopw [16] (fun iv wr => ∃ i : Nat, i ≤ N ∧ iv = .int .i64 (i : Int) ∧ Dr w8 wr) (fun iv _ => N - (intOf iv).toNat)
        case atStart => exact ⟨0, Nat.zero_le _, rfl, Dr.refl _⟩
        case round =>
          obtain ⟨i, hi, rfl, hd⟩ := hrel
          by_cases hlt : i < N
          · obtain ⟨ib, io, ei, -, hci⟩ := (I1.out.dr hd).2.2.2 (by omega)
            subst ei
            obtain ⟨jb, jo, ej, -, hcj⟩ := (I3.out.dr hd).2.2.2 (by omega)
            subst ej
            obtain ⟨mb, mo, em, -, hcm⟩ := (I4.out.dr hd).2.2.2 (by omega)
            subst em
            have k1 := hci i hlt
            have k2 := hcj i hlt
            have k3 := hcm i hlt
            have hpq := FP.out i hlt
            have hq := F2.out i
            have hr := F3.out i
            obtain ⟨x, hx⟩ : ∃ x, l[i]?.getD 0 = x := ⟨_, rfl⟩
            obtain ⟨y, hy⟩ : ∃ y, l2[i]?.getD 0 = y := ⟨_, rfl⟩
            obtain ⟨z, hz⟩ : ∃ z, l3[i]?.getD 0 = z := ⟨_, rfl⟩
            rw [hx] at k1 hpq
            rw [hy] at k2 hpq hq
            rw [hz] at k3 hpq hr
            have hne2 : (x != y + z) = false := by rw [hpq]; simp
            have hlti : (i : Int) < (N : Int) := by omega
            clear hci hcj hcm hx hy hz hpq
            go_wp2_with fail
            all_goals (try go_quiet (fail))
            all_goals go_wp2
            all_goals go_roundw
            case rel => exact ⟨i + 1, by omega, by go_num, by first | exact hd | exact hd.drewN _⟩
            case measure => simp [intOf]; omega
          · obtain rfl : i = N := by omega
            have heqN : ((i : Int) == (i : Int)) = true := by simp
            go_wp2
            go_ret
            exact ⟨rfl, B.out.trans (hd.below _)⟩
      · have ID : Hid (IsPiles w7 (some ⟨g, 0 + k * 2, none⟩) (xs.length - k) (c - k) (xs.drop k)) := P.out.piles.drop hk (by omega)
        rw [Nat.zero_add] at ID
        go_wp2_with fail
        refine (implCounts_to _ _ _ (xs.drop k) _ N _ L true l3 _ ID.out HSD.out J.out HVD.out HL3.out).mono ?_
        rintro e w8 ⟨a4, c4, rfl, hi, hb⟩
        have I1 := Lib.hid (I1.out.below hb)
        have I3 := Lib.hid (I3.out.below hb)
        have B := Lib.hid (B.out.trans (hb.mono B.out.size))
        have I4 := Lib.hid hi
        have h3l := H3L.out
        rw [h3l] at I4 ⊢
        clear hb hi
        go_wp2
        go_loopw [16] (fun iv wr => ∃ i : Nat, i ≤ N ∧ iv = .int .i64 (i : Int) ∧ Dr w8 wr) (fun iv _ => N - (intOf iv).toNat)
        case atStart => exact ⟨0, Nat.zero_le _, rfl, Dr.refl _⟩
        case round =>
          obtain ⟨i, hi, rfl, hd⟩ := hrel
          by_cases hlt : i < N
          · obtain ⟨ib, io, ei, -, hci⟩ := (I1.out.dr hd).2.2.2 (by omega)
            subst ei
            obtain ⟨jb, jo, ej, -, hcj⟩ := (I3.out.dr hd).2.2.2 (by omega)
            subst ej
            obtain ⟨mb, mo, em, -, hcm⟩ := (I4.out.dr hd).2.2.2 (by omega)
            subst em
            have k1 := hci i hlt
            have k2 := hcj i hlt
            have k3 := hcm i hlt
            have hpq := FP.out i hlt
            have hq := F2.out i
            have hr := F3.out i
            obtain ⟨x, hx⟩ : ∃ x, l[i]?.getD 0 = x := ⟨_, rfl⟩
            obtain ⟨y, hy⟩ : ∃ y, l2[i]?.getD 0 = y := ⟨_, rfl⟩
            obtain ⟨z, hz⟩ : ∃ z, l3[i]?.getD 0 = z := ⟨_, rfl⟩
            rw [hx] at k1 hpq
            rw [hy] at k2 hpq hq
            rw [hz] at k3 hpq hr
            have hne2 : (x != y + z) = false := by rw [hpq]; simp
            have hlti : (i : Int) < (N : Int) := by omega
            clear hci hcj hcm hx hy hz hpq
            go_wp2_with fail
            all_goals (try go_quiet (fail))
            all_goals go_wp2
            all_goals go_roundw
            case rel => exact ⟨i + 1, by omega, by go_num, by first | exact hd | exact hd.drewN _⟩
            case measure => simp [intOf]; omega
          · obtain rfl : i = N := by omega
            have heqN : ((i : Int) == (i : Int)) = true := by simp
            go_wp2
            go_ret
            exact ⟨rfl, B.out.trans (hd.below _)⟩
  · clear w0 w1
    go_enter Tq.func5, Tq.ntmps5
    go_wp2
    all_goals
      go_ret
      exact ⟨rfl, Below.refl _ _⟩

end Go.Proofs.Ytgkakgibgfehaaa.fnFirstCountsMerge
