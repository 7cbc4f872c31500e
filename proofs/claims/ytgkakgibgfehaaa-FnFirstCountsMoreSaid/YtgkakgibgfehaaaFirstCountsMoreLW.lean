/-
  laws.FnFirstCountsMore returns true for every two codes. No condition.
-/
import Derived.Test.YtgkakgibgfehaaaSh3
import Derived.Test.YtgkakgibgfehaaaSh7
import Derived.Test.YtgkakgibgfehaaaSh26
import Derived.Test.YtgkakgibgfehaaaShM
import Derived.Deep.AppendLies
namespace Go.Proofs.Ytgkakgibgfehaaa.fnFirstCountsMore
open Go.RowKit
set_option linter.unusedVariables false


set_option maxRecDepth 100000 in
set_option maxHeartbeats 2000000 in
/-- The law's walk: it returns true, and writes nothing that was there. -/
theorem walk (a0 : Option Addr) (len0 cap0 : Nat) (z0 : List Int) (a1 : Option Addr) (len1 cap1 : Nat) (z1 : List Int) (w : World) (w0 : IsRow .u8 w a0 len0 cap0 z0) (w1 : IsRow .u8 w a1 len1 cap1 z1) :
    Calls Tq.prog 4 #[.slice a0 len0 cap0, .slice a1 len1 cap1] w fun e w' => e = .returned (.bool true) ∧ Below w.heap.size w w' := by
  by_cases hl : len0 ≤ 1048576 ∧ len1 ≤ 1048576
  · obtain ⟨hl, hl1⟩ := hl
    have hl1i : decide ((1048576 : Int) < (len1 : Int)) = false := decide_eq_false (by omega)
    obtain ⟨i0, hi0, hz0, hz1, hz2⟩ := info_parts bool_info
    have hcap := w0.cap
    have HB := Lib.hid w0.bytes; clear w0 w1
    go_enter Tq.func4, Tq.ntmps4
    go_wp2_with fail
    refine (drawFc_any a0 len0 cap0 _ _ HB.out hcap (by omega)).mono ?_
    rintro e w1 ⟨xs, g, c, L, al, cl, rfl, hp, hol, hl10, hb⟩
    have P := Lib.hid hp
    have B := Lib.hid hb
    have HSM := Lib.hid hp.2.1
    have hl13 := hp.2.2.2
    clear hb HB hp
    have hJ := IsBools.of_owned hol (by omega)
    clear hol
    obtain ⟨N, hN⟩ : ∃ N, L.length = N := ⟨_, rfl⟩
    have HN := Lib.hid hN
    rw [hN] at hJ hl10 ⊢
    have J := Lib.hid hJ
    clear hJ hN
    obtain ⟨v, hv⟩ : ∃ v, fitsB xs (N : Int) = v := ⟨_, rfl⟩
    obtain ⟨l, hL⟩ : ∃ l, (if v then countsL xs L else []) = l := ⟨_, rfl⟩
    have HV := Lib.hid hv
    have HL := Lib.hid hL
    have hll : l.length ≤ 10 := by
      rw [← hL]
      cases v
      · simp
      · rw [if_pos rfl, countsL_length, HN.out]; exact hl10
    clear hv hL
    have hne : (v != v) = false := by cases v <;> rfl
    have heq : (v == v) = true := by cases v <;> rfl
    go_wp2_with fail
    refine (implCounts_to _ _ _ xs _ N _ L v l _ P.out.piles HSM.out J.out HV.out HL.out).mono ?_
    rintro e w2 ⟨a1, c1, rfl, hi, hb⟩
    have P := Lib.hid (P.out.below hb)
    have J := Lib.hid (J.out.below hb)
    have B := Lib.hid (B.out.trans (hb.mono B.out.size))
    have I1 := Lib.hid hi
    clear hb hi
    go_wp2_with fail
    refine (specCounts_as _ _ _ xs _ N _ L v l _ P.out.piles HSM.out J.out HV.out HL.out).mono ?_
    rintro e w3 ⟨a2, c2, rfl, ho, hb⟩
    have P := Lib.hid (P.out.below hb)
    have J := Lib.hid (J.out.below hb)
    have I1 := Lib.hid (I1.out.below hb)
    have I2 := Lib.hid (IsInts.of_owned ho (by omega))
    have B := Lib.hid (B.out.trans (hb.mono B.out.size))
    clear hb ho
    go_wp2_with fail
    refine (sameInts_fst _ _ _ l _ _ _ I1.out I2.out).mono ?_
    rintro e w4 ⟨rfl, hd⟩
    have hb := hd.below w3.heap.size
    have P := Lib.hid (P.out.below hb)
    have J := Lib.hid (J.out.below hb)
    have I1 := Lib.hid (I1.out.below hb)
    have I2 := Lib.hid (I2.out.below hb)
    have B := Lib.hid (B.out.trans (hb.mono B.out.size))
    clear hb hd
    cases v
    · go_wp2_with fail
      refine (sameInts_fst _ _ _ l _ _ _ I1.out I2.out).mono ?_
      rintro e w5 ⟨rfl, hd⟩
      have B := Lib.hid (B.out.trans (hd.below _))
      clear hd
      go_wp2
      go_ret
      exact ⟨rfl, B.out⟩
    · clear I2
      have hfit : fitsB xs (L.length : Int) = true := by rw [HN.out]; exact HV.out
      obtain ⟨hF, -, hN1, hN5⟩ := fits_fitP hfit
      rw [HN.out] at hN1 hN5
      have hle : countsL xs L = l := HL.out
      obtain ⟨k, hkk⟩ : ∃ k, len1 % N = k := ⟨_, rfl⟩
      have hk : k < N := by have := Nat.mod_lt len1 (show 0 < N by omega); omega
      have hlz : ((N : Int) == 0) = false := by simp; omega
      have hkt : (len1 : Int).tmod (N : Int) = (k : Int) := by rw [Int.tmod_eq_emod_of_nonneg (by omega), ← hkk]; exact (Int.natCast_emod len1 N).symm
      have hkL : k < L.length := by rw [HN.out]; exact hk
      obtain ⟨l2, hl2⟩ : ∃ l2, countsL xs (L.set k true) = l2 := ⟨_, rfl⟩
      have hsl : (L.set k true).length = N := by rw [List.length_set]; exact HN.out
      have h1l : l.length = N := by rw [← hle, countsL_length]; exact HN.out
      have h2l : l2.length = N := by rw [← hl2, countsL_length]; exact hsl
      have FM : Hid (∀ x : Nat, x < N → x ≠ k → l[x]?.getD 0 ≤ l2[x]?.getD 0) := fun x hx hxk => by
        rw [← hle, ← hl2]
        exact counts_more hkL (by rw [HN.out]; exact hx) hxk fun p hp => (hF p hp).2.2.1
      have FS : Hid (totI l2 ≤ totI l) := by
        unfold Hid
        rw [← hle, ← hl2]
        exact counts_more_sum hkL fun p hp => (hF p hp).2.2.1
      have F1 : Hid (∀ x : Nat, 0 ≤ l[x]?.getD 0 ∧ l[x]?.getD 0 ≤ 100000) := fun x => by
        have := fitP_counts hfit xs.length x
        rw [List.take_length, hle] at this
        omega
      have F2 : Hid (∀ x : Nat, 0 ≤ l2[x]?.getD 0 ∧ l2[x]?.getD 0 ≤ 100000) := fun x => by
        have := fitP_counts (ps := xs) (L := L.set k true) (by rw [hsl]; exact HV.out) xs.length x
        rw [List.take_length, hl2] at this
        omega
      have HL2 : Hid ((if true then countsL xs (L.set k true) else []) = l2) := by unfold Hid; rw [if_pos rfl]; exact hl2
      have HSL := Lib.hid hsl
      have H2L := Lib.hid h2l
      rw [h1l] at I1 ⊢
      obtain ⟨lb, lo, el, hlb, hcL⟩ := J.out.2.2.2 (by omega)
      subst el
      have HO0 := Lib.hid (World.ownsRow_lit (base := w4.heap.size) (e := 4) (size := 1) w4 #[] 0 (Nat.le_refl _) (by unfold maxLen; omega) rfl)
      have HB0 : Hid (Below w4.heap.size w4 (w4.alloc (.cells #[] 4))) := (Below.refl _ w4).alloc (Nat.le_refl _) _
      have HNEW : Hid (∀ (j : Nat) (u : Value), (L.map Value.bool)[j]? = some u → (w4.alloc (.cells #[] 4)).cell? ((⟨lb, lo, none⟩ : Addr).add j) = some u) := fun j u hu => by
        have hj : j < N := by have := (List.getElem?_eq_some_iff.1 hu).1; simpa [HN.out] using this
        rw [add_spot, (HB0.out.cell (p := ⟨lb, lo + j, none⟩) hlb).trans (hcL j hj)]
        have : L[j]?.getD false = L[j]'(by rw [HN.out]; exact hj) := by simp [HN.out, hj]
        rw [this]
        rw [List.getElem?_map, List.getElem?_eq_getElem (by rw [HN.out]; exact hj)] at hu
        exact hu
      have hki : (k : Int) < (N : Int) := by omega
      have hlen : (L.map Value.bool).length = N * 1 := by rw [List.length_map, HN.out, Nat.mul_one]
      have HLEN := Lib.hid hlen
      clear hcL hkk hle hl2 hsl h1l h2l hfit hF hkL hll hlen
      have H1C : Hid (∀ u ∈ L.map Value.bool, u.oneCell' = true) := fun u hu => by
        simp only [List.mem_map] at hu
        obtain ⟨b, -, rfl⟩ := hu
        rfl
      go_wp2_with (
        at_builtin
        refine wpList_append_lies _ rfl _ _ 24 rfl w4.heap.size 4 i0 (.bool false) 1 1 Tq.underlying24 hi0 hz0 hz1 hz2 rfl (by decide) _ 0 _ rfl HO0.out ⟨lb, lo, none⟩ N cl (L.map Value.bool) rfl HLEN.out HNEW.out H1C.out hN1 (by unfold maxLen; omega) (by omega) (by simp) _ rfl ?_
        intro g cap w5 hown hgrow hgl hglt
        rw [Nat.zero_add, List.nil_append] at hown
        have hgG : w4.heap.size ≤ g := (hown.lt g rfl).1
        have hb5 : Below w4.heap.size w4 w5 := HB0.out.grown hgrow (by simp) (fun j ej => by cases ej; exact Nat.le_refl _)
        have hfz : w5.frozen? ⟨g, k, none⟩ = false := hown.frozenAt k
        obtain ⟨t0, ht0⟩ : ∃ t0, L[k]?.getD false = t0 := ⟨_, rfl⟩
        have hcell : w5.cell? ⟨g, k, none⟩ = some (.bool t0) := by
          rw [hown.cellAt k (by omega), ← ht0]
          have : k < L.length := by rw [HN.out]; exact hk
          simp [this]
        have O6 : Hid ((w5.setCell ⟨g, k, none⟩ (.bool true)).ownsRow w4.heap.size 4 1 (.slice (some ⟨g, 0, none⟩) N cap) N ((L.set k true).map Value.bool)) := by
          have h1 := (hown.stored k (.bool true)).1
          unfold Hid
          rw [List.map_set]
          exact h1
        have B6 : Hid (Below w4.heap.size w4 (w5.setCell ⟨g, k, none⟩ (.bool true))) := hb5.setCell (p := ⟨g, k, none⟩) hgG _
        clear hown hgrow hgl hb5 ht0)
      generalize World.setCell _ _ (.bool true) = w6 at O6 B6 ⊢
      have P := Lib.hid (P.out.below B6.out)
      have I1 := Lib.hid (I1.out.below B6.out)
      have B := Lib.hid (B.out.trans (B6.out.mono B.out.size))
      have J6 := Lib.hid (IsBools.of_owned O6.out (by omega))
      clear O6 B6 J
      refine (implCounts_to _ _ _ xs _ N _ (L.set k true) true l2 _ P.out.piles HSM.out J6.out HV.out HL2.out).mono ?_
      rintro e w7 ⟨a3, c3, rfl, hi, hb⟩
      have P := Lib.hid (P.out.below hb)
      have I1 := Lib.hid (I1.out.below hb)
      have B := Lib.hid (B.out.trans (hb.mono B.out.size))
      have I3 := Lib.hid hi
      clear hb hi
      have h2l := H2L.out
      rw [h2l] at I3 ⊢
      go_wp2
      go_loopw [15] (fun iv wr => ∃ i : Nat, i ≤ N ∧ iv = .int .i64 (i : Int) ∧ Dr w7 wr) (fun iv _ => N - (intOf iv).toNat)
      case atStart => exact ⟨0, Nat.zero_le _, rfl, Dr.refl _⟩
      case round =>
        obtain ⟨i, hi, rfl, hd⟩ := hrel
        by_cases hlt : i < N
        · obtain ⟨ib, io, ei, -, hci⟩ := (I1.out.dr hd).2.2.2 (by omega)
          subst ei
          obtain ⟨jb, jo, ej, -, hcj⟩ := (I3.out.dr hd).2.2.2 (by omega)
          subst ej
          have k1 := hci i hlt
          have k2 := hcj i hlt
          obtain ⟨x, hx⟩ : ∃ x, l[i]?.getD 0 = x := ⟨_, rfl⟩
          obtain ⟨y, hy⟩ : ∃ y, l2[i]?.getD 0 = y := ⟨_, rfl⟩
          rw [hx] at k1
          rw [hy] at k2
          have hlti : (i : Int) < (N : Int) := by omega
          clear hci hcj
          by_cases hik : i = k
          · have hne2 : ((i : Int) != (k : Int)) = false := by simp [hik]
            go_wp2_with fail
            all_goals (try go_quiet (fail))
            all_goals go_wp2
            all_goals go_roundw
            case rel => exact ⟨i + 1, by omega, by go_num, by first | exact hd | exact hd.drewN _⟩
            case measure => simp [intOf]; omega
          · have hne2 : ((i : Int) != (k : Int)) = true := by simp; omega
            have hge : decide (y < x) = false := decide_eq_false (by have := FM.out i hlt hik; rw [hx, hy] at this; omega)
            go_wp2_with fail
            all_goals (try go_quiet (fail))
            all_goals go_wp2
            all_goals go_roundw
            case rel => exact ⟨i + 1, by omega, by go_num, by first | exact hd | exact hd.drewN _⟩
            case measure => simp [intOf]; omega
        · obtain rfl : i = N := by omega
          obtain ⟨s, hs⟩ : ∃ s, totI l2 = s := ⟨_, rfl⟩
          obtain ⟨q, hq⟩ : ∃ q, totI l = q := ⟨_, rfl⟩
          have hsq : s ≤ q := by rw [← hs, ← hq]; exact FS.out
          have HS := Lib.hid hs
          have HQ := Lib.hid hq
          have I1 := Lib.hid (I1.out.dr hd)
          have I3 := Lib.hid (I3.out.dr hd)
          have B := Lib.hid (B.out.trans (hd.below _))
          have heqN : ((i : Int) == (i : Int)) = true := by simp
          have hdec : decide (s ≤ q) = true := decide_eq_true hsq
          clear hs hq
          go_wp2_with fail
          refine (sumOf_as _ _ _ l2 s _ I3.out (by omega) F2.out HS.out).mono ?_
          rintro e w8 ⟨rfl, rfl⟩
          go_wp2_with fail
          refine (sumOf_as _ _ _ l q _ I1.out (by omega) F1.out HQ.out).mono ?_
          rintro e w9 ⟨rfl, rfl⟩
          go_wp2
          go_ret
          exact ⟨rfl, B.out⟩
  · clear w0 w1
    go_enter Tq.func4, Tq.ntmps4
    go_wp2
    all_goals
      go_ret
      exact ⟨rfl, Below.refl _ _⟩

end Go.Proofs.Ytgkakgibgfehaaa.fnFirstCountsMore
