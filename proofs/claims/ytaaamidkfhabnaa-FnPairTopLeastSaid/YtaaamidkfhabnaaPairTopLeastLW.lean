/-
  laws.FnPairTopLeast returns true for every code. No condition.
-/
import Derived.Test.YtaaamidkfhabnaaGrp4
import Derived.Test.YtaaamidkfhabnaaGrp13
import Derived.Test.YtaaamidkfhabnaaPthS
import Derived.Test.YtaaamidkfhabnaaGrp14
import Derived.Test.YtaaamidkfhabnaaGrp15
import Derived.Test.YtaaamidkfhabnaaGrp3
import Derived.Test.YtaaamidkfhabnaaGrp12
namespace Go.Proofs.Ytaaamidkfhabnaa.fnPairTopLeast
open Go.RowKit
set_option linter.unusedVariables false


set_option maxRecDepth 100000 in
set_option maxHeartbeats 2000000 in
/-- The law's walk: it returns true, and writes nothing that was there. -/
theorem walk (a0 : Option Addr) (len0 cap0 : Nat) (z0 : List Int) (w : World) (w0 : IsRow .u8 w a0 len0 cap0 z0) :
    Calls Try.prog 8 #[.slice a0 len0 cap0] w fun e w' => e = .returned (.bool true) ∧ Below w.heap.size w w' := by
  by_cases hl : len0 ≤ 1048576
  · skip
    have hcap := w0.cap
    have HB := Lib.hid w0.bytes; clear w0
    go_enter Try.func8, Try.ntmps8
    go_wp2_with fail
    refine (drawXTop_any a0 len0 cap0 _ _ HB.out hcap (by omega)).mono ?_
    rintro e w1 ⟨xs, g, c, n, rfl, hp, hn6, hb⟩
    have P := Lib.hid hp
    have B := Lib.hid hb
    have HSM := Lib.hid hp.2.1
    have hl13 := hp.2.2.2
    clear hb HB hp
    obtain ⟨v, hv⟩ : ∃ v, fitsB xs (n : Int) = v := ⟨_, rfl⟩
    have HV := Lib.hid hv
    obtain ⟨r, hr⟩ : ∃ r, ptopF xs (n : Int) = r := ⟨_, rfl⟩
    have hlen : r.length ≤ 5 := by rw [← hr]; exact ptopF_short
    have HR := Lib.hid hr
    clear hr hv
    go_wp2_with fail
    refine (implPairTop_as _ _ _ xs (n : Int) r _ P.out.piles HSM.out HR.out).mono ?_
    rintro e w2 ⟨aL, cL, rfl, ho, hb⟩
    have P := Lib.hid (P.out.below hb)
    have L1 := Lib.hid (IsInts.of_owned ho (by omega))
    have B := Lib.hid (B.out.trans (hb.mono B.out.size))
    clear hb ho
    go_wp2_with fail
    refine (specPairTop_as _ _ _ xs (n : Int) r _ P.out.piles HSM.out HR.out).mono ?_
    rintro e w3 ⟨aM, cM, rfl, ho, hb⟩
    have P := Lib.hid (P.out.below hb)
    have L1 := Lib.hid (L1.out.below hb)
    have L2 := Lib.hid (IsInts.of_owned ho (by omega))
    have B := Lib.hid (B.out.trans (hb.mono B.out.size))
    clear hb ho
    go_wp2_with fail
    refine (sameInts_self _ _ _ r _ _ _ L1.out L2.out).mono ?_
    rintro e w4 ⟨rfl, hd⟩
    have hb := hd.below w3.heap.size
    have P := Lib.hid (P.out.below hb)
    have L1 := Lib.hid (L1.out.below hb)
    have L2 := Lib.hid (L2.out.below hb)
    have B := Lib.hid (B.out.trans (hb.mono B.out.size))
    clear hb hd
    by_cases hz : r.length < 2
    · have hzi : decide ((r.length : Int) < 2) = true := decide_eq_true (by omega)
      clear hz
      go_wp2_with fail
      refine (sameInts_self _ _ _ r _ _ _ L1.out L2.out).mono ?_
      rintro e w5 ⟨rfl, hd⟩
      have hb := hd.below w4.heap.size
      have P := Lib.hid (P.out.below hb)
      have L1 := Lib.hid (L1.out.below hb)
      have L2 := Lib.hid (L2.out.below hb)
      have B := Lib.hid (B.out.trans (hb.mono B.out.size))
      clear hb hd
      go_wp2
      go_ret
      exact ⟨rfl, B.out⟩
    · skip
      have hzi : decide ((r.length : Int) < 2) = false := decide_eq_false (by omega)
      have hv1 : v = true := by
        cases v
        · exfalso
          have e : r = [] := by rw [← HR.out, ptopF, HV.out]; rfl
          rw [e] at hz
          simp at hz
        · rfl
      subst hv1
      obtain ⟨hpv, hn1i, hn5i, -⟩ := fits_parts HV.out
      have hn1 : 1 ≤ n := by omega
      have hn5 : n ≤ 5 := by omega
      have HP := Lib.hid hpv
      clear hpv hn1i hn5i
      clear L2
      have HL : Hid (r = candTo (ptopB (pairF xs) n) n) := by rw [Hid, ← HR.out, ptopF, HV.out]; rfl
      have hne : ((n : Int) != (n : Int)) = false := by simp
      go_wp2_with fail
      refine (implPairCounts_as _ _ _ xs (n : Int) true _ P.out.piles HSM.out HV.out).mono ?_
      rintro e w5 (⟨h, _⟩ | ⟨-, gt, G, rfl, hT, -, hb⟩)
      · cases h
      rw [Int.toNat_natCast] at hT ⊢
      have P := Lib.hid (P.out.below hb)
      have L1 := Lib.hid (L1.out.below hb)
      have T := Lib.hid hT
      have B := Lib.hid (B.out.trans (hb.mono B.out.size))
      clear hb hT
      go_wp2
      go_loopw [9, 10, 11] (fun iv _ _ wr => ∃ i : Nat, i ≤ r.length ∧ iv = .int .i64 (i : Int) ∧ Dr w5 wr) (fun iv _ _ _ => r.length - (intOf iv).toNat)
      case atStart => exact ⟨0, Nat.zero_le _, rfl, Dr.refl _⟩
      case round =>
        obtain ⟨i, hi, rfl, hbi⟩ := hrel
        by_cases hlt : i < r.length
        · skip
          obtain ⟨x, hx, hbx, hxe⟩ : ∃ x, x < n ∧ ptopB (pairF xs) n x = true ∧ r[i]?.getD 0 = (x : Int) := by rw [HL.out] at hlt ⊢; exact cand_at hlt
          have HTX : Hid (IsTop (pairF xs) n x) := (ptopB_iff _ _ _).1 hbx
          have HXE := Lib.hid hxe
          have hii : (i : Int) < (r.length : Int) := by omega
          have hxi : (x : Int) < (n : Int) := by omega
          clear hbx hxe
          go_wp2
          go_loopw [10, 11] (fun sv kv wr => ∃ (k : Nat) (u : Bool), k ≤ r.length ∧ kv = .int .i64 (k : Int) ∧ sv = .bool u ∧ Hid (allTo (fun k => decide (k = i) || decide (pairF xs (r[k]?.getD 0).toNat x < pairF xs x (r[k]?.getD 0).toNat)) k = !u) ∧ Dr w5 wr) (fun _ kv _ => r.length - (intOf kv).toNat)
          case atStart => exact ⟨0, false, Nat.zero_le _, rfl, rfl, rfl, hbi⟩
          case round =>
            obtain ⟨k, u, hk, rfl, rfl, hA, hby⟩ := hrel
            by_cases hlt2 : k < r.length
            · cases u
              · by_cases hki : k = i
                · subst hki
                  have he : ((k : Int) != (k : Int)) = false := by simp
                  go_wp2_with fail
                  go_quiet (fail)
                  go_wp2
                  go_roundw
                  case rel => exact ⟨k + 1, false, by omega, by go_num, rfl, by unfold Hid; rw [allTo_succ, hA.out]; simp, hby.drewN _⟩
                  case measure => simp [intOf]; omega
                · have he : ((k : Int) != (i : Int)) = true := bne_iff_ne.2 (by omega)
                  obtain ⟨z, hz1, _, hze⟩ : ∃ z, z < n ∧ ptopB (pairF xs) n z = true ∧ r[k]?.getD 0 = (z : Int) := by rw [HL.out] at hlt2 ⊢; exact cand_at hlt2
                  obtain ⟨bL, oL, haL, _, hcL⟩ := (L1.out.dr hby).get (by omega)
                  subst haL
                  have ki := hcL i hlt
                  rw [HXE.out] at ki
                  have kk := hcL k hlt2
                  rw [hze] at kk
                  clear hcL
                  have U := Lib.hid (T.out.under (hby.below _))
                  have rU0 := U.out.row_cell hz1 (Nat.le_refl _)
                  have rU1 := U.out.row_cell hx (Nat.le_refl _)
                  have kUp := U.out.cell hz1 hx
                  have kUq := U.out.cell hx hz1
                  obtain ⟨gU0, hgU0⟩ : ∃ gU0, G z = gU0 := ⟨_, rfl⟩
                  rw [hgU0] at rU0 kUp
                  clear hgU0
                  obtain ⟨gU1, hgU1⟩ : ∃ gU1, G x = gU1 := ⟨_, rfl⟩
                  rw [hgU1] at rU1 kUq
                  clear hgU1
                  obtain ⟨p, hp⟩ : ∃ p, pairF xs z x = p := ⟨_, rfl⟩
                  simp only [hp] at kUp
                  obtain ⟨q, hq⟩ : ∃ q, pairF xs x z = q := ⟨_, rfl⟩
                  simp only [hq] at kUq
                  obtain ⟨v2, hv2⟩ : ∃ v2, decide (q ≤ p) = v2 := ⟨_, rfl⟩
                  have HNX : Hid (allTo (fun k => decide (k = i) || decide (pairF xs (r[k]?.getD 0).toNat x < pairF xs x (r[k]?.getD 0).toNat)) (k + 1) = !v2) := by
                    unfold Hid; rw [allTo_succ, hA.out, hze, Int.toNat_natCast, hp, hq, ← hv2, decide_eq_false hki]
                    by_cases h : q ≤ p
                    · rw [decide_eq_true h, decide_eq_false (by omega : ¬ p < q)]; rfl
                    · rw [decide_eq_false h, decide_eq_true (by omega : p < q)]; rfl
                  have hzi2 : (z : Int) < (n : Int) := by omega
                  have hki2 : (k : Int) < (r.length : Int) := by omega
                  clear hp hq hze
                  go_wp2_with fail
                  go_quiet (fail)
                  go_wp2
                  go_roundw
                  case rel => exact ⟨k + 1, v2, by omega, by go_num, rfl, HNX, hby.drewN _⟩
                  case measure => simp [intOf]; omega
              · skip
                go_wp2_with fail
                go_quiet (fail)
                go_wp2
                go_roundw
                case rel => exact ⟨k + 1, true, by omega, by go_num, rfl, by unfold Hid; rw [allTo_succ, hA.out]; rfl, hby.drewN _⟩
                case measure => simp [intOf]; omega
            · obtain rfl : k = r.length := by omega
              have hu : u = true := by
                cases u
                · exfalso
                  have h2 : allTo (fun k => decide (k = i) || decide (pairF xs (r[k]?.getD 0).toNat x < pairF xs x (r[k]?.getD 0).toNat)) r.length = true := hA.out
                  rw [allTo_iff] at h2
                  obtain ⟨m, hm, hmi⟩ : ∃ m, m < r.length ∧ m ≠ i := by
                    rcases Nat.eq_zero_or_pos i with e | e
                    · exact ⟨1, by omega, by omega⟩
                    · exact ⟨0, by omega, by omega⟩
                  obtain ⟨z, hz1, hbz, hze⟩ : ∃ z, z < n ∧ ptopB (pairF xs) n z = true ∧ r[m]?.getD 0 = (z : Int) := by rw [HL.out] at hm ⊢; exact cand_at hm
                  have hzx : z ≠ x := by
                    intro e
                    have e1 := HXE.out
                    subst e
                    rw [← e1] at hze
                    have hpw := candTo_asc (ptopB (pairF xs) n) n
                    rw [← HL.out, List.pairwise_iff_getElem] at hpw
                    rw [List.getElem?_eq_getElem hm, List.getElem?_eq_getElem hlt] at hze
                    simp only [Option.getD_some] at hze
                    rcases Nat.lt_or_gt_of_ne hmi with g | g
                    · have := hpw m i hm hlt g; omega
                    · have := hpw i m hlt hm g; omega
                  obtain ⟨j, hj, hji, htj, hmj⟩ := top_least hx HTX.out hz1 hzx ((ptopB_iff _ _ _).1 hbz)
                  obtain ⟨k2, hk2, hke⟩ := cand_index hj ((ptopB_iff (pairF xs) n j).2 htj)
                  rw [← HL.out] at hk2 hke
                  have h3 := h2 k2 hk2
                  rw [hke, Int.toNat_natCast] at h3
                  have hk2i : k2 ≠ i := by
                    intro e
                    subst e
                    rw [HXE.out] at hke
                    omega
                  rw [decide_eq_false hk2i, decide_eq_false (by omega : ¬ pairF xs j x < pairF xs x j)] at h3
                  cases h3
                · rfl
              subst hu
              clear hA
              go_wp2
              go_roundw
              case rel => exact ⟨i + 1, by omega, by go_num, hby⟩
              case measure => simp [intOf]; omega
        · obtain rfl : i = r.length := by omega
          go_wp2
          go_ret
          exact ⟨rfl, B.out.trans (hbi.below _)⟩
  · clear w0
    go_enter Try.func8, Try.ntmps8
    go_wp2
    go_ret
    exact ⟨rfl, Below.refl _ _⟩

end Go.Proofs.Ytaaamidkfhabnaa.fnPairTopLeast
