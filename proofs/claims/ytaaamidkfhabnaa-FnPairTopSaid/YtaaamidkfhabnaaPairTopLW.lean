/-
  laws.FnPairTop returns true for every code. No condition.
-/
import Derived.Test.YtaaamidkfhabnaaGrp4
import Derived.Test.YtaaamidkfhabnaaGrp13
import Derived.Test.YtaaamidkfhabnaaPthS
import Derived.Test.YtaaamidkfhabnaaGrp14
import Derived.Test.YtaaamidkfhabnaaGrp15
import Derived.Test.YtaaamidkfhabnaaGrp3
import Derived.Test.YtaaamidkfhabnaaGrp12
namespace Go.Proofs.Ytaaamidkfhabnaa.fnPairTop
open Go.RowKit
set_option linter.unusedVariables false


set_option maxRecDepth 100000 in
set_option maxHeartbeats 2000000 in
/-- The law's walk: it returns true, and writes nothing that was there. -/
theorem walk (a0 : Option Addr) (len0 cap0 : Nat) (z0 : List Int) (w : World) (w0 : IsRow .u8 w a0 len0 cap0 z0) :
    Calls Try.prog 7 #[.slice a0 len0 cap0] w fun e w' => e = .returned (.bool true) ∧ Below w.heap.size w w' := by
  by_cases hl : len0 ≤ 1048576
  · skip
    have hcap := w0.cap
    have HB := Lib.hid w0.bytes; clear w0
    go_enter Try.func7, Try.ntmps7
    go_wp2_with fail
    refine (drawXTop_any a0 len0 cap0 _ _ HB.out hcap (by omega)).mono ?_
    rintro e w1 ⟨xs, g, c, n, rfl, hp, hn6, hb⟩
    have P := Lib.hid hp
    have B := Lib.hid hb
    have HSM := Lib.hid hp.2.1
    have hl13 := hp.2.2.2
    clear hb HB hp
    obtain ⟨v, hv⟩ : ∃ v, fitsB xs (n : Int) = v := ⟨_, rfl⟩
    have HV := Lib.hid hv
    obtain ⟨r, hr⟩ : ∃ r, ptopF xs (n : Int) = r := ⟨_, rfl⟩
    have hlen : r.length ≤ 5 := by rw [← hr]; exact ptopF_short
    have HR := Lib.hid hr
    clear hr hv
    go_wp2_with fail
    refine (implPairTop_as _ _ _ xs (n : Int) r _ P.out.piles HSM.out HR.out).mono ?_
    rintro e w2 ⟨aL, cL, rfl, ho, hb⟩
    have P := Lib.hid (P.out.below hb)
    have L1 := Lib.hid (IsInts.of_owned ho (by omega))
    have B := Lib.hid (B.out.trans (hb.mono B.out.size))
    clear hb ho
    go_wp2_with fail
    refine (specPairTop_as _ _ _ xs (n : Int) r _ P.out.piles HSM.out HR.out).mono ?_
    rintro e w3 ⟨aM, cM, rfl, ho, hb⟩
    have P := Lib.hid (P.out.below hb)
    have L1 := Lib.hid (L1.out.below hb)
    have L2 := Lib.hid (IsInts.of_owned ho (by omega))
    have B := Lib.hid (B.out.trans (hb.mono B.out.size))
    clear hb ho
    go_wp2_with fail
    refine (sameInts_self _ _ _ r _ _ _ L1.out L2.out).mono ?_
    rintro e w4 ⟨rfl, hd⟩
    have hb := hd.below w3.heap.size
    have P := Lib.hid (P.out.below hb)
    have L1 := Lib.hid (L1.out.below hb)
    have L2 := Lib.hid (L2.out.below hb)
    have B := Lib.hid (B.out.trans (hb.mono B.out.size))
    clear hb hd
    by_cases hz : r.length = 0
    · have hzi : ((r.length : Int) == 0) = true := by rw [hz]; rfl
      clear hz
      go_wp2_with fail
      refine (sameInts_self _ _ _ r _ _ _ L1.out L2.out).mono ?_
      rintro e w5 ⟨rfl, hd⟩
      have hb := hd.below w4.heap.size
      have P := Lib.hid (P.out.below hb)
      have L1 := Lib.hid (L1.out.below hb)
      have L2 := Lib.hid (L2.out.below hb)
      have B := Lib.hid (B.out.trans (hb.mono B.out.size))
      clear hb hd
      go_wp2
      go_ret
      exact ⟨rfl, B.out⟩
    · skip
      have hzi : ((r.length : Int) == 0) = false := beq_eq_false_iff_ne.2 (by omega)
      have hv1 : v = true := by
        cases v
        · exfalso
          have e : r = [] := by rw [← HR.out, ptopF, HV.out]; rfl
          rw [e] at hz
          simp at hz
        · rfl
      subst hv1
      obtain ⟨hpv, hn1i, hn5i, -⟩ := fits_parts HV.out
      have hn1 : 1 ≤ n := by omega
      have hn5 : n ≤ 5 := by omega
      have HP := Lib.hid hpv
      clear hpv hn1i hn5i
      clear L2
      have HL : Hid (r = candTo (ptopB (pairF xs) n) n) := by rw [Hid, ← HR.out, ptopF, HV.out]; rfl
      have hne : ((n : Int) != (n : Int)) = false := by simp
      go_wp2_with fail
      refine (implPairCounts_as _ _ _ xs (n : Int) true _ P.out.piles HSM.out HV.out).mono ?_
      rintro e w5 (⟨h, _⟩ | ⟨-, gt, G, rfl, hT, -, hb⟩)
      · cases h
      rw [Int.toNat_natCast] at hT ⊢
      have P := Lib.hid (P.out.below hb)
      have L1 := Lib.hid (L1.out.below hb)
      have T := Lib.hid hT
      have B := Lib.hid (B.out.trans (hb.mono B.out.size))
      clear hb hT
      go_wp2
      go_loopw [9, 10] (fun iv _ wr => ∃ i : Nat, i ≤ r.length ∧ iv = .int .i64 (i : Int) ∧ Dr w5 wr) (fun iv _ _ => r.length - (intOf iv).toNat)
      case atStart => exact ⟨0, Nat.zero_le _, rfl, Dr.refl _⟩
      case round =>
        obtain ⟨i, hi, rfl, hbi⟩ := hrel
        by_cases hlt : i < r.length
        · skip
          obtain ⟨x, hx, hbx, hxe⟩ : ∃ x, x < n ∧ ptopB (pairF xs) n x = true ∧ r[i]?.getD 0 = (x : Int) := by rw [HL.out] at hlt ⊢; exact cand_at hlt
          have HTX : Hid (IsTop (pairF xs) n x) := (ptopB_iff _ _ _).1 hbx
          obtain ⟨bL, oL, haL, hbL, hcL⟩ := (L1.out.dr hbi).get (by omega)
          subst haL
          have ki := hcL i hlt
          rw [hxe] at ki
          have hx0 : decide ((x : Int) < 0) = false := decide_eq_false (by omega)
          have hxn : decide ((n : Int) ≤ (x : Int)) = false := decide_eq_false (by omega)
          have hxn2 : decide (n ≤ x) = false := decide_eq_false (by omega)
          have hxi : (x : Int) < (n : Int) := by omega
          have hii : (i : Int) < (r.length : Int) := by omega
          rcases Nat.eq_zero_or_pos i with hi0 | hi0
          · have hg0 : decide ((0 : Int) < (i : Int)) = false := decide_eq_false (by omega)
            have hg1 : decide (0 < i) = false := decide_eq_false (by omega)
            clear hi0 hcL
            go_wp2_with fail
            go_quiet (fail)
            go_wp2
            go_loopw [10] (fun yv wr => ∃ y : Nat, y ≤ n ∧ yv = .int .i64 (y : Int) ∧ Dr w5 wr) (fun yv _ => n - (intOf yv).toNat)
            case atStart => exact ⟨0, Nat.zero_le _, rfl, hbi.drewN _⟩
            case round =>
              obtain ⟨y, hy, rfl, hby⟩ := hrel
              by_cases hlt2 : y < n
              · skip
                obtain ⟨t, ht⟩ : ∃ t, hasB r (y : Int) = t := ⟨_, rfl⟩
                have LL := Lib.hid (L1.out.dr hby)
                obtain ⟨bL2, oL2, haL2, _, hcL2⟩ := LL.out.get (by omega)
                injection haL2 with haL2
                injection haL2 with e1 e2
                subst e1
                subst e2
                have ki2 := hcL2 i hlt
                rw [hxe] at ki2
                clear hcL2
                have hyi : (y : Int) < (n : Int) := by omega
                cases t
                · skip
                  have hnt : ptopB (pairF xs) n y = false := by rw [← cand_hasB (B := ptopB (pairF xs) n) hlt2, ← HL.out]; exact ht
                  have hbeat : pairF xs y x < pairF xs x y := top_beats hx HTX.out (fun g => by rw [(ptopB_iff _ _ _).2 g] at hnt; cases hnt)
                  have U := Lib.hid (T.out.under (hby.below _))
                  have rU0 := U.out.row_cell hx (Nat.le_refl _)
                  have rU1 := U.out.row_cell hlt2 (Nat.le_refl _)
                  have kUp := U.out.cell hx hlt2
                  have kUq := U.out.cell hlt2 hx
                  obtain ⟨gU0, hgU0⟩ : ∃ gU0, G x = gU0 := ⟨_, rfl⟩
                  rw [hgU0] at rU0 kUp
                  clear hgU0
                  obtain ⟨gU1, hgU1⟩ : ∃ gU1, G y = gU1 := ⟨_, rfl⟩
                  rw [hgU1] at rU1 kUq
                  clear hgU1
                  obtain ⟨p, hp⟩ : ∃ p, pairF xs x y = p := ⟨_, rfl⟩
                  simp only [hp] at kUp
                  obtain ⟨q, hq⟩ : ∃ q, pairF xs y x = q := ⟨_, rfl⟩
                  simp only [hq] at kUq
                  have hle : decide (p ≤ q) = false := decide_eq_false (by rw [← hp, ← hq]; omega)
                  clear hp hq hnt hbeat
                  go_wp2_with fail
                  go_quiet (first | (go_at_call 28; exact quiet_same (hasInt_as8 _ _ _ r _ _ _ (LL.out.drewN _) ht)))
                  go_wp2
                  go_roundw
                  case rel => exact ⟨y + 1, by omega, by go_num, hby.drewN _⟩
                  case measure => simp [intOf]; omega
                · skip
                  go_wp2_with fail
                  go_quiet (first | (go_at_call 28; exact quiet_same (hasInt_as8 _ _ _ r _ _ _ (LL.out.drewN _) ht)))
                  go_wp2
                  go_roundw
                  case rel => exact ⟨y + 1, by omega, by go_num, hby.drewN _⟩
                  case measure => simp [intOf]; omega
              · obtain rfl : y = n := by omega
                go_wp2
                go_roundw
                case rel => exact ⟨i + 1, by omega, by go_num, hby⟩
                case measure => simp [intOf]; omega
          · obtain ⟨j, hj⟩ : ∃ j, i = j + 1 := ⟨i - 1, by omega⟩
            obtain ⟨x', hx', _, hxe'⟩ : ∃ x', x' < n ∧ ptopB (pairF xs) n x' = true ∧ r[j]?.getD 0 = (x' : Int) := by rw [HL.out] at hlt ⊢; exact cand_at (by omega)
            have hup : x' < x := by
              have h1 := hlt
              rw [HL.out] at h1 hxe hxe'
              rw [hj] at h1 hxe
              have := cand_up h1
              omega
            have kj := hcL j (by omega)
            rw [hxe'] at kj
            have hle' : decide ((x : Int) ≤ (x' : Int)) = false := decide_eq_false (by omega)
            have hle2 : decide (x ≤ x') = false := decide_eq_false (by omega)
            have hgt : decide ((0 : Int) < (i : Int)) = true := decide_eq_true (by omega)
            have hgt' : decide (0 < i) = true := decide_eq_true (by omega)
            have hij : (i : Int) - 1 = (j : Int) := by omega
            have hji : (j : Int) < (r.length : Int) := by omega
            clear hcL hi0 hj
            go_wp2_with fail
            go_quiet (fail)
            clear hij hgt hgt' hle' hle2
            go_wp2
            go_loopw [10] (fun yv wr => ∃ y : Nat, y ≤ n ∧ yv = .int .i64 (y : Int) ∧ Dr w5 wr) (fun yv _ => n - (intOf yv).toNat)
            case atStart => exact ⟨0, Nat.zero_le _, rfl, hbi.drewN _⟩
            case round =>
              obtain ⟨y, hy, rfl, hby⟩ := hrel
              by_cases hlt2 : y < n
              · skip
                obtain ⟨t, ht⟩ : ∃ t, hasB r (y : Int) = t := ⟨_, rfl⟩
                have LL := Lib.hid (L1.out.dr hby)
                obtain ⟨bL2, oL2, haL2, _, hcL2⟩ := LL.out.get (by omega)
                injection haL2 with haL2
                injection haL2 with e1 e2
                subst e1
                subst e2
                have ki2 := hcL2 i hlt
                rw [hxe] at ki2
                clear hcL2
                have hyi : (y : Int) < (n : Int) := by omega
                cases t
                · skip
                  have hnt : ptopB (pairF xs) n y = false := by rw [← cand_hasB (B := ptopB (pairF xs) n) hlt2, ← HL.out]; exact ht
                  have hbeat : pairF xs y x < pairF xs x y := top_beats hx HTX.out (fun g => by rw [(ptopB_iff _ _ _).2 g] at hnt; cases hnt)
                  have U := Lib.hid (T.out.under (hby.below _))
                  have rU0 := U.out.row_cell hx (Nat.le_refl _)
                  have rU1 := U.out.row_cell hlt2 (Nat.le_refl _)
                  have kUp := U.out.cell hx hlt2
                  have kUq := U.out.cell hlt2 hx
                  obtain ⟨gU0, hgU0⟩ : ∃ gU0, G x = gU0 := ⟨_, rfl⟩
                  rw [hgU0] at rU0 kUp
                  clear hgU0
                  obtain ⟨gU1, hgU1⟩ : ∃ gU1, G y = gU1 := ⟨_, rfl⟩
                  rw [hgU1] at rU1 kUq
                  clear hgU1
                  obtain ⟨p, hp⟩ : ∃ p, pairF xs x y = p := ⟨_, rfl⟩
                  simp only [hp] at kUp
                  obtain ⟨q, hq⟩ : ∃ q, pairF xs y x = q := ⟨_, rfl⟩
                  simp only [hq] at kUq
                  have hle : decide (p ≤ q) = false := decide_eq_false (by rw [← hp, ← hq]; omega)
                  clear hp hq hnt hbeat
                  go_wp2_with fail
                  go_quiet (first | (go_at_call 28; exact quiet_same (hasInt_as8 _ _ _ r _ _ _ (LL.out.drewN _) ht)))
                  go_wp2
                  go_roundw
                  case rel => exact ⟨y + 1, by omega, by go_num, hby.drewN _⟩
                  case measure => simp [intOf]; omega
                · skip
                  go_wp2_with fail
                  go_quiet (first | (go_at_call 28; exact quiet_same (hasInt_as8 _ _ _ r _ _ _ (LL.out.drewN _) ht)))
                  go_wp2
                  go_roundw
                  case rel => exact ⟨y + 1, by omega, by go_num, hby.drewN _⟩
                  case measure => simp [intOf]; omega
              · obtain rfl : y = n := by omega
                go_wp2
                go_roundw
                case rel => exact ⟨i + 1, by omega, by go_num, hby⟩
                case measure => simp [intOf]; omega
        · obtain rfl : i = r.length := by omega
          go_wp2
          go_ret
          exact ⟨rfl, B.out.trans (hbi.below _)⟩
  · clear w0
    go_enter Try.func7, Try.ntmps7
    go_wp2
    go_ret
    exact ⟨rfl, Below.refl _ _⟩

end Go.Proofs.Ytaaamidkfhabnaa.fnPairTop
