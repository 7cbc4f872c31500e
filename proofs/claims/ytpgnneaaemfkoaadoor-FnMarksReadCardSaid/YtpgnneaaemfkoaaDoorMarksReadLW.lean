/-
  laws.FnMarksRead returns true for every code: what impl.MarksRead returns of drawn marks is a ballot for as many candidates, with ascending marks that nobody else has. Condition: math/bits' two tables lie as their initialisers lay them; the given tie shows that they do.
-/
import Derived.Test.YtpgnneaaemfkoaaDoorOpen
import Derived.Test.YtpgnneaaemfkoaaDoorTab
import Derived.Test.YtpgnneaaemfkoaaDoorReadI
import Derived.Test.YtpgnneaaemfkoaaDoorReadQ
import Derived.Test.YtpgnneaaemfkoaaDoorDrawR
import Derived.Test.YtpgnneaaemfkoaaDoorSame
import Derived.Test.YtpgnneaaemfkoaaDoorHas
namespace Go.Proofs.YtpgnneaaemfkoaaDoor.fnMarksReadCard
open Go.RowKit
set_option linter.unusedVariables false


set_option maxRecDepth 100000 in
set_option maxHeartbeats 2000000 in
/-- The law's walk: it returns true, and writes nothing that was there. -/
theorem walk (a0 : Option Addr) (len0 cap0 : Nat) (z0 : List Int) (w : World) (w0 : IsRow .u8 w a0 len0 cap0 z0) (hT0 : Tab w) :
    Calls Tryd.prog 4 #[.slice a0 len0 cap0] w fun e w' => e = .returned (.bool true) ∧ Below w.heap.size w w' := by
  by_cases hl : len0 ≤ 1048576
  · have hcap := w0.cap
    have HB := Lib.hid w0.bytes
    have HT := Lib.hid hT0
    clear w0 hT0
    go_enter Tryd.func4, Tryd.ntmps4
    go_wp2_with fail
    refine (drawMarks_any a0 len0 cap0 _ _ HB.out hcap (by omega)).mono ?_
    rintro e w1 ⟨ms, a1, c1, rfl, ho, hz, hb⟩
    have I1 := Lib.hid (IsInts.of_owned ho (by omega)); clear ho
    have T1 := Lib.hid (HT.out.below hb)
    have B1 := Lib.hid hb; clear hb HB HT
    obtain ⟨pl, hpl⟩ : ∃ pl, readL ms = pl := ⟨_, rfl⟩
    obtain ⟨ok, hok⟩ : ∃ ok, rankB ms = ok := ⟨_, rfl⟩
    have hp5 : pl.length ≤ 9 := by rw [← hpl]; exact readL_short ms
    have HP := Lib.hid hpl
    have HK := Lib.hid hok
    clear hpl hok
    have he : eqB pl pl = true := eqB_self pl
    have hne : (ok != ok) = false := by cases ok <;> rfl
    have heq : (ok == ok) = true := by cases ok <;> rfl
    go_wp2_with fail
    refine (implRead_as _ _ _ ms pl ok _ I1.out T1.out HP.out HK.out).mono ?_
    rintro e w2 ⟨a2, c2, rfl, ho, hb⟩
    have I2 := Lib.hid (IsInts.of_owned ho (by omega)); clear ho
    have J2 := Lib.hid (I1.out.below hb)
    have T2 := Lib.hid (T1.out.below hb)
    have B2 := Lib.hid (B1.out.trans (hb.mono B1.out.size)); clear hb I1 B1 T1
    go_wp2_with fail
    refine (specRead_as _ _ _ ms pl ok _ J2.out HP.out HK.out).mono ?_
    rintro e w3 ⟨a3, c3, rfl, ho, hb⟩
    have I3 := Lib.hid (IsInts.of_owned ho (by omega)); clear ho
    have I2 := Lib.hid (I2.out.below hb)
    have J3 := Lib.hid (J2.out.below hb)
    have T3 := Lib.hid (T2.out.below hb)
    have B3 := Lib.hid (B2.out.trans (hb.mono B2.out.size)); clear hb J2 B2 T2
    go_wp2_with fail
    refine (sameInts_any _ _ _ pl _ _ _ pl _ I2.out I3.out).mono ?_
    rintro e w4 ⟨rfl, hd⟩
    have I2 := Lib.hid (I2.out.dr hd)
    have I3 := Lib.hid (I3.out.dr hd)
    have J4 := Lib.hid (J3.out.dr hd)
    have T4 := Lib.hid (T3.out.below (hd.below _))
    have B4 := Lib.hid (B3.out.trans (hd.below _)); clear hd B3 J3 T3
    cases hk : ok
    · subst hk
      go_wp2_with fail
      refine (sameInts_any _ _ _ pl _ _ _ pl _ I2.out I3.out).mono ?_
      rintro e w5 ⟨rfl, hd⟩
      have B5 := Lib.hid (B4.out.trans (hd.below _)); clear hd B4
      go_wp2
      go_ret
      exact ⟨rfl, B5.out⟩
    · subst hk
      obtain ⟨N, hN⟩ : ∃ N, ms.length = N := ⟨_, rfl⟩
      have hN5 := rankB_len HK.out
      rw [hN] at J4 hN5 ⊢
      obtain ⟨hN1, hN5⟩ := hN5
      have HN := Lib.hid hN
      obtain ⟨pn, hpn⟩ : ∃ pn, pl.length = pn := ⟨_, rfl⟩
      have HPN := Lib.hid hpn
      rw [hpn] at hp5 I2 ⊢
      clear hN hz hpn
      have hgood := read_good HK.out
      rw [HP.out] at hgood
      have hv := read_ballot HK.out
      rw [HP.out, HN.out] at hv
      have hat : ∀ i, i < pn → ∃ r c : Nat, 1 ≤ r ∧ r ≤ 9 ∧ pl[i]?.getD 0 = (c : Int) ∧ c < N ∧ ms[c]?.getD 0 = (r : Int) ∧ (∀ j, j < N → j ≠ c → ms[j]?.getD 0 ≠ (r : Int)) ∧
          (0 < i → ∃ q c' : Nat, q < r ∧ pl[i - 1]?.getD 0 = (c' : Int) ∧ c' < N ∧ ms[c']?.getD 0 = (q : Int)) := fun i hi => by
        obtain ⟨r, h1, h2, h3⟩ := hgood.at i (by rw [HPN.out]; exact hi)
        obtain ⟨c, e, hc, hz, hu⟩ := withL_one h2
        have h9 := rankB_at HK.out c hc
        rw [HN.out] at hc hu
        refine ⟨r, c, h1, by omega, e, hc, hz, fun j hj hne h => hne (hu j hj h), fun hp => ?_⟩
        obtain ⟨q, g1, g2⟩ := h3 hp
        obtain ⟨c', e', hc', hz', _⟩ := withL_one g2
        exact ⟨q, c', g1, e', by rw [HN.out] at hc'; exact hc', hz'⟩
      have HAT := Lib.hid hat
      have HV := Lib.hid hv
      clear hgood hv hat
      have HBL : Hid (∀ wr, Dr w4 wr → IsInts wr a1 N c1 ms ∧ IsInts wr a2 pn c2 pl) := fun wr hd => ⟨J4.out.dr hd, I2.out.dr hd⟩
      go_wp2
      go_loopw [8] (fun i wr => ∃ k : Nat, k ≤ pn ∧ i = .int .i64 k ∧ Dr w4 wr) (fun i _ => pn - (intOf i).toNat)
      case atStart => exact ⟨0, Nat.zero_le _, rfl, Dr.refl _⟩
      case round =>
        obtain ⟨i, hiN, rfl, hd⟩ := hrel
        by_cases hlt : i < pn
        · obtain ⟨r, c, hr1, hr9, hic, hcN, hcz, huniq, hprev⟩ := HAT.out i hlt
          have HIC := Lib.hid hic
          have HCZ := Lib.hid hcz
          have HU := Lib.hid huniq
          clear huniq
          obtain ⟨hJ, hI⟩ := HBL.out _ hd
          obtain ⟨-, -, -, h4⟩ := hJ
          obtain ⟨-, -, -, g4⟩ := hI
          obtain ⟨bm, om, rfl, hbm, hcm⟩ := h4 (by omega)
          obtain ⟨bo, oo, rfl, hbo, hco⟩ := g4 (by omega)
          have hx1 := hco i hlt
          have hx2 := hcm c hcN
          rw [hic] at hx1
          rw [hcz] at hx2
          have hb1 : decide ((c : Int) < 0) = false := decide_eq_false (by omega)
          have hb2 : decide ((N : Int) ≤ (c : Int)) = false := decide_eq_false (by omega)
          have hb3 : ((r : Int) == 0) = false := by simp; omega
          have hb2n : decide (N ≤ c) = false := decide_eq_false (by omega)
          clear hic hcz
          rcases Nat.eq_zero_or_pos i with hi0 | hi0
          case' inl =>
            have hb4 : decide (0 < (i : Int)) = false := decide_eq_false (by omega)
            have hb4n : decide (0 < i) = false := decide_eq_false (by omega)
            clear h4 g4 hprev hcm hco hi0
          case' inr =>
            obtain ⟨q, c', hqr, hpc, hcN', hcz'⟩ := hprev hi0
            have hb4 : decide (0 < (i : Int)) = true := decide_eq_true (by omega)
            have hb4n : decide (0 < i) = true := decide_eq_true (by omega)
            have hx3 := hco (i - 1) (by omega)
            rw [hpc] at hx3
            have hx4 := hcm c' hcN'
            rw [hcz'] at hx4
            obtain ⟨p, hp⟩ : ∃ p, i - 1 = p := ⟨_, rfl⟩
            rw [hp] at hx3
            have hsub : IntKind.i64.wrap ((i : Int) - 1) = (p : Int) := by rw [IntWalk.i64_in _ (by omega)]; omega
            have hpN : p < pn := by omega
            have hb5 : decide ((r : Int) ≤ (q : Int)) = false := decide_eq_false (by omega)
            have hb5n : decide (r ≤ q) = false := decide_eq_false (by omega)
            clear h4 g4 hprev hcm hco hpc hcz' hp hi0
          all_goals
            go_wp2
            go_quiet (fail)
            go_wp2
            obtain ⟨wn, hwn⟩ : ∃ wn, wr.drewN nq = wn := ⟨_, rfl⟩
            have hdn : Dr w4 wn := by rw [← hwn]; exact hd.drewN _
            rw [hwn]
            clear hwn hx1 hx2 hb1 hb2 hb2n hb3 hb4 hb4n
            try clear hx3 hx4 hsub hb5 hb5n
            go_loopw [9] (fun kk wq => ∃ j : Nat, j ≤ N ∧ kk = .int .i64 j ∧ Dr w4 wq) (fun kk _ => N - (intOf kk).toNat)
            case atStart => exact ⟨0, Nat.zero_le _, rfl, hdn⟩
            case round =>
              obtain ⟨j, hjN, rfl, hd2⟩ := hrel
              by_cases hlt2 : j < N
              · obtain ⟨hJ2, hI2⟩ := HBL.out _ hd2
                obtain ⟨-, -, -, h42⟩ := hJ2
                obtain ⟨-, -, -, g42⟩ := hI2
                obtain ⟨bm2, om2, e1, hbm2, hcm2⟩ := h42 (by omega)
                cases e1
                obtain ⟨bo2, oo2, e2, hbo2, hco2⟩ := g42 (by omega)
                cases e2
                have hy1 := hco2 i hlt
                rw [HIC.out] at hy1
                have hy2 := hcm2 c hcN
                rw [HCZ.out] at hy2
                have hy3 := hcm2 j hlt2
                by_cases hjc : j = c
                · subst hjc
                  rw [HCZ.out] at hy3
                  have hb6 : ((j : Int) != (j : Int)) = false := by simp
                  clear h42 g42 hcm2 hco2
                  go_wp2
                  go_quiet (fail)
                  go_wp2
                  go_roundw
                  case rel => exact ⟨j + 1, by omega, by go_num, hd2.drewN _⟩
                  case measure => simp [intOf]; omega
                · have hz := HU.out j hlt2 hjc
                  obtain ⟨z, hzz⟩ : ∃ z, ms[j]?.getD 0 = z := ⟨_, rfl⟩
                  rw [hzz] at hy3 hz
                  have hb6 : ((j : Int) != (c : Int)) = true := by rw [bne_iff_ne]; omega
                  have hb7 : (z == (r : Int)) = false := by simpa using hz
                  clear h42 g42 hcm2 hco2 hz hzz
                  go_wp2
                  go_quiet (fail)
                  go_wp2
                  go_roundw
                  case rel => exact ⟨j + 1, by omega, by go_num, hd2.drewN _⟩
                  case measure => simp [intOf]; omega
              · obtain rfl : j = N := by omega
                go_wp2
                go_roundw
                case rel => exact ⟨i + 1, by omega, by go_num, hd2⟩
                case measure => simp [intOf]; omega
        · obtain rfl : i = pn := by omega
          go_wp2_with fail
          refine (implValid_any _ _ _ pl _ _ (HBL.out _ hd).2).mono ?_
          rintro e w6 ⟨he2, hb⟩
          rw [HV.out] at he2
          subst he2
          go_wp2
          go_ret
          have B5 := B4.out.trans (hd.below _)
          exact ⟨rfl, B5.trans (hb.mono B5.size)⟩
  · have hl' : (1048576 : Int) < (len0 : Int) := by omega
    clear w0 hT0
    go_enter Tryd.func4, Tryd.ntmps4
    go_wp2
    go_ret
    exact ⟨rfl, Below.refl _ _⟩

end Go.Proofs.YtpgnneaaemfkoaaDoor.fnMarksReadCard
