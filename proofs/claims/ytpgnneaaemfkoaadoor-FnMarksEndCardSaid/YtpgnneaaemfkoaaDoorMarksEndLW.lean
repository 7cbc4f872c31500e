/-
  laws.FnMarksEnd returns true for every code: on the ballot that impl.MarksRead returns of drawn marks are exactly the candidates with a mark less than the least one that two have. Condition: math/bits' two tables lie as their initialisers lay them; the given tie shows that they do.
-/
import Derived.Test.YtpgnneaaemfkoaaDoorOpen
import Derived.Test.YtpgnneaaemfkoaaDoorTab
import Derived.Test.YtpgnneaaemfkoaaDoorReadI
import Derived.Test.YtpgnneaaemfkoaaDoorReadQ
import Derived.Test.YtpgnneaaemfkoaaDoorDrawR
import Derived.Test.YtpgnneaaemfkoaaDoorSame
import Derived.Test.YtpgnneaaemfkoaaDoorHas
namespace Go.Proofs.YtpgnneaaemfkoaaDoor.fnMarksEndCard
open Go.RowKit
set_option linter.unusedVariables false


set_option maxHeartbeats 2000000 in
/-- The law's walk: it returns true, and writes nothing that was there. -/
theorem walk (a0 : Option Addr) (len0 cap0 : Nat) (z0 : List Int) (w : World) (w0 : IsRow .u8 w a0 len0 cap0 z0) (hT0 : Tab w) :
    Calls Tryd.prog 5 #[.slice a0 len0 cap0] w fun e w' => e = .returned (.bool true) ∧ Below w.heap.size w w' := by
  by_cases hl : len0 ≤ 1048576
  · have hcap := w0.cap
    have HB := Lib.hid w0.bytes
    have HT := Lib.hid hT0
    clear w0 hT0
    go_enter Tryd.func5, Tryd.ntmps5
    go_wp2_with fail
    refine (drawMarks_any a0 len0 cap0 _ _ HB.out hcap (by omega)).mono ?_
    rintro e w1 ⟨ms, a1, c1, rfl, ho, hz, hb⟩
    have I1 := Lib.hid (IsInts.of_owned ho (by omega)); clear ho
    have T1 := Lib.hid (HT.out.below hb)
    have B1 := Lib.hid hb; clear hb HB HT
    obtain ⟨pl, hpl⟩ : ∃ pl, readL ms = pl := ⟨_, rfl⟩
    obtain ⟨ok, hok⟩ : ∃ ok, rankB ms = ok := ⟨_, rfl⟩
    have hp5 : pl.length ≤ 9 := by rw [← hpl]; exact readL_short ms
    have HP := Lib.hid hpl
    have HK := Lib.hid hok
    clear hpl hok
    have he : eqB pl pl = true := eqB_self pl
    have hne : (ok != ok) = false := by cases ok <;> rfl
    have heq : (ok == ok) = true := by cases ok <;> rfl
    go_wp2_with fail
    refine (implRead_as _ _ _ ms pl ok _ I1.out T1.out HP.out HK.out).mono ?_
    rintro e w2 ⟨a2, c2, rfl, ho, hb⟩
    have I2 := Lib.hid (IsInts.of_owned ho (by omega)); clear ho
    have J2 := Lib.hid (I1.out.below hb)
    have T2 := Lib.hid (T1.out.below hb)
    have B2 := Lib.hid (B1.out.trans (hb.mono B1.out.size)); clear hb I1 B1 T1
    go_wp2_with fail
    refine (specRead_as _ _ _ ms pl ok _ J2.out HP.out HK.out).mono ?_
    rintro e w3 ⟨a3, c3, rfl, ho, hb⟩
    have I3 := Lib.hid (IsInts.of_owned ho (by omega)); clear ho
    have I2 := Lib.hid (I2.out.below hb)
    have J3 := Lib.hid (J2.out.below hb)
    have T3 := Lib.hid (T2.out.below hb)
    have B3 := Lib.hid (B2.out.trans (hb.mono B2.out.size)); clear hb J2 B2 T2
    go_wp2_with fail
    refine (sameInts_any _ _ _ pl _ _ _ pl _ I2.out I3.out).mono ?_
    rintro e w4 ⟨rfl, hd⟩
    have I2 := Lib.hid (I2.out.dr hd)
    have I3 := Lib.hid (I3.out.dr hd)
    have J4 := Lib.hid (J3.out.dr hd)
    have T4 := Lib.hid (T3.out.below (hd.below _))
    have B4 := Lib.hid (B3.out.trans (hd.below _)); clear hd B3 J3 T3
    cases hk : ok
    · subst hk
      go_wp2_with fail
      refine (sameInts_any _ _ _ pl _ _ _ pl _ I2.out I3.out).mono ?_
      rintro e w5 ⟨rfl, hd⟩
      have B5 := Lib.hid (B4.out.trans (hd.below _)); clear hd B4
      go_wp2
      go_ret
      exact ⟨rfl, B5.out⟩
    · subst hk
      obtain ⟨N, hN⟩ : ∃ N, ms.length = N := ⟨_, rfl⟩
      have hN5 := rankB_len HK.out
      rw [hN] at J4 hN5 ⊢
      obtain ⟨hN1, hN5⟩ := hN5
      have HN := Lib.hid hN
      obtain ⟨pn, hpn⟩ : ∃ pn, pl.length = pn := ⟨_, rfl⟩
      have HPN := Lib.hid hpn
      rw [hpn] at hp5 I2 ⊢
      clear hN hz hpn
      have HBL : Hid (∀ wr, Dr w4 wr → IsInts wr a1 N c1 ms ∧ IsInts wr a2 pn c2 pl) := fun wr hd => ⟨J4.out.dr hd, I2.out.dr hd⟩
      go_wp2
      go_loopw [8, 9] (fun l i wr => ∃ (k : Nat) (L : Int), k ≤ N ∧ i = .int .i64 k ∧ l = .int .i64 L ∧ 1 ≤ L ∧ L ≤ 10 ∧ Hid (Least ms k 0 L) ∧ Dr w4 wr) (fun _ i _ => N - (intOf i).toNat)
      case atStart => exact ⟨0, 10, Nat.zero_le _, rfl, rfl, by omega, by omega, least_start ms, Dr.refl _⟩
      case round =>
        obtain ⟨i, L, hiN, rfl, rfl, hL1, hL10, hle, hd⟩ := hrel
        by_cases hlt : i < N
        · go_wp2
          go_loopw [8, 10] (fun l k wq => ∃ (j : Nat) (L : Int), j ≤ i ∧ k = .int .i64 j ∧ l = .int .i64 L ∧ 1 ≤ L ∧ L ≤ 10 ∧ Hid (Least ms i j L) ∧ Dr w4 wq) (fun _ k _ => i - (intOf k).toNat)
          case atStart => exact ⟨0, L, Nat.zero_le _, rfl, rfl, hL1, hL10, hle, hd⟩
          case round =>
            obtain ⟨j, M, hji, rfl, rfl, hM1, hM10, hlm, hd2⟩ := hrel
            by_cases hlt2 : j < i
            · obtain ⟨-, -, -, h4⟩ := (HBL.out _ hd2).1
              obtain ⟨b, off, rfl, hb, hcell⟩ := h4 (by omega)
              have hci := hcell i hlt
              have hcj := hcell j (by omega)
              have hat := rankB_at HK.out i (by rw [HN.out]; exact hlt)
              obtain ⟨z, hz⟩ : ∃ z, ms[i]?.getD 0 = z := ⟨_, rfl⟩
              obtain ⟨y, hy⟩ : ∃ y, ms[j]?.getD 0 = y := ⟨_, rfl⟩
              rw [hz] at hci hat
              rw [hy] at hcj
              obtain ⟨hat0, hat9⟩ := hat
              have HZ := Lib.hid hz
              have HY := Lib.hid hy
              clear h4 hcell hz hy
              by_cases hc : z = y ∧ 0 < z
              · obtain ⟨rfl, hp⟩ := hc
                have hb1 : (z == z) = true := by simp
                have hb2 : decide (0 < z) = true := by simpa using hp
                have HM := hlm.out.take hlt2 (by rw [HN.out]; exact hlt) (by rw [HZ.out, HY.out]) (by rw [HZ.out]; exact hp)
                rw [HZ.out] at HM
                have HM := Lib.hid HM
                go_wp2
                go_quiet (fail)
                go_wp2
                go_roundw
                case rel => exact ⟨j + 1, if z < M then z else M, by omega, by go_num, rfl, by split <;> omega, by split <;> omega, HM, hd2.drewN _⟩
                case measure => simp [intOf]; omega
              · have HM := Lib.hid (hlm.out.skip (by rw [HZ.out, HY.out]; exact hc))
                by_cases hzy : z = y
                · have hp : ¬ 0 < z := fun h => hc ⟨hzy, h⟩
                  have hb1 : (z == y) = true := by simpa using hzy
                  have hb2 : decide (0 < z) = false := by simpa using hp
                  clear hzy hc
                  go_wp2
                  go_quiet (fail)
                  go_wp2
                  go_roundw
                  case rel => exact ⟨j + 1, M, by omega, by go_num, rfl, hM1, hM10, HM, hd2.drewN _⟩
                  case measure => simp [intOf]; omega
                · have hb1 : (z == y) = false := by simpa using hzy
                  clear hzy hc
                  go_wp2
                  go_quiet (fail)
                  go_wp2
                  go_roundw
                  case rel => exact ⟨j + 1, M, by omega, by go_num, rfl, hM1, hM10, HM, hd2.drewN _⟩
                  case measure => simp [intOf]; omega
            · have HM := Lib.hid (hlm.out.row (by omega))
              go_wp2
              go_roundw
              case rel => exact ⟨i + 1, M, by omega, by go_num, rfl, hM1, hM10, HM, hd2⟩
              case measure => simp [intOf]; omega
        · obtain rfl : i = N := by omega
          have hend : ∀ c, c < i → hasB pl (c : Int) = decide (0 < ms[c]?.getD 0 ∧ ms[c]?.getD 0 < L) := fun c hc => by
            rw [← HP.out]
            exact read_end HK.out (by rw [HN.out]; exact hle.out) c (by rw [HN.out]; exact hc)
          have HE := Lib.hid hend
          clear hend
          go_wp2
          go_loopw [11] (fun k wq => ∃ j : Nat, j ≤ i ∧ k = .int .i64 j ∧ Dr w4 wq) (fun k _ => i - (intOf k).toNat)
          case atStart => exact ⟨0, Nat.zero_le _, rfl, hd⟩
          case round =>
            obtain ⟨j, hji, rfl, hd2⟩ := hrel
            by_cases hlt2 : j < i
            · obtain ⟨hJ, hI⟩ := HBL.out _ hd2
              obtain ⟨-, -, -, h4⟩ := hJ
              obtain ⟨b, off, rfl, hb, hcell⟩ := h4 (by omega)
              have hcj := hcell j hlt2
              have hej := HE.out j hlt2
              obtain ⟨z, hz⟩ : ∃ z, ms[j]?.getD 0 = z := ⟨_, rfl⟩
              rw [hz] at hcj hej
              obtain ⟨hh, hhh⟩ : ∃ hh, hasB pl (j : Int) = hh := ⟨_, rfl⟩
              rw [hhh] at hej
              have HH := Lib.hid hhh
              have HI := Lib.hid hI
              clear h4 hcell hI hz hhh
              by_cases hp : 0 < z
              · have hb1 : decide (0 < z) = true := by simpa using hp
                by_cases hq : z < L
                · have hb2 : decide (z < L) = true := by simpa using hq
                  have hej2 : hh = true := by rw [hej]; simp; omega
                  subst hej2
                  clear hej
                  go_wp2
                  go_quiet (first | (go_at_call 16; exact quiet_same (hasInt_as _ _ _ pl (j : Int) _ _ (HI.out.drewN _) HH.out)))
                  go_wp2
                  go_roundw
                  case rel => exact ⟨j + 1, by omega, by go_num, hd2.drewN _⟩
                  case measure => simp [intOf]; omega
                · have hb2 : decide (z < L) = false := by simpa using hq
                  have hej2 : hh = false := by rw [hej]; simp; omega
                  subst hej2
                  clear hej
                  go_wp2
                  go_quiet (first | (go_at_call 16; exact quiet_same (hasInt_as _ _ _ pl (j : Int) _ _ (HI.out.drewN _) HH.out)))
                  go_wp2
                  go_roundw
                  case rel => exact ⟨j + 1, by omega, by go_num, hd2.drewN _⟩
                  case measure => simp [intOf]; omega
              · have hb1 : decide (0 < z) = false := by simpa using hp
                have hej2 : hh = false := by rw [hej]; simp; omega
                subst hej2
                clear hej
                go_wp2
                go_quiet (first | (go_at_call 16; exact quiet_same (hasInt_as _ _ _ pl (j : Int) _ _ (HI.out.drewN _) HH.out)))
                go_wp2
                go_roundw
                case rel => exact ⟨j + 1, by omega, by go_num, hd2.drewN _⟩
                case measure => simp [intOf]; omega
            · obtain rfl : j = i := by omega
              go_wp2
              go_ret
              exact ⟨rfl, B4.out.trans (hd2.below _)⟩
  · have hl' : (1048576 : Int) < (len0 : Int) := by omega
    clear w0 hT0
    go_enter Tryd.func5, Tryd.ntmps5
    go_wp2
    go_ret
    exact ⟨rfl, Below.refl _ _⟩

end Go.Proofs.YtpgnneaaemfkoaaDoor.fnMarksEndCard
