/-
  laws.FnMarksAgree returns true for every code: more than half of the drawn readers have read each mark that impl.MarksAgree returns, and there is one for each candidate. No condition.
-/
import Derived.Test.YtpgnneaaemfkoaaOpen
import Derived.Test.YtpgnneaaemfkoaaAgreeI
import Derived.Test.YtpgnneaaemfkoaaDrawG
import Derived.Test.YtpgnneaaemfkoaaSame
namespace Go.Proofs.Ytpgnneaaemfkoaa.fnMarksAgree
open Go.RowKit
set_option linter.unusedVariables false

/-- What is agreed on at a place. -/
theorem agreed_at {rs : List (List Int)} (h : agreeB rs = true) (c : Nat) (hc : c < (agreeL rs).length) : rs.length < 2 * cnt rs c ((agreeL rs)[c]?.getD 0) ∧ Wide rs c := by
  have hl : (agreeL rs).length = (headL rs).length := by rw [agreeL_yes h, bests_length]
  rw [hl] at hc
  obtain ⟨m, hm, e, h2⟩ := have_at h c hc
  rw [agreeL_yes h, bests_at rs c hc, e]
  exact ⟨h2, wide_of (agreeB_both h).1 c hc⟩

set_option maxHeartbeats 2000000 in
/-- The law's walk: it returns true, and writes nothing that was there. -/
theorem walk (a0 : Option Addr) (len0 cap0 : Nat) (z0 : List Int) (w : World) (w0 : IsRow .u8 w a0 len0 cap0 z0) :
    Calls Try.prog 3 #[.slice a0 len0 cap0] w fun e w' => e = .returned (.bool true) ∧ Below w.heap.size w w' := by
  by_cases hl : len0 ≤ 1048576
  · have hcap := w0.cap
    have HB := Lib.hid w0.bytes; clear w0
    go_enter Try.func3, Try.ntmps3
    go_wp2_with fail
    refine (drawAgree_any a0 len0 cap0 _ _ HB.out hcap (by omega)).mono ?_
    rintro e w1 ⟨rs, a1, c1, rfl, hI, hz, hb⟩
    have I1 := Lib.hid hI; clear hI
    have B1 := Lib.hid hb; clear hb HB
    obtain ⟨pl, hpl⟩ : ∃ pl, agreeL rs = pl := ⟨_, rfl⟩
    obtain ⟨ok, hok⟩ : ∃ ok, agreeB rs = ok := ⟨_, rfl⟩
    have hp5 : pl.length ≤ 5 := by rw [← hpl]; exact agreeL_short rs
    have HP := Lib.hid hpl
    have HK := Lib.hid hok
    clear hpl hok
    have he : eqB pl pl = true := eqB_self pl
    have hne : (ok != ok) = false := by cases ok <;> rfl
    have heq : (ok == ok) = true := by cases ok <;> rfl
    go_wp2_with fail
    refine (implAgree_as _ _ _ rs pl ok _ I1.out HP.out HK.out).mono ?_
    rintro e w2 ⟨a2, c2, rfl, ho, hb⟩
    have I2 := Lib.hid (IsInts.of_owned ho (by omega)); clear ho
    have J2 := Lib.hid (I1.out.below hb)
    have B2 := Lib.hid (B1.out.trans (hb.mono B1.out.size)); clear hb I1 B1
    go_wp2_with fail
    refine (specAgree_as _ _ _ rs pl ok _ J2.out HP.out HK.out).mono ?_
    rintro e w3 ⟨a3, c3, rfl, ho, hb⟩
    have I3 := Lib.hid (IsInts.of_owned ho (by omega)); clear ho
    have I2 := Lib.hid (I2.out.below hb)
    have J3 := Lib.hid (J2.out.below hb)
    have B3 := Lib.hid (B2.out.trans (hb.mono B2.out.size)); clear hb J2 B2
    go_wp2_with fail
    refine (sameInts_any _ _ _ pl _ _ _ pl _ I2.out I3.out).mono ?_
    rintro e w4 ⟨rfl, hd⟩
    have I2 := Lib.hid (I2.out.dr hd)
    have I3 := Lib.hid (I3.out.dr hd)
    have J4 := Lib.hid (J3.out.dr hd)
    have B4 := Lib.hid (B3.out.trans (hd.below _)); clear hd B3 J3
    cases hk : ok
    · subst hk
      go_wp2_with fail
      refine (sameInts_any _ _ _ pl _ _ _ pl _ I2.out I3.out).mono ?_
      rintro e w5 ⟨rfl, hd⟩
      have B5 := Lib.hid (B4.out.trans (hd.below _)); clear hd B4
      go_wp2
      go_ret
      exact ⟨rfl, B5.out⟩
    · subst hk
      obtain ⟨N, hN⟩ : ∃ N, rs.length = N := ⟨_, rfl⟩
      have hN1 : 1 ≤ N := by rw [← hN]; exact (readB_len (agreeB_both HK.out).1).1
      have hat : ∀ c, c < pl.length → N < 2 * cnt rs c (pl[c]?.getD 0) ∧ Wide rs c := fun c hc => by rw [← HP.out, ← hN]; exact agreed_at HK.out c (by rw [HP.out]; exact hc)
      have hhd : (headL rs).length = pl.length := by rw [← HP.out, agreeL_yes HK.out, bests_length]
      rw [hN] at J4 hz ⊢
      have HN := Lib.hid hN
      have HAT := Lib.hid hat
      have HHD := Lib.hid hhd
      clear hN hat hhd
      obtain ⟨pn, hpn⟩ : ∃ pn, pl.length = pn := ⟨_, rfl⟩
      have hpnI : (pl.length : Int) = (pn : Int) := by rw [hpn]
      rw [hpn] at hp5 HAT HHD I2 ⊢
      have HPN := Lib.hid hpn
      clear hpn hpnI
      go_wp2
      go_loopw [8] (fun i wr => ∃ c : Nat, c ≤ pn ∧ i = .int .i64 c ∧ Dr w4 wr) (fun i _ => pn - (intOf i).toNat)
      case atStart => exact ⟨0, Nat.zero_le _, rfl, Dr.refl _⟩
      case round =>
        obtain ⟨c, hcn, rfl, hd⟩ := hrel
        have JR := Lib.hid (J4.out.dr hd)
        obtain ⟨-, -, -, h4⟩ := JR.out
        obtain ⟨b, off, rfl, hb, hcell⟩ := h4 (by omega)
        have HC := Lib.hid hcell
        clear h4 hcell
        by_cases hlt : c < pn
        · obtain ⟨hbest, hwide⟩ := HAT.out c hlt
          obtain ⟨-, -, -, g4⟩ := I2.out.dr hd
          obtain ⟨b2, o2, rfl, hb2, hcell2⟩ := g4 (by omega)
          have hv := hcell2 c hlt
          obtain ⟨v, hvv⟩ : ∃ v, pl[c]?.getD 0 = v := ⟨_, rfl⟩
          rw [hvv] at hv hbest
          have HBE := Lib.hid hbest
          have HW := Lib.hid hwide
          clear g4 hcell2 hbest hwide hvv
          go_wp2
          go_loopw [9, 10] (fun n i wq => ∃ k q : Nat, k ≤ N ∧ q ≤ k ∧ i = .int .i64 k ∧ n = .int .i64 q ∧ Hid (q = cnt (rs.take k) c v) ∧ Dr wr wq) (fun _ i _ => N - (intOf i).toNat)
          case atStart => exact ⟨0, 0, Nat.zero_le _, Nat.le_refl _, rfl, rfl, by simp [Hid, cnt], Dr.refl _⟩
          case round =>
            obtain ⟨k, q, hk, hq, rfl, rfl, hc, hd2⟩ := hrel
            by_cases hltk : k < N
            · obtain ⟨aj, lj, cj, hcj, hI⟩ := HC.out k hltk
              have hwj := HW.out k (by rw [HN.out]; exact hltk)
              have hwl : c < lj := by rw [← hI.1]; exact hwj
              obtain ⟨bj, oj, rfl, hbj, hcellj⟩ := hI.2.2.2 (by omega)
              have hz2 := hcellj c hwl
              have hcj' := (Below.cell (p := ⟨b, off + k, none⟩) (hd2.below _) hb).trans hcj
              have hz2' := (Below.cell (p := ⟨bj, oj + c, none⟩) (hd2.below _) hbj).trans hz2
              have hv' := (Below.cell (p := ⟨b2, o2 + c, none⟩) (hd2.below _) hb2).trans hv
              have HS := Lib.hid (cnt_take rs c v k (by rw [HN.out]; exact hltk))
              have hlj := hI.2.2.1
              obtain ⟨z, hzz⟩ : ∃ z, (rs[k]?.getD [])[c]?.getD 0 = z := ⟨_, rfl⟩
              rw [hzz] at hz2' HS
              clear hI hcellj hwj hz2 hcj hzz hv
              by_cases heq : z = v
              · subst heq
                have hb1 : (z == z) = true := by simp
                go_wp2
                go_quiet (fail)
                go_wp2
                go_roundw
                case rel => exact ⟨k + 1, q + 1, by omega, by omega, by go_num, by go_num, by unfold Hid; rw [HS.out, hc.out]; simp, hd2.drewN _⟩
                case measure => simp [intOf]; omega
              · have hb1 : (z == v) = false := by simpa using heq
                have HE := Lib.hid heq; clear heq
                go_wp2
                go_quiet (fail)
                go_wp2
                go_roundw
                case rel => exact ⟨k + 1, q, by omega, by omega, by go_num, rfl, by unfold Hid; rw [HS.out, if_neg HE.out, hc.out]; rfl, hd2.drewN _⟩
                case measure => simp [intOf]; omega
            · obtain rfl : k = N := by omega
              have hqc : k < 2 * q := by
                have h5 := hc.out
                rw [← HN.out, cnt_all] at h5
                rw [h5]; exact HBE.out
              have hqi : (k : Int) < 2 * (q : Int) := by omega
              go_wp2
              go_roundw
              case rel => exact ⟨c + 1, by omega, by go_num, hd.trans hd2⟩
              case measure => simp [intOf]; omega
        · obtain rfl : c = pn := by omega
          obtain ⟨a9, l9, c9, hc9, hI9⟩ := HC.out 0 (by omega)
          rw [Nat.add_zero] at hc9
          obtain rfl : c = l9 := by rw [← HHD.out]; exact hI9.1
          have hbe : ((c : Int) == (c : Int)) = true := by simp
          clear hI9
          go_wp2
          go_ret
          exact ⟨rfl, B4.out.trans (hd.below _)⟩
  · have hl' : (1048576 : Int) < (len0 : Int) := by omega
    clear w0
    go_enter Try.func3, Try.ntmps3
    go_wp2
    go_ret
    exact ⟨rfl, Below.refl _ _⟩

end Go.Proofs.Ytpgnneaaemfkoaa.fnMarksAgree
