/-
  laws.FnPilesAddTwo returns true for every code and every choice: ballots may be added one after the other. No condition.
-/
import Derived.Test.YtdmjgicopnihgaaOpen
import Derived.Test.YtdmjgicopnihgaaLawP
namespace Go.Proofs.Ytdmjgicopnihgaa.fnPilesAddTwo
open Go.RowKit
set_option linter.unusedVariables false


set_option maxRecDepth 100000 in
set_option maxHeartbeats 2000000 in
/-- The law's walk: it returns true, and writes nothing that was there. -/
theorem walk (a0 : Option Addr) (len0 cap0 : Nat) (z0 : List Int) (a1 : Option Addr) (len1 cap1 : Nat) (z1 : List Int) (w : World) (w0 : IsRow .u8 w a0 len0 cap0 z0) (w1 : IsRow .u8 w a1 len1 cap1 z1) :
    Calls Try.prog 4 #[.slice a0 len0 cap0, .slice a1 len1 cap1] w fun e w' => e = .returned (.bool true) ∧ Below w.heap.size w w' := by
  by_cases hl : len0 ≤ 1048576 ∧ len1 ≤ 1048576
  · obtain ⟨hl, hl1⟩ := hl
    have hcap := w0.cap
    have HB := Lib.hid w0.bytes; clear w0 w1
    go_enter Try.func4, Try.ntmps4
    go_wp2_with fail
    refine (drawPA_any a0 len0 cap0 _ _ HB.out hcap (by omega)).mono ?_
    rintro e w1 ⟨xs, g, c, t, m, rfl, hp, hts, hm, hb⟩
    have P := Lib.hid (hp)
    have B := Lib.hid hb
    clear hb HB
    have HSM := Lib.hid P.out.2.1
    have hl13 := P.out.2.2.2
    clear hp
    obtain ⟨r, hr⟩ : ∃ r, addL xs t m = r := ⟨_, rfl⟩
    obtain ⟨ok, hok⟩ : ∃ ok, addB xs t m = ok := ⟨_, rfl⟩
    have Hr := Lib.hid hr
    have Hok := Lib.hid hok
    have hrc := of_cases (addL_cases xs t m)
    rw [hr] at hrc
    have hr12 := hrc.1
    have HSR := Lib.hid hrc.2
    have he : eqP r r = true := eqP_self r
    have hne : (ok != ok) = false := by cases ok <;> rfl
    have heq : (ok == ok) = true := by cases ok <;> rfl
    clear hr hok hrc
    go_wp2_with fail
    refine (implAdd_as _ _ _ xs t m r ok _ P.out.piles HSM.out hts Hr.out Hok.out).mono ?_
    rintro e w2 ⟨a2, c2, rfl, ho, hb, hn⟩
    have P := Lib.hid (P.out.below hb)
    have I2 := Lib.hid (IsPiles.of_owned ho (by omega))
    have B := Lib.hid (B.out.trans (hb.mono B.out.size))
    clear ho hn
    clear hb
    go_wp2_with fail
    refine (specAdd_as g 0 _ c xs t m r ok _ P.out.piles P.out.lt HSM.out hts Hr.out Hok.out).mono ?_
    rintro e w3 ⟨a3, c3, rfl, ho, hb, hn⟩
    have P := Lib.hid (P.out.below hb)
    have I2 := Lib.hid (I2.out.below hb)
    have I3 := Lib.hid (IsPiles.of_owned ho (by omega))
    have B := Lib.hid (B.out.trans (hb.mono B.out.size))
    clear ho hn
    clear hb
    go_wp2_with fail
    refine (samePiles_as _ _ _ r _ _ _ r true _ I2.out I3.out he).mono ?_
    rintro e w4 ⟨rfl, hd⟩
    have hb := hd.below w3.heap.size
    have P := Lib.hid (P.out.below hb)
    have I2 := Lib.hid (I2.out.below hb)
    have I3 := Lib.hid (I3.out.below hb)
    have B := Lib.hid (B.out.trans (hb.mono B.out.size))
    clear hd
    clear hb
    cases hk : ok
    · subst hk
      go_wp2_with fail
      refine (samePiles_as _ _ _ r _ _ _ r true _ I2.out I3.out he).mono ?_
      rintro e w5 ⟨rfl, hd⟩
      have hb := hd.below w4.heap.size
      have P := Lib.hid (P.out.below hb)
      have I2 := Lib.hid (I2.out.below hb)
      have I3 := Lib.hid (I3.out.below hb)
      have B := Lib.hid (B.out.trans (hb.mono B.out.size))
      clear hd
      clear hb
      go_wp2
      go_ret
      exact ⟨rfl, B.out⟩
    · subst hk
      by_cases hm2 : m < 2
      · have hd2 : decide (m < 2) = true := decide_eq_true hm2
        go_wp2_with fail
        refine (samePiles_as _ _ _ r _ _ _ r true _ I2.out I3.out he).mono ?_
        rintro e w5 ⟨rfl, hd⟩
        have hb := hd.below w4.heap.size
        have P := Lib.hid (P.out.below hb)
        have I2 := Lib.hid (I2.out.below hb)
        have I3 := Lib.hid (I3.out.below hb)
        have B := Lib.hid (B.out.trans (hb.mono B.out.size))
        clear hd
        clear hb
        go_wp2
        go_ret
        exact ⟨rfl, B.out⟩
      · have hd2 : decide (m < 2) = false := decide_eq_false hm2
        obtain ⟨q, hq⟩ : ∃ q : Int, (len1 : Int) % (m - 1) = q := ⟨_, rfl⟩
        have hq0 : 0 ≤ q := by rw [← hq]; exact Int.emod_nonneg _ (by omega)
        have hq1 : q < m - 1 := by rw [← hq]; exact Int.emod_lt_of_pos _ (by omega)
        have hwm : IntKind.i64.wrap (m - 1) = m - 1 := IntWalk.i64_in _ (by omega)
        have hmz : ((m - 1 : Int) == 0) = false := by simp; omega
        have hqt : (len1 : Int).tmod (m - 1) = q := by rw [Int.tmod_eq_emod_of_nonneg (by omega)]; exact hq
        have hwk : IntKind.i64.wrap (1 + q) = 1 + q := IntWalk.i64_in _ (by omega)
        obtain ⟨j, hj⟩ : ∃ j, m - (1 + q) = j := ⟨_, rfl⟩
        have hwj : IntKind.i64.wrap (m - (1 + q)) = j := by rw [hj]; exact IntWalk.i64_in _ (by omega)
        obtain ⟨hb1, hb2, he2⟩ := law_two (ps := xs) (t := t) (k := 1 + q) (n := j) (by rw [show 1 + q + j = m by omega]; exact Hok.out) (by omega) (by omega)
        rw [show 1 + q + j = m by omega, Hr.out] at he2
        obtain ⟨x1, hx1⟩ : ∃ x1, addL xs t (1 + q) = x1 := ⟨_, rfl⟩
        have hrc1 := of_cases (addL_cases xs t (1 + q))
        rw [hx1] at hrc1 hb2 he2
        have hx12 := hrc1.1
        have HSX := Lib.hid hrc1.2
        have Hx1 := Lib.hid hx1
        have Hb1 := Lib.hid hb1
        have Hb2 := Lib.hid hb2
        have He2 := Lib.hid he2
        clear hrc1 hx1 hb1 hb2 he2 hq
        go_wp2_with fail
        refine (implAdd_as _ _ _ xs t (1 + q) x1 true _ P.out.piles HSM.out hts Hx1.out Hb1.out).mono ?_
        rintro e w5 ⟨a5, c5, rfl, ho, hb, hn⟩
        have P := Lib.hid (P.out.below hb)
        have I2 := Lib.hid (I2.out.below hb)
        have I3 := Lib.hid (I3.out.below hb)
        have I5 := Lib.hid (IsPiles.of_owned ho (by omega))
        have B := Lib.hid (B.out.trans (hb.mono B.out.size))
        clear ho hn
        clear hb
        go_wp2_with fail
        refine (implAdd_as _ _ _ x1 t j r true _ I5.out HSX.out hts He2.out Hb2.out).mono ?_
        rintro e w6 ⟨a6, c6, rfl, ho, hb, hn⟩
        have P := Lib.hid (P.out.below hb)
        have I2 := Lib.hid (I2.out.below hb)
        have I3 := Lib.hid (I3.out.below hb)
        have I5 := Lib.hid (I5.out.below hb)
        have I6 := Lib.hid (IsPiles.of_owned ho (by omega))
        have B := Lib.hid (B.out.trans (hb.mono B.out.size))
        clear ho hn
        clear hb
        go_wp2_with fail
        refine (samePiles_as _ _ _ r _ _ _ r true _ I6.out I2.out he).mono ?_
        rintro e w7 ⟨rfl, hd⟩
        have hb := hd.below w6.heap.size
        have P := Lib.hid (P.out.below hb)
        have I2 := Lib.hid (I2.out.below hb)
        have I3 := Lib.hid (I3.out.below hb)
        have I5 := Lib.hid (I5.out.below hb)
        have I6 := Lib.hid (I6.out.below hb)
        have B := Lib.hid (B.out.trans (hb.mono B.out.size))
        clear hd
        clear hb
        go_wp2
        go_ret
        exact ⟨rfl, B.out⟩
  · rcases Nat.lt_or_ge 1048576 len0 with hl0 | hl0
    · go_enter Try.func4, Try.ntmps4
      go_wp2
      go_ret
      exact ⟨rfl, Below.refl _ _⟩
    · have hl1 : 1048576 < len1 := by omega
      go_enter Try.func4, Try.ntmps4
      go_wp2
      go_ret
      exact ⟨rfl, Below.refl _ _⟩

end Go.Proofs.Ytdmjgicopnihgaa.fnPilesAddTwo
