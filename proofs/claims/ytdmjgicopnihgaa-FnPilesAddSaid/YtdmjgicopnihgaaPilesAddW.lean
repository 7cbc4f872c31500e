/-
  laws.FnPilesAdd returns true for every code: added ballots are counted. No condition.
-/
import Derived.Test.YtdmjgicopnihgaaOpen
import Derived.Test.YtdmjgicopnihgaaLawP
namespace Go.Proofs.Ytdmjgicopnihgaa.fnPilesAdd
open Go.RowKit
set_option linter.unusedVariables false


set_option maxRecDepth 100000 in
set_option maxHeartbeats 2000000 in
/-- The law's walk: it returns true, and writes nothing that was there. -/
theorem walk (a0 : Option Addr) (len0 cap0 : Nat) (z0 : List Int) (w : World) (w0 : IsRow .u8 w a0 len0 cap0 z0) :
    Calls Try.prog 3 #[.slice a0 len0 cap0] w fun e w' => e = .returned (.bool true) ∧ Below w.heap.size w w' := by
  by_cases hl : len0 ≤ 1048576
  · have hcap := w0.cap
    have HB := Lib.hid w0.bytes; clear w0
    go_enter Try.func3, Try.ntmps3
    go_wp2_with fail
    refine (drawPA_any a0 len0 cap0 _ _ HB.out hcap (by omega)).mono ?_
    rintro e w1 ⟨xs, g, c, t, m, rfl, hp, hts, hm, hb⟩
    have P := Lib.hid (hp)
    have B := Lib.hid hb
    clear hb HB
    have HSM := Lib.hid P.out.2.1
    have hl13 := P.out.2.2.2
    clear hp
    obtain ⟨r, hr⟩ : ∃ r, addL xs t m = r := ⟨_, rfl⟩
    obtain ⟨ok, hok⟩ : ∃ ok, addB xs t m = ok := ⟨_, rfl⟩
    have Hr := Lib.hid hr
    have Hok := Lib.hid hok
    have hrc := of_cases (addL_cases xs t m)
    rw [hr] at hrc
    have hr12 := hrc.1
    have HSR := Lib.hid hrc.2
    have he : eqP r r = true := eqP_self r
    have hne : (ok != ok) = false := by cases ok <;> rfl
    have heq : (ok == ok) = true := by cases ok <;> rfl
    clear hr hok hrc
    go_wp2_with fail
    refine (implAdd_as _ _ _ xs t m r ok _ P.out.piles HSM.out hts Hr.out Hok.out).mono ?_
    rintro e w2 ⟨a2, c2, rfl, ho, hb, hn⟩
    have P := Lib.hid (P.out.below hb)
    have I2 := Lib.hid (IsPiles.of_owned ho (by omega))
    have B := Lib.hid (B.out.trans (hb.mono B.out.size))
    clear ho hn
    clear hb
    go_wp2_with fail
    refine (specAdd_as g 0 _ c xs t m r ok _ P.out.piles P.out.lt HSM.out hts Hr.out Hok.out).mono ?_
    rintro e w3 ⟨a3, c3, rfl, ho, hb, hn⟩
    have P := Lib.hid (P.out.below hb)
    have I2 := Lib.hid (I2.out.below hb)
    have I3 := Lib.hid (IsPiles.of_owned ho (by omega))
    have B := Lib.hid (B.out.trans (hb.mono B.out.size))
    clear ho hn
    clear hb
    go_wp2_with fail
    refine (samePiles_as _ _ _ r _ _ _ r true _ I2.out I3.out he).mono ?_
    rintro e w4 ⟨rfl, hd⟩
    have hb := hd.below w3.heap.size
    have P := Lib.hid (P.out.below hb)
    have I2 := Lib.hid (I2.out.below hb)
    have I3 := Lib.hid (I3.out.below hb)
    have B := Lib.hid (B.out.trans (hb.mono B.out.size))
    clear hd
    clear hb
    cases hk : ok
    · subst hk
      go_wp2_with fail
      refine (samePiles_as _ _ _ r _ _ _ r true _ I2.out I3.out he).mono ?_
      rintro e w5 ⟨rfl, hd⟩
      have hb := hd.below w4.heap.size
      have P := Lib.hid (P.out.below hb)
      have I2 := Lib.hid (I2.out.below hb)
      have I3 := Lib.hid (I3.out.below hb)
      have B := Lib.hid (B.out.trans (hb.mono B.out.size))
      clear hd
      clear hb
      go_wp2
      go_ret
      exact ⟨rfl, B.out⟩
    · subst hk
      obtain ⟨hv, ht⟩ := law_add Hok.out
      rw [Hr.out] at hv ht
      obtain ⟨n1, hn1⟩ : ∃ n1, totalL r = n1 := ⟨_, rfl⟩
      obtain ⟨n0, hn0⟩ : ∃ n0, totalL xs = n0 := ⟨_, rfl⟩
      have Hn1 := Lib.hid hn1
      have Hn0 := Lib.hid hn0
      have hrg := totalL_range xs
      rw [hn0] at hrg ht
      rw [hn1] at ht
      have hw1 : IntKind.i64.wrap (n0 + m) = n0 + m := IntWalk.i64_in _ (by omega)
      have hq : (n1 == n0 + m) = true := by rw [ht]; simp
      have HV := Lib.hid hv
      clear hv ht hn0 hn1
      go_wp2_with fail
      refine (implPiles_as _ _ _ r true _ I2.out HSR.out HV.out).mono ?_
      rintro e w5 ⟨rfl, hb⟩
      have P := Lib.hid (P.out.below hb)
      have I2 := Lib.hid (I2.out.below hb)
      have I3 := Lib.hid (I3.out.below hb)
      have B := Lib.hid (B.out.trans (hb.mono B.out.size))
      clear hb
      go_wp2_with fail
      refine (implTotal_as _ _ _ r n1 _ I2.out HSR.out Hn1.out).mono ?_
      rintro e w6 ⟨rfl, hb⟩
      have P := Lib.hid (P.out.below hb)
      have I2 := Lib.hid (I2.out.below hb)
      have I3 := Lib.hid (I3.out.below hb)
      have B := Lib.hid (B.out.trans (hb.mono B.out.size))
      clear hb
      go_wp2_with fail
      refine (implTotal_as _ _ _ xs n0 _ P.out.piles HSM.out Hn0.out).mono ?_
      rintro e w7 ⟨rfl, hb⟩
      have P := Lib.hid (P.out.below hb)
      have I2 := Lib.hid (I2.out.below hb)
      have I3 := Lib.hid (I3.out.below hb)
      have B := Lib.hid (B.out.trans (hb.mono B.out.size))
      clear hb
      go_wp2
      go_ret
      exact ⟨rfl, B.out⟩
  · go_enter Try.func3, Try.ntmps3
    go_wp2
    go_ret
    exact ⟨rfl, Below.refl _ _⟩

end Go.Proofs.Ytdmjgicopnihgaa.fnPilesAdd
