/-
  laws.FnPilesMergeParts returns true for every code and every choice: it does not matter in which parts piles are merged. No condition.
-/
import Derived.Test.YtdmjgicopnihgaaOpen
import Derived.Test.YtdmjgicopnihgaaLawP
namespace Go.Proofs.Ytdmjgicopnihgaa.fnPilesMergeParts
open Go.RowKit
set_option linter.unusedVariables false


set_option maxRecDepth 100000 in
set_option maxHeartbeats 2000000 in
/-- The law's walk: it returns true, and writes nothing that was there. -/
theorem walk (a0 : Option Addr) (len0 cap0 : Nat) (z0 : List Int) (a1 : Option Addr) (len1 cap1 : Nat) (z1 : List Int) (w : World) (w0 : IsRow .u8 w a0 len0 cap0 z0) (w1 : IsRow .u8 w a1 len1 cap1 z1) :
    Calls Try.prog 6 #[.slice a0 len0 cap0, .slice a1 len1 cap1] w fun e w' => e = .returned (.bool true) ∧ Below w.heap.size w w' := by
  by_cases hl : len0 ≤ 1048576 ∧ len1 ≤ 1048576
  · obtain ⟨hl, hl1⟩ := hl
    have hcap := w0.cap
    have HB := Lib.hid w0.bytes; clear w0 w1
    go_enter Try.func6, Try.ntmps6
    go_wp2_with fail
    refine (drawPM_any a0 len0 cap0 _ _ HB.out hcap (by omega)).mono ?_
    rintro e w1 ⟨xs, g, c, ys, g', c', rfl, hp, hp', hb⟩
    have P := Lib.hid (hp)
    have PY := Lib.hid (hp')
    have B := Lib.hid hb
    clear hb HB
    have HSM := Lib.hid P.out.2.1
    have hl13 := P.out.2.2.2
    have HSY := Lib.hid PY.out.2.1
    have hl13' := PY.out.2.2.2
    clear hp hp'
    obtain ⟨r, hr⟩ : ∃ r, joinL xs ys = r := ⟨_, rfl⟩
    obtain ⟨ok, hok⟩ : ∃ ok, joinB xs ys = ok := ⟨_, rfl⟩
    have Hr := Lib.hid hr
    have Hok := Lib.hid hok
    have hrc := of_cases (joinL_cases xs ys)
    rw [hr] at hrc
    have hr12 := hrc.1
    have HSR := Lib.hid hrc.2
    have he : eqP r r = true := eqP_self r
    have hne : (ok != ok) = false := by cases ok <;> rfl
    have heq : (ok == ok) = true := by cases ok <;> rfl
    clear hr hok hrc
    go_wp2_with fail
    refine (implMerge_as _ _ _ xs _ _ _ ys r ok _ P.out.piles HSM.out PY.out.piles HSY.out Hr.out Hok.out).mono ?_
    rintro e w2 ⟨a2, c2, rfl, ho, hb, hn⟩
    have P := Lib.hid (P.out.below hb)
    have PY := Lib.hid (PY.out.below hb)
    have I2 := Lib.hid (IsPiles.of_owned ho (by omega))
    have B := Lib.hid (B.out.trans (hb.mono B.out.size))
    clear ho hn
    clear hb
    go_wp2_with fail
    refine (specMerge_as g 0 _ c xs _ _ _ ys r ok _ P.out.piles P.out.lt HSM.out PY.out.piles HSY.out Hr.out Hok.out).mono ?_
    rintro e w3 ⟨a3, c3, rfl, ho, hb, hn⟩
    have P := Lib.hid (P.out.below hb)
    have PY := Lib.hid (PY.out.below hb)
    have I2 := Lib.hid (I2.out.below hb)
    have I3 := Lib.hid (IsPiles.of_owned ho (by omega))
    have B := Lib.hid (B.out.trans (hb.mono B.out.size))
    clear ho hn
    clear hb
    go_wp2_with fail
    refine (samePiles_as _ _ _ r _ _ _ r true _ I2.out I3.out he).mono ?_
    rintro e w4 ⟨rfl, hd⟩
    have hb := hd.below w3.heap.size
    have P := Lib.hid (P.out.below hb)
    have PY := Lib.hid (PY.out.below hb)
    have I2 := Lib.hid (I2.out.below hb)
    have I3 := Lib.hid (I3.out.below hb)
    have B := Lib.hid (B.out.trans (hb.mono B.out.size))
    clear hd
    clear hb
    cases hk : ok
    · subst hk
      go_wp2_with fail
      refine (samePiles_as _ _ _ r _ _ _ r true _ I2.out I3.out he).mono ?_
      rintro e w5 ⟨rfl, hd⟩
      have hb := hd.below w4.heap.size
      have P := Lib.hid (P.out.below hb)
      have PY := Lib.hid (PY.out.below hb)
      have I2 := Lib.hid (I2.out.below hb)
      have I3 := Lib.hid (I3.out.below hb)
      have B := Lib.hid (B.out.trans (hb.mono B.out.size))
      clear hd
      clear hb
      go_wp2
      go_ret
      exact ⟨rfl, B.out⟩
    · subst hk
      obtain ⟨k, hk, hkeq⟩ : ∃ k : Nat, k ≤ ys.length ∧ (len1 : Int) % ((ys.length : Int) + 1) = (k : Int) := ⟨len1 % (ys.length + 1), Nat.le_of_lt_succ (Nat.mod_lt _ (Nat.succ_pos _)), by push_cast; rfl⟩
      have hwl : IntKind.i64.wrap ((ys.length : Int) + 1) = (ys.length : Int) + 1 := IntWalk.i64_in _ (by omega)
      have hlz : (((ys.length : Int) + 1) == 0) = false := by simp; omega
      have hkt : (len1 : Int).tmod ((ys.length : Int) + 1) = (k : Int) := by rw [Int.tmod_eq_emod_of_nonneg (by omega)]; exact hkeq
      obtain ⟨hb1, hb2, he2⟩ := law_parts Hok.out k
      obtain ⟨x1, hx1⟩ : ∃ x1, joinL xs (ys.take k) = x1 := ⟨_, rfl⟩
      have hrc1 := of_cases (joinL_cases xs (ys.take k))
      rw [hx1] at hrc1 hb2 he2
      rw [Hr.out] at he2
      have hx12 := hrc1.1
      have HSX := Lib.hid hrc1.2
      have Hx1 := Lib.hid hx1
      have Hb1 := Lib.hid hb1
      have Hb2 := Lib.hid hb2
      have He2 := Lib.hid he2
      have HST := Lib.hid (HSY.out.take k)
      have HSD : Hid (Small (ys.drop k)) := Small.of fun p hp => HSY.out.mem p (List.mem_of_mem_drop hp)
      have hki : (k : Int) ≤ (ys.length : Int) := by omega
      have hkc : (k : Int) ≤ (c' : Int) := by have := PY.out.piles.2.1; omega
      have hlc : (ys.length : Int) ≤ (c' : Int) := by have := PY.out.piles.2.1; omega
      clear hrc1 hx1 hb1 hb2 he2 hkeq
      go_wp2_with fail
      refine (implMerge_as _ _ _ xs _ k _ (ys.take k) x1 true _ P.out.piles HSM.out (PY.out.piles.take hk) HST.out Hx1.out Hb1.out).mono ?_
      rintro e w5 ⟨a5, c5, rfl, ho, hb, hn⟩
      have P := Lib.hid (P.out.below hb)
      have PY := Lib.hid (PY.out.below hb)
      have I2 := Lib.hid (I2.out.below hb)
      have I3 := Lib.hid (I3.out.below hb)
      have I5 := Lib.hid (IsPiles.of_owned ho (by omega))
      have B := Lib.hid (B.out.trans (hb.mono B.out.size))
      clear ho hn
      clear hb
      by_cases hck : c' = k
      · have hyk : ys.length = k := by omega
        have hnil : ys.drop k = [] := List.drop_of_length_le (by omega)
        have Hb2' := Lib.hid Hb2.out
        have IE : Hid (IsPiles w5 (some ⟨g', 0, none⟩) 0 0 (ys.drop k)) := by rw [Hid, hnil]; exact IsPiles.empty _ _ _
        clear hnil
        go_wp2_with fail
        refine (implMerge_as _ _ _ x1 _ 0 _ (ys.drop k) r true _ I5.out HSX.out IE.out HSD.out He2.out Hb2.out).mono ?_
        rintro e w6 ⟨a6, c6, rfl, ho, hb, hn⟩
        have P := Lib.hid (P.out.below hb)
        have PY := Lib.hid (PY.out.below hb)
        have I2 := Lib.hid (I2.out.below hb)
        have I3 := Lib.hid (I3.out.below hb)
        have I5 := Lib.hid (I5.out.below hb)
        have I6 := Lib.hid (IsPiles.of_owned ho (by omega))
        have B := Lib.hid (B.out.trans (hb.mono B.out.size))
        clear ho hn
        clear hb
        go_wp2_with fail
        refine (samePiles_as _ _ _ r _ _ _ r true _ I6.out I2.out he).mono ?_
        rintro e w7 ⟨rfl, hd⟩
        have hb := hd.below w6.heap.size
        have P := Lib.hid (P.out.below hb)
        have PY := Lib.hid (PY.out.below hb)
        have I2 := Lib.hid (I2.out.below hb)
        have I3 := Lib.hid (I3.out.below hb)
        have I5 := Lib.hid (I5.out.below hb)
        have I6 := Lib.hid (I6.out.below hb)
        have B := Lib.hid (B.out.trans (hb.mono B.out.size))
        clear hd
        clear hb
        go_wp2
        go_ret
        exact ⟨rfl, B.out⟩
      · have ID : Hid (IsPiles w5 (some ⟨g', 0 + k * 2, none⟩) (ys.length - k) (c' - k) (ys.drop k)) := PY.out.piles.drop hk (by omega)
        rw [Nat.zero_add] at ID
        go_wp2_with fail
        refine (implMerge_as _ _ _ x1 _ (ys.length - k) _ (ys.drop k) r true _ I5.out HSX.out ID.out HSD.out He2.out Hb2.out).mono ?_
        rintro e w6 ⟨a6, c6, rfl, ho, hb, hn⟩
        have P := Lib.hid (P.out.below hb)
        have PY := Lib.hid (PY.out.below hb)
        have I2 := Lib.hid (I2.out.below hb)
        have I3 := Lib.hid (I3.out.below hb)
        have I5 := Lib.hid (I5.out.below hb)
        have I6 := Lib.hid (IsPiles.of_owned ho (by omega))
        have B := Lib.hid (B.out.trans (hb.mono B.out.size))
        clear ho hn
        clear hb
        go_wp2_with fail
        refine (samePiles_as _ _ _ r _ _ _ r true _ I6.out I2.out he).mono ?_
        rintro e w7 ⟨rfl, hd⟩
        have hb := hd.below w6.heap.size
        have P := Lib.hid (P.out.below hb)
        have PY := Lib.hid (PY.out.below hb)
        have I2 := Lib.hid (I2.out.below hb)
        have I3 := Lib.hid (I3.out.below hb)
        have I5 := Lib.hid (I5.out.below hb)
        have I6 := Lib.hid (I6.out.below hb)
        have B := Lib.hid (B.out.trans (hb.mono B.out.size))
        clear hd
        clear hb
        go_wp2
        go_ret
        exact ⟨rfl, B.out⟩
  · rcases Nat.lt_or_ge 1048576 len0 with hl0 | hl0
    · go_enter Try.func6, Try.ntmps6
      go_wp2
      go_ret
      exact ⟨rfl, Below.refl _ _⟩
    · have hl1 : 1048576 < len1 := by omega
      go_enter Try.func6, Try.ntmps6
      go_wp2
      go_ret
      exact ⟨rfl, Below.refl _ _⟩

end Go.Proofs.Ytdmjgicopnihgaa.fnPilesMergeParts
