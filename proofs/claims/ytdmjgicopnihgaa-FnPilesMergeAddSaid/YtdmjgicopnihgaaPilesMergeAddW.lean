/-
  laws.FnPilesMergeAdd returns true for every code: merging is adding. No condition.
-/
import Derived.Test.YtdmjgicopnihgaaOpen
import Derived.Test.YtdmjgicopnihgaaLawP
namespace Go.Proofs.Ytdmjgicopnihgaa.fnPilesMergeAdd
open Go.RowKit
set_option linter.unusedVariables false


set_option maxRecDepth 100000 in
set_option maxHeartbeats 2000000 in
/-- The law's walk: it returns true, and writes nothing that was there. -/
theorem walk (a0 : Option Addr) (len0 cap0 : Nat) (z0 : List Int) (w : World) (w0 : IsRow .u8 w a0 len0 cap0 z0) :
    Calls Try.prog 7 #[.slice a0 len0 cap0] w fun e w' => e = .returned (.bool true) ∧ Below w.heap.size w w' := by
  by_cases hl : len0 ≤ 1048576
  · have hcap := w0.cap
    have HB := Lib.hid w0.bytes; clear w0
    go_enter Try.func7, Try.ntmps7
    go_wp2_with fail
    refine (drawPM_any a0 len0 cap0 _ _ HB.out hcap (by omega)).mono ?_
    rintro e w1 ⟨xs, g, c, ys, g', c', rfl, hp, hp', hb⟩
    have P := Lib.hid (hp)
    have PY := Lib.hid (hp')
    have B := Lib.hid hb
    clear hb HB
    have HSM := Lib.hid P.out.2.1
    have hl13 := P.out.2.2.2
    have HSY := Lib.hid PY.out.2.1
    have hl13' := PY.out.2.2.2
    clear hp hp'
    obtain ⟨r, hr⟩ : ∃ r, joinL xs ys = r := ⟨_, rfl⟩
    obtain ⟨ok, hok⟩ : ∃ ok, joinB xs ys = ok := ⟨_, rfl⟩
    have Hr := Lib.hid hr
    have Hok := Lib.hid hok
    have hrc := of_cases (joinL_cases xs ys)
    rw [hr] at hrc
    have hr12 := hrc.1
    have HSR := Lib.hid hrc.2
    have he : eqP r r = true := eqP_self r
    have hne : (ok != ok) = false := by cases ok <;> rfl
    have heq : (ok == ok) = true := by cases ok <;> rfl
    clear hr hok hrc
    go_wp2_with fail
    refine (implMerge_as _ _ _ xs _ _ _ ys r ok _ P.out.piles HSM.out PY.out.piles HSY.out Hr.out Hok.out).mono ?_
    rintro e w2 ⟨a2, c2, rfl, ho, hb, hn⟩
    have P := Lib.hid (P.out.below hb)
    have PY := Lib.hid (PY.out.below hb)
    have I2 := Lib.hid (IsPiles.of_owned ho (by omega))
    have B := Lib.hid (B.out.trans (hb.mono B.out.size))
    clear ho hn
    clear hb
    go_wp2_with fail
    refine (specMerge_as g 0 _ c xs _ _ _ ys r ok _ P.out.piles P.out.lt HSM.out PY.out.piles HSY.out Hr.out Hok.out).mono ?_
    rintro e w3 ⟨a3, c3, rfl, ho, hb, hn⟩
    have P := Lib.hid (P.out.below hb)
    have PY := Lib.hid (PY.out.below hb)
    have I2 := Lib.hid (I2.out.below hb)
    have I3 := Lib.hid (IsPiles.of_owned ho (by omega))
    have B := Lib.hid (B.out.trans (hb.mono B.out.size))
    clear ho hn
    clear hb
    go_wp2_with fail
    refine (samePiles_as _ _ _ r _ _ _ r true _ I2.out I3.out he).mono ?_
    rintro e w4 ⟨rfl, hd⟩
    have hb := hd.below w3.heap.size
    have P := Lib.hid (P.out.below hb)
    have PY := Lib.hid (PY.out.below hb)
    have I2 := Lib.hid (I2.out.below hb)
    have I3 := Lib.hid (I3.out.below hb)
    have B := Lib.hid (B.out.trans (hb.mono B.out.size))
    clear hd
    clear hb
    cases hk : ok
    · subst hk
      go_wp2_with fail
      refine (samePiles_as _ _ _ r _ _ _ r true _ I2.out I3.out he).mono ?_
      rintro e w5 ⟨rfl, hd⟩
      have hb := hd.below w4.heap.size
      have P := Lib.hid (P.out.below hb)
      have PY := Lib.hid (PY.out.below hb)
      have I2 := Lib.hid (I2.out.below hb)
      have I3 := Lib.hid (I3.out.below hb)
      have B := Lib.hid (B.out.trans (hb.mono B.out.size))
      clear hd
      clear hb
      go_wp2
      go_ret
      exact ⟨rfl, B.out⟩
    · subst hk
      have hvx : pilesB xs = true := ((joinB_iff xs ys).1 Hok.out).1
      have HML : Hid (mergeL xs ys = r) := by rw [Hid, ← Hr.out, joinL, Hok.out]; rfl
      have B4 := Lib.hid B.out
      go_wp2
      go_loopw [9, 10] (fun v i wr => ∃ k : Nat, k ≤ ys.length ∧ i = .int .i64 k ∧ (∃ (a : Option Addr) (cx : Nat), v = .slice a (mergeL xs (ys.take k)).length cx ∧ Hid (IsPiles wr a (mergeL xs (ys.take k)).length cx (mergeL xs (ys.take k)))) ∧ Below w4.heap.size w4 wr) (fun _ i _ => ys.length - (intOf i).toNat)
      case atStart => exact ⟨0, Nat.zero_le _, rfl, ⟨some ⟨g, 0, none⟩, c, rfl, P.out.piles⟩, Below.refl _ _⟩
      case round =>
        obtain ⟨k, hk, rfl, ⟨ax, cx, rfl, hI⟩, hB⟩ := hrel
        have BR := Lib.hid (B4.out.trans (hB.mono B4.out.size))
        have PYR := Lib.hid (PY.out.below hB)
        have I2R := Lib.hid (I2.out.below hB)
        by_cases hlt : k < ys.length
        · obtain ⟨hb1, he1⟩ := law_each Hok.out k hlt
          obtain ⟨b', off', hbo, hbw, c0, c1⟩ := PYR.out.piles.piles hlt
          cases hbo
          rw [Nat.zero_add] at c0 c1
          obtain ⟨tk, htk⟩ : ∃ tk, tAt ys k = tk := ⟨_, rfl⟩
          obtain ⟨mk, hmk⟩ : ∃ mk, mAt ys k = mk := ⟨_, rfl⟩
          obtain ⟨cu, hcu⟩ : ∃ cu, mergeL xs (ys.take k) = cu := ⟨_, rfl⟩
          obtain ⟨nx, hnx⟩ : ∃ nx, mergeL xs (ys.take (k + 1)) = nx := ⟨_, rfl⟩
          have htks : tk.size ≤ 1048600 := by rw [← htk]; exact HSY.out k
          rw [htk, hmk, hcu] at hb1
          rw [htk, hmk, hcu, hnx] at he1
          rw [hcu] at hI ⊢
          rw [htk] at c0
          rw [hmk] at c1
          have hvc := ((addB_iff cu tk mk).1 hb1).1
          have hvn := addL_valid hb1
          rw [he1] at hvn
          have hl12 := valid_len hvc
          have hn12 := valid_len hvn
          have HSC := Lib.hid (small_valid hvc)
          have HB1 := Lib.hid hb1
          have HE1 := Lib.hid he1
          have HNX := Lib.hid hnx
          have hkc : (k : Int) < (c' : Int) := by have := PYR.out.piles.2.1; omega
          clear htk hmk hcu hnx hb1 he1 hvc hvn
          have ID := Lib.hid (hI.out.below (Below.refl wr.heap.size wr).drew)
          have BD := Lib.hid (hB.drew)
          have hn1000 : nx.length ≤ 1048600 := by omega
          have DS := BD.out.size
          go_wp2_with fail
          go_region_held3 (fun w' => w'.cell? ⟨g', k * 2, none⟩ = some (.string tk) ∧ w'.cell? ⟨g', k * 2 + 1, none⟩ = some (.int .i64 mk)) (first | exact ⟨c0, c1⟩ | exact ⟨d0, d1⟩) (first | (go_at_call 17; refine (implAdd_as _ _ _ cu tk mk nx true _ ?_ HSC.out htks HE1.out HB1.out).mono ?_; exact ID.out; rintro e w6 ⟨a6, c6, rfl, ho, hb, hn⟩; have d0 : w6.cell? ⟨g', k * 2, none⟩ = some (.string tk) := (hb.cell (p := ⟨g', k * 2, none⟩) hbw).trans c0; have d1 : w6.cell? ⟨g', k * 2 + 1, none⟩ = some (.int .i64 mk) := (hb.cell (p := ⟨g', k * 2 + 1, none⟩) hbw).trans c1; have IN := Lib.hid (IsPiles.of_owned ho hn1000); have BN := Lib.hid (BD.out.trans (hb.mono DS)); clear ho hb hn))
          go_wp2
          go_roundw
          case rel => exact ⟨k + 1, by omega, by go_num, ⟨a6, c6, by rw [HNX.out], by rw [HNX.out]; exact IN⟩, BN.out⟩
          case measure => simp [intOf]; omega
        · obtain rfl : k = ys.length := by omega
          rw [List.take_length, HML.out] at hI ⊢
          clear P PY I2 I3 B
          have B := Lib.hid BR.out
          go_wp2_with fail
          refine (samePiles_as _ _ _ r _ _ _ r true _ hI.out I2R.out he).mono ?_
          rintro e w8 ⟨rfl, hd⟩
          have B8 := Lib.hid (B.out.trans (hd.below _))
          go_wp2
          go_ret
          exact ⟨rfl, B8.out⟩
  · go_enter Try.func7, Try.ntmps7
    go_wp2
    go_ret
    exact ⟨rfl, Below.refl _ _⟩

end Go.Proofs.Ytdmjgicopnihgaa.fnPilesMergeAdd
