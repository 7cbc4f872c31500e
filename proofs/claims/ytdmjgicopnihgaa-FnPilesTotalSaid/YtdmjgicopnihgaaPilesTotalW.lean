/-
  laws.FnPilesTotal returns true for every code: ballots are counted. No condition.
-/
import Derived.Test.YtdmjgicopnihgaaOpen
import Derived.Test.YtdmjgicopnihgaaLawP
namespace Go.Proofs.Ytdmjgicopnihgaa.fnPilesTotal
open Go.RowKit
set_option linter.unusedVariables false


set_option maxRecDepth 100000 in
set_option maxHeartbeats 2000000 in
/-- The law's walk: it returns true, and writes nothing that was there. -/
theorem walk (a0 : Option Addr) (len0 cap0 : Nat) (z0 : List Int) (w : World) (w0 : IsRow .u8 w a0 len0 cap0 z0) :
    Calls Try.prog 10 #[.slice a0 len0 cap0] w fun e w' => e = .returned (.bool true) ∧ Below w.heap.size w w' := by
  by_cases hl : len0 ≤ 1048576
  · have hcap := w0.cap
    have HB := Lib.hid w0.bytes; clear w0
    go_enter Try.func10, Try.ntmps10
    go_wp2_with fail
    refine (drawPT_any a0 len0 cap0 _ _ HB.out hcap (by omega)).mono ?_
    rintro e w1 ⟨xs, g, c, rfl, hp, hb⟩
    have P := Lib.hid (hp)
    have B := Lib.hid hb
    clear hb HB
    have hSM := P.out.2.1
    have hFW := P.out.2.2.1
    have hl13 := P.out.2.2.2
    have HSM := Lib.hid hSM
    have HFW := Lib.hid hFW
    clear hSM hFW hp
    obtain ⟨n, hn⟩ : ∃ n, totalL xs = n := ⟨_, rfl⟩
    obtain ⟨v, hv⟩ : ∃ v, pilesB xs = v := ⟨_, rfl⟩
    have Hn := Lib.hid hn
    have Hv := Lib.hid hv
    have hne : (n != n) = false := by simp
    have HNV : Hid (n = if v = true then sumL xs else -1) := by rw [Hid, ← hn, ← hv]; rfl
    clear hn hv
    go_wp2_with fail
    refine (implTotal_as _ _ _ xs n _ P.out.piles HSM.out Hn.out).mono ?_
    rintro e w2 ⟨rfl, hb⟩
    have P := Lib.hid (P.out.below hb)
    have B := Lib.hid (B.out.trans (hb.mono B.out.size))
    clear hb
    go_wp2_with fail
    refine (specTotal_as _ _ _ xs n _ P.out.piles HSM.out Hn.out).mono ?_
    rintro e w3 ⟨rfl, hb⟩
    have P := Lib.hid (P.out.below hb)
    have B := Lib.hid (B.out.trans (hb.mono B.out.size))
    clear hb
    have HW : Hid (∀ i, 0 ≤ mAt xs i ∧ mAt xs i ≤ 1000000) := fun i => by have := HFW.out i; omega
    go_wp2
    obtain ⟨w3', hw3⟩ : ∃ w3', w3 = w3' := ⟨_, rfl⟩
    subst hw3
    go_loop [6, 7] (fun s i => ∃ k : Nat, k ≤ xs.length ∧ i = .int .i64 k ∧ s = .int .i64 (sumL (xs.take k))) (fun _ i => xs.length - (intOf i).toNat)
    case atStart => exact ⟨0, Nat.zero_le _, rfl, rfl⟩
    case round =>
      obtain ⟨k, hk, rfl, rfl⟩ := hrel
      obtain ⟨s, hs⟩ : ∃ s, sumL (xs.take k) = s := ⟨_, rfl⟩
      have hb := sum_bound HW.out k hk
      by_cases hlt : k < xs.length
      · obtain ⟨b, off, hbo, _, _, c1⟩ := P.out.piles.piles hlt
        cases hbo
        rw [Nat.zero_add] at c1
        obtain ⟨m, hm⟩ : ∃ m, mAt xs k = m := ⟨_, rfl⟩
        have hst := sum_take (ps := xs) (k := k) hlt
        have hmb := HW.out k
        rw [hm] at c1 hmb hst
        rw [hs] at hb hst ⊢
        have HST := Lib.hid hst
        have hkc : (k : Int) < (c : Int) := by have := P.out.piles.2.1; omega
        clear hst hm hs
        have hw1 : IntKind.i64.wrap (s + m) = s + m := IntWalk.i64_in _ (by omega)
        go_wp2
        refine ⟨⟨k + 1, by omega, by go_num, by rw [HST.out]⟩, ?_⟩
        simp [intOf]; omega
      · obtain rfl : k = xs.length := by omega
        have hall : sumL (xs.take xs.length) = sumL xs := by rw [List.take_length]
        rw [hall]
        clear hall hs hb
        cases v
        · have hn1 : (n == (-1 : Int)) = true := by rw [HNV.out]; rfl
          go_wp2_with fail
          refine (implPiles_as _ _ _ xs false _ P.out.piles HSM.out Hv.out).mono ?_
          rintro e w4 ⟨rfl, hb⟩
          have P := Lib.hid (P.out.below hb)
          have B := Lib.hid (B.out.trans (hb.mono B.out.size))
          clear hb
          go_wp2_with fail
          refine (implPiles_as _ _ _ xs false _ P.out.piles HSM.out Hv.out).mono ?_
          rintro e w5 ⟨rfl, hb⟩
          have P := Lib.hid (P.out.below hb)
          have B := Lib.hid (B.out.trans (hb.mono B.out.size))
          clear hb
          go_wp2
          go_ret
          exact ⟨rfl, B.out⟩
        · have hn1 : (n == sumL xs) = true := by rw [HNV.out]; simp
          go_wp2_with fail
          refine (implPiles_as _ _ _ xs true _ P.out.piles HSM.out Hv.out).mono ?_
          rintro e w4 ⟨rfl, hb⟩
          have P := Lib.hid (P.out.below hb)
          have B := Lib.hid (B.out.trans (hb.mono B.out.size))
          clear hb
          go_wp2
          go_ret
          exact ⟨rfl, B.out⟩
  · go_enter Try.func10, Try.ntmps10
    go_wp2
    go_ret
    exact ⟨rfl, Below.refl _ _⟩

end Go.Proofs.Ytdmjgicopnihgaa.fnPilesTotal
