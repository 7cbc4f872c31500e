/-
  hasInt and before: whether a list has a number, and which of two comes first. No condition but what each theorem says.
-/
import Derived.Test.YtppnngccjlnejaaPrefers
namespace Go.Proofs.Ytppnngccjlnejaa
open Go.RowKit

set_option maxHeartbeats 400000 in
/-- **hasInt**: whether a list has a number. -/
theorem hasInt_any (a : Option Addr) (len cap : Nat) (zs : List Int) (c : Int) (w : World) (h : IsInts w a len cap zs) :
    Calls Try.prog 31 #[.slice a len cap, .int .i64 c] w fun e w' => e = .returned (.bool (hasB zs c)) ∧ w = w' := by
  obtain ⟨h1, h2, h3, h4⟩ := h
  have H1 := Lib.hid h1; clear h1
  have H4 := Lib.hid h4; clear h4
  go_enter Try.func31, Try.ntmps31
  go_wp2
  go_loop [5] (fun i => ∃ k : Nat, k ≤ len ∧ i = .int .i64 k ∧ Hid (hasB (zs.take k) c = false)) (fun i => len - (intOf i).toNat)
  case atStart => exact ⟨0, Nat.zero_le _, rfl, by simp [Hid, hasB]⟩
  case round =>
    obtain ⟨k, hk, rfl, hc⟩ := hrel
    by_cases hlt : k < len
    · obtain ⟨b, off, rfl, hb, hcell⟩ := H4.out (by omega)
      have hck := hcell k hlt
      have HC := hasB_snoc zs k c (by rw [H1.out]; exact hlt)
      rw [hc.out, Bool.false_or] at HC
      have HC' := Lib.hid HC
      clear HC hcell
      by_cases heq : (zs[k]?.getD 0 == c) = true
      · go_wp2
        go_ret
        refine ⟨ret_bool ?_, rfl⟩
        have h5 := HC'.out
        rw [heq] at h5
        simp only [hasB, List.contains_iff_mem] at h5
        have h6 : c ∈ zs := List.mem_of_mem_take h5
        simp [hasB, h6]
      · have heq' : (zs[k]?.getD 0 == c) = false := by simpa using heq
        clear heq
        go_wp2
        go_round
        case rel => exact ⟨k + 1, by omega, by go_num, by unfold Hid; rw [HC'.out, heq']⟩
        case measure => simp [intOf]; omega
    · go_wp2
      go_ret
      refine ⟨ret_bool ?_, rfl⟩
      have h5 := hc.out
      rw [List.take_of_length_le (by rw [H1.out]; omega)] at h5
      exact h5.symm

theorem prefL_alt (x y : Int) (hxy : x ≠ y) : ∀ zs : List Int, prefL zs x y = (hasB zs x && !prefL zs y x)
  | [] => rfl
  | z :: t => by
    have ih := prefL_alt x y hxy t
    by_cases hx : z = x
    · have hy : z ≠ y := by rw [hx]; exact hxy
      rw [prefL, if_pos hx, prefL, if_neg hy, if_pos hx]
      simp [hasB, hx]
    · by_cases hy : z = y
      · rw [prefL, if_neg hx, if_pos hy, prefL, if_pos hy]
        simp
      · rw [prefL, if_neg hx, if_neg hy, prefL, if_neg hy, if_neg hx, ih]
        have e : hasB (z :: t) x = hasB t x := by
          unfold hasB
          rw [List.contains_cons]
          have : (x == z) = false := by simpa using fun e => hx e.symm
          rw [this, Bool.false_or]
        rw [e]

set_option maxHeartbeats 1000000 in
/-- **before**, at two different numbers. -/
theorem before_any (a : Option Addr) (len cap : Nat) (zs : List Int) (x y : Int) (w : World) (h : IsInts w a len cap zs) (hxy : x ≠ y) :
    Calls Try.prog 32 #[.slice a len cap, .int .i64 x, .int .i64 y] w fun e w' => e = .returned (.bool (prefL zs x y)) ∧ w = w' := by
  obtain ⟨h1, h2, h3, h4⟩ := h
  have H1 := Lib.hid h1; clear h1
  have H4 := Lib.hid h4; clear h4
  have hne : (x != y) = true := by simpa using hxy
  have HXY := Lib.hid hxy; clear hxy
  go_enter Try.func32, Try.ntmps32
  go_wp2
  go_loop [7] (fun i => ∃ k : Nat, k ≤ len ∧ i = .int .i64 k ∧ Hid (prefL zs x y = prefL (zs.drop k) x y)) (fun i => len - (intOf i).toNat)
  case atStart => exact ⟨0, Nat.zero_le _, rfl, by simp [Hid]⟩
  case round =>
    obtain ⟨k, hk, rfl, hp⟩ := hrel
    by_cases hlt : k < len
    · obtain ⟨b, o, rfl, hb, hc⟩ := H4.out (by omega)
      have hz := hc k hlt
      clear hc
      have HD := Lib.hid (drop_cons zs k (by rw [H1.out]; exact hlt))
      cases hzx : (zs[k]?.getD 0 == x)
      · cases hzy : (zs[k]?.getD 0 == y)
        · have HX := Lib.hid hzx
          have HY := Lib.hid hzy
          go_wp2
          go_round
          case rel =>
            refine ⟨k + 1, by omega, by go_num, ?_⟩
            unfold Hid
            rw [hp.out, HD.out, prefL, if_neg (by simpa using HX.out), if_neg (by simpa using HY.out)]
          case measure => simp [intOf]; omega
        · have HX := Lib.hid hzx
          have HY := Lib.hid hzy
          go_wp2
          go_ret
          refine ⟨ret_bool ?_, rfl⟩
          rw [hp.out, HD.out, prefL, if_neg (by simpa using HX.out), if_pos (by simpa using HY.out)]
      · have HX := Lib.hid hzx
        go_wp2
        go_ret
        refine ⟨ret_bool ?_, rfl⟩
        rw [hp.out, HD.out, prefL, if_pos (by simpa using HX.out)]
    · obtain rfl : k = len := by omega
      go_wp2
      go_ret
      refine ⟨ret_bool ?_, rfl⟩
      rw [hp.out, List.drop_of_length_le (by rw [H1.out]; omega)]; rfl

end Go.Proofs.Ytppnngccjlnejaa
