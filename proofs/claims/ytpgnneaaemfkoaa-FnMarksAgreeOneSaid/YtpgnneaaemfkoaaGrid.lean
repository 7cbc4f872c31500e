/-
  What a slice of slices of ints holds; l2Count and spec.MarksAgree. No condition but what each theorem says.
-/
import Derived.Test.YtpgnneaaemfkoaaAgreeP
import Derived.Test.YtpgnneaaemfkoaaOwn
namespace Go.Proofs.Ytpgnneaaemfkoaa
open Go.RowKit

/-- The slice value reads as the rows rs. -/
def IsRows (w : World) (a : Option Addr) (len cap : Nat) (rs : List (List Int)) : Prop :=
  rs.length = len ∧ len ≤ cap ∧ len ≤ 1048600 ∧ (0 < len → ∃ b off, a = some ⟨b, off, none⟩ ∧ b < w.heap.size ∧
    ∀ j, j < len → ∃ aj lj cj, w.cell? ⟨b, off + j, none⟩ = some (.slice aj lj cj) ∧ IsInts w aj lj cj (rs[j]?.getD []))

theorem IsRows.below {w w' : World} {a : Option Addr} {len cap : Nat} {rs : List (List Int)} (h : IsRows w a len cap rs) (hb : Below w.heap.size w w') : IsRows w' a len cap rs := by
  obtain ⟨h1, h2, h3, h4⟩ := h
  refine ⟨h1, h2, h3, fun hl => ?_⟩
  obtain ⟨b, off, e, hlt, hc⟩ := h4 hl
  refine ⟨b, off, e, Nat.lt_of_lt_of_le hlt hb.size, fun j hj => ?_⟩
  obtain ⟨aj, lj, cj, hcj, hj2⟩ := hc j hj
  exact ⟨aj, lj, cj, (hb.cell (p := ⟨b, off + j, none⟩) hlt).trans hcj, hj2.below hb⟩
theorem IsRows.dr {w w' : World} {a : Option Addr} {len cap : Nat} {rs : List (List Int)} (h : IsRows w a len cap rs) (hd : Dr w w') : IsRows w' a len cap rs := h.below (hd.below _)

/-- All rows have at least c + 1 ints. -/
def Wide (rs : List (List Int)) (c : Nat) : Prop := ∀ i, i < rs.length → c < (rs[i]?.getD []).length

set_option maxHeartbeats 2000000 in
/-- **l2Count**. -/
theorem l2Count_any (a : Option Addr) (len cap : Nat) (rs : List (List Int)) (c : Nat) (m : Int) (w : World) (h : IsRows w a len cap rs) (hw : Wide rs c) :
    Calls Try.prog 29 #[.slice a len cap, .int .i64 (c : Int), .int .i64 m] w fun e w' => e = .returned (.int .i64 (cnt rs c m : Int)) ∧ w = w' := by
  obtain ⟨h1, h2, h3, h4⟩ := h
  have H1 := Lib.hid h1; clear h1
  have H4 := Lib.hid h4; clear h4
  have HW := Lib.hid hw; clear hw
  go_enter Try.func29, Try.ntmps29
  go_wp2
  go_loop [7, 8] (fun n i => ∃ k q : Nat, k ≤ len ∧ q ≤ k ∧ i = .int .i64 k ∧ n = .int .i64 q ∧ Hid (q = cnt (rs.take k) c m)) (fun _ i => len - (intOf i).toNat)
  case atStart => exact ⟨0, 0, Nat.zero_le _, Nat.le_refl _, rfl, rfl, by simp [Hid, cnt]⟩
  case round =>
    obtain ⟨k, q, hk, hq, rfl, rfl, hc⟩ := hrel
    by_cases hlt : k < len
    · obtain ⟨b, off, rfl, hb, hcell⟩ := H4.out (by omega)
      obtain ⟨aj, lj, cj, hcj, hI⟩ := hcell k hlt
      have hwj := HW.out k (by rw [H1.out]; exact hlt)
      have hwl : c < lj := by rw [← hI.1]; exact hwj
      obtain ⟨bj, oj, rfl, hbj, hcellj⟩ := hI.2.2.2 (by omega)
      have hz := hcellj c hwl
      have HS := Lib.hid (cnt_take rs c m k (by rw [H1.out]; exact hlt))
      have hlj := hI.2.2.1
      clear hcell hI hcellj hwj
      by_cases heq : (rs[k]?.getD [])[c]?.getD 0 = m
      · have hb1 : ((rs[k]?.getD [])[c]?.getD 0 == m) = true := by simpa using heq
        have HE := Lib.hid heq; clear heq
        go_wp2
        go_round
        case rel => exact ⟨k + 1, q + 1, by omega, by omega, by go_num, by go_num, by unfold Hid; rw [HS.out, if_pos HE.out, hc.out]⟩
        case measure => simp [intOf]; omega
      · have hb1 : ((rs[k]?.getD [])[c]?.getD 0 == m) = false := by simpa using heq
        have HE := Lib.hid heq; clear heq
        go_wp2
        go_round
        case rel => exact ⟨k + 1, q, by omega, by omega, by go_num, rfl, by unfold Hid; rw [HS.out, if_neg HE.out, hc.out]; rfl⟩
        case measure => simp [intOf]; omega
    · obtain rfl : k = len := by omega
      go_wp2
      go_ret
      refine ⟨ret_int ?_, rfl⟩
      have h5 := hc.out
      rw [← H1.out, cnt_all] at h5
      rw [h5]

end Go.Proofs.Ytpgnneaaemfkoaa
