/-
  The text of what was read is the text; a text with a letter more, that is there already or is no candidate's, is none. Plain lists.
-/
import Derived.Test.YtppnngccjlnejaaTextB
namespace Go.Proofs.Ytppnngccjlnejaa
open Go.RowKit

theorem txt_nums (s : ByteArray) : txtOf (nums s) = s := by
  apply ByteArray.ext
  apply Array.ext'
  show (((s.data.toList.map fun b => (b.toNat : Int) - 97).map fun z => 97 + z).map fun n => UInt8.ofNat n.toNat) = s.data.toList
  rw [List.map_map, List.map_map]
  conv => rhs; rw [← List.map_id s.data.toList]
  apply List.map_congr_left
  intro b _
  simp only [Function.comp, id]
  have e : (97 + ((b.toNat : Int) - 97)).toNat = b.toNat := by omega
  rw [e]
  exact UInt8.ofNat_toNat
theorem txtB_nums' {s : ByteArray} (hv : validB (nums s) 5 = true) : txtB (nums s) = s := by rw [txtB_valid hv, txt_nums]
theorem parseL_ok {s : ByteArray} (hv : validB (nums s) 5 = true) : parseL s = nums s := by simp [parseL, hv]
theorem parseL_no {s : ByteArray} (hv : validB (nums s) 5 = false) : parseL s = [] := by simp [parseL, hv]
theorem nums_append (s t : ByteArray) : nums (s ++ t) = nums s ++ nums t := by
  simp [nums, numsL, ByteArray.data_append]
theorem bad_snoc {zs : List Int} {z : Int} (h : (inB z 0 4 && !hasB zs z) = false) : validB (zs ++ [z]) 5 = false := by
  rw [validB_in (by omega) (by omega)]
  show goodL (zs ++ [z]) 4 = false
  rw [goodL_snoc, h, Bool.and_false]
theorem again_bad (s : ByteArray) (h : 0 < s.size) : validB (nums (s ++ s.extract 0 1)) 5 = false := by
  have hl : 0 < s.data.toList.length := by rw [Array.length_toList]; exact h
  obtain ⟨b, t, hbt⟩ : ∃ b t, s.data.toList = b :: t := by
    cases hs : s.data.toList with
    | nil => rw [hs] at hl; simp at hl
    | cons b t => exact ⟨b, t, rfl⟩
  have e1 : nums (s.extract 0 1) = [(b.toNat : Int) - 97] := by
    unfold nums numsL
    have : (s.extract 0 1).data.toList = [b] := by
      rw [ByteArray.data_extract]
      simp [hbt]
    rw [this]; rfl
  rw [nums_append, e1]
  apply bad_snoc
  have : hasB (nums s) ((b.toNat : Int) - 97) = true := by
    unfold hasB nums numsL
    rw [hbt]; simp
  rw [this]; simp
theorem f_bad (s : ByteArray) : validB (nums (s ++ ⟨#[102]⟩)) 5 = false := by
  have e1 : nums ⟨#[102]⟩ = [5] := by decide
  rw [nums_append, e1]
  apply bad_snoc
  simp [inB]

end Go.Proofs.Ytppnngccjlnejaa
