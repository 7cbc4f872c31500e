/-
  The text of a valid ballot is read as this ballot. Plain lists; no condition but what each theorem says.
-/
import Derived.Test.YtppnngccjlnejaaParseB
namespace Go.Proofs.Ytppnngccjlnejaa
open Go.RowKit

theorem nums_txt {zs : List Int} (h : ∀ z ∈ zs, 0 ≤ z ∧ z < 5) : nums (txtOf zs) = zs := by
  show (((zs.map fun z => 97 + z).map fun n => UInt8.ofNat n.toNat).map fun b => (b.toNat : Int) - 97) = zs
  rw [List.map_map, List.map_map]
  conv => rhs; rw [← List.map_id zs]
  apply List.map_congr_left
  intro z hz
  have := h z hz
  simp only [Function.comp, UInt8.toNat_ofNat', id]
  omega
theorem txtB_valid {zs : List Int} (hv : validB zs 5 = true) : txtB zs = txtOf zs := by simp [txtB, hv]
theorem txtB_size {zs : List Int} (hv : validB zs 5 = true) : (txtB zs).size = zs.length := by rw [txtB_valid hv, txtOf_size]
theorem txtB_nums {zs : List Int} (hv : validB zs 5 = true) : nums (txtB zs) = zs := by rw [txtB_valid hv, nums_txt (validB_mem hv).2.2]
theorem txtB_parse {zs : List Int} (hv : validB zs 5 = true) : parseL (txtB zs) = zs := by simp [parseL, txtB_nums hv, hv]
theorem txtB_ok {zs : List Int} (hv : validB zs 5 = true) : validB (nums (txtB zs)) 5 = true := by rw [txtB_nums hv, hv]

end Go.Proofs.Ytppnngccjlnejaa
