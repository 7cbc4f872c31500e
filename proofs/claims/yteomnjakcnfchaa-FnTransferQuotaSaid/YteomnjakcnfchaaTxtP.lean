/-
  Texts and ballots, as lists. Of no memory.
-/
import Derived.Test.YteomnjakcnfchaaOfL
import Derived.Laws.BytesArg
namespace Go.Proofs.Yteomnjakcnfchaa

/-- The letters of candidates. -/
def txtOf (zs : List Int) : ByteArray := strOfNums (zs.map fun z => 97 + z)
theorem txtOf_size (zs : List Int) : (txtOf zs).size = zs.length := by simp [txtOf, strOfNums_size]
theorem txtOf_snoc (zs : List Int) (z : Int) : txtOf (zs ++ [z]) = txtOf zs ++ txtOf [z] := by
  apply ByteArray.ext
  simp [txtOf, strOfNums]
def txtB (zs : List Int) : ByteArray := if validB zs 5 = true then txtOf zs else ByteArray.empty
theorem letter_of (c : Nat) (h : c < 5) : (ByteArray.mk #[97, 98, 99, 100, 101]).extract c (c + 1) = txtOf [(c : Int)] := by
  have e : c = 0 ∨ c = 1 ∨ c = 2 ∨ c = 3 ∨ c = 4 := by omega
  rcases e with rfl | rfl | rfl | rfl | rfl <;> (apply ByteArray.ext; decide)
theorem take_snoc (zs : List Int) (k : Nat) (h : k < zs.length) : zs.take (k + 1) = zs.take k ++ [zs[k]?.getD 0] := by
  rw [List.take_succ_eq_append_getElem h]; simp [h]

/-- The numbers of a text's letters. -/
def numsL (l : List UInt8) : List Int := l.map fun b => (b.toNat : Int) - 97
def nums (s : ByteArray) : List Int := numsL s.data.toList
theorem nums_length (s : ByteArray) : (nums s).length = s.size := by simp only [nums, numsL, List.length_map, Array.length_toList]; rfl
theorem nums_at (s : ByteArray) (k : Nat) (h : k < s.size) : (nums s)[k]?.getD 0 = (s[k].toNat : Int) - 97 := by
  have h' : k < s.data.toList.length := by rw [Array.length_toList]; exact h
  simp only [nums, numsL, List.getElem?_map, List.getElem?_eq_getElem h', Option.map_some, Option.getD_some]
  rfl

/-- The ballot of a text. -/
def parseL (s : ByteArray) : List Int := if validB (nums s) 5 = true then nums s else []
theorem nums_step (s : ByteArray) (k : Nat) (h : k < s.size) : (nums s).take (k + 1) = (nums s).take k ++ [(s[k].toNat : Int) - 97] := by
  rw [take_snoc _ k (by rw [nums_length]; exact h), nums_at s k h]

theorem parseL_short (s : ByteArray) : (parseL s).length ≤ 5 := by
  unfold parseL
  cases h : validB (nums s) 5
  · simp
  · simpa using (by have := vB_short h; omega)

theorem nums_txt {zs : List Int} (h : ∀ z ∈ zs, 0 ≤ z ∧ z < 5) : nums (txtOf zs) = zs := by
  show (((zs.map fun z => 97 + z).map fun n => UInt8.ofNat n.toNat).map fun b => (b.toNat : Int) - 97) = zs
  rw [List.map_map, List.map_map]
  conv => rhs; rw [← List.map_id zs]
  apply List.map_congr_left
  intro z hz
  have := h z hz
  simp only [Function.comp, UInt8.toNat_ofNat', id]
  omega
theorem txtB_valid {zs : List Int} (hv : validB zs 5 = true) : txtB zs = txtOf zs := by simp [txtB, hv]
theorem txtB_size {zs : List Int} (hv : validB zs 5 = true) : (txtB zs).size = zs.length := by rw [txtB_valid hv, txtOf_size]
theorem txtB_nums {zs : List Int} (hv : validB zs 5 = true) : nums (txtB zs) = zs := by rw [txtB_valid hv, nums_txt (vB_mem hv).2.2]
theorem txtB_parse {zs : List Int} (hv : validB zs 5 = true) : parseL (txtB zs) = zs := by simp [parseL, txtB_nums hv, hv]
theorem txtB_ok {zs : List Int} (hv : validB zs 5 = true) : validB (nums (txtB zs)) 5 = true := by rw [txtB_nums hv, hv]
theorem txt_nums (s : ByteArray) : txtOf (nums s) = s := by
  apply ByteArray.ext
  apply Array.ext'
  show (((s.data.toList.map fun b => (b.toNat : Int) - 97).map fun z => 97 + z).map fun n => UInt8.ofNat n.toNat) = s.data.toList
  rw [List.map_map, List.map_map]
  conv => rhs; rw [← List.map_id s.data.toList]
  apply List.map_congr_left
  intro b _
  simp only [Function.comp, id]
  have e : (97 + ((b.toNat : Int) - 97)).toNat = b.toNat := by omega
  rw [e]
  exact UInt8.ofNat_toNat
theorem txtB_nums' {s : ByteArray} (hv : validB (nums s) 5 = true) : txtB (nums s) = s := by rw [txtB_valid hv, txt_nums]
theorem parseL_ok {s : ByteArray} (hv : validB (nums s) 5 = true) : parseL s = nums s := by simp [parseL, hv]
theorem parseL_no {s : ByteArray} (hv : validB (nums s) 5 = false) : parseL s = [] := by simp [parseL, hv]
theorem nums_append (s t : ByteArray) : nums (s ++ t) = nums s ++ nums t := by
  simp [nums, numsL, ByteArray.data_append]

end Go.Proofs.Yteomnjakcnfchaa
