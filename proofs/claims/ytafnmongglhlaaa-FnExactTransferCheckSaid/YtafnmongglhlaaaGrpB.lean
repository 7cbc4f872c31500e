/-
  spec.BallotText and impl.BallotText answer alike: for every ballot of at most 1048600 ints; neither writes into memory that was there.
  impl.turnedText and spec.l3Turn: two candidates of a ballot are exchanged.
  impl.PilesTurn: for lists of piles with texts of at most 1048600 bytes; what it returns is memory of its own.
  spec.l3Turn and spec.PilesTurn: for lists of piles with texts of at most 1048600 bytes; what they return is memory of their own.
  What the drawn statements of piles share.
-/
import Derived.Test.YtafnmongglhlaaaGrp3
import Derived.Test.YtafnmongglhlaaaGrp2
import Derived.Test.YtafnmongglhlaaaGrp4
import Derived.Test.YtafnmongglhlaaaGrpA
import Derived.Deep.RegionHeld3
import Derived.Test.YtafnmongglhlaaaGrp5
import Derived.Deep.RegionWith
namespace Go.Proofs.Ytafnmongglhlaaa
open Go.RowKit Go.Shelf

attribute [local go_sem] Oper.semAt_some

end Go.Proofs.Ytafnmongglhlaaa

namespace Go.Proofs.Ytafnmongglhlaaa
open Go.RowKit

/-- The first k are exchanged. -/
def mixed (x y : Int) (zs : List Int) (k : Nat) : List Int := (zs.take k).map (swapC x y) ++ zs.drop k
theorem mixed_zero (x y : Int) (zs : List Int) : mixed x y zs 0 = zs := by simp [mixed]
theorem mixed_all (x y : Int) (zs : List Int) : mixed x y zs zs.length = turnB x y zs := by simp [mixed, turnB]
theorem mixed_length (x y : Int) (zs : List Int) (k : Nat) (hk : k ≤ zs.length) : (mixed x y zs k).length = zs.length := by simp [mixed]; omega
theorem mixed_at (x y : Int) (zs : List Int) (k : Nat) (hk : k < zs.length) : (mixed x y zs k)[k]?.getD 0 = zs[k]?.getD 0 := by
  unfold mixed
  rw [List.getElem?_append_right (by simp; omega)]
  simp [show min k zs.length = k by omega]
theorem mixed_step (x y : Int) (zs : List Int) (k : Nat) (hk : k < zs.length) {z : Int} (hz : zs[k]?.getD 0 = z) : ((mixed x y zs k).map (Value.int .i64)).set k (.int .i64 (swapC x y z)) = (mixed x y zs (k + 1)).map (Value.int .i64) := by
  have e : zs[k] = z := by rw [← hz]; simp [hk]
  unfold mixed
  rw [List.take_succ_eq_append_getElem hk, List.drop_eq_getElem_cons hk, e]
  simp only [List.map_append, List.map_cons, List.map_nil, List.append_assoc, List.cons_append, List.nil_append]
  rw [List.set_append_right _ _ (by simp; omega)]
  simp [show min k zs.length = k by omega]
theorem mixed_keep (x y : Int) (zs : List Int) (k : Nat) (hk : k < zs.length) {z : Int} (hz : zs[k]?.getD 0 = z) (he : swapC x y z = z) : mixed x y zs k = mixed x y zs (k + 1) := by
  have e : zs[k] = z := by rw [← hz]; simp [hk]
  unfold mixed
  rw [List.take_succ_eq_append_getElem hk, List.drop_eq_getElem_cons hk, e]
  simp [he]

end Go.Proofs.Ytafnmongglhlaaa

namespace Go.Proofs.Ytafnmongglhlaaa
open Go.RowKit Go.Maps

theorem Below.grownBy {w w' : World} (h : Below w.heap.size w w') : w.grownBy w' none := ⟨h.os, h.tape, h.output, h.size, fun k hk _ => h.block k hk⟩
/-- The piles, each with its text exchanged. -/
def tps (x y : Int) (ps : List Pl) : List Pl := ps.map fun p => (turnT x y p.1, p.2)
theorem tps_length (x y : Int) (ps : List Pl) : (tps x y ps).length = ps.length := by simp [tps]
theorem tAt_tps {x y : Int} {ps : List Pl} {k : Nat} (h : k < ps.length) : tAt (tps x y ps) k = turnT x y (tAt ps k) := by simp [tAt, tps, h]
theorem mAt_tps {x y : Int} {ps : List Pl} {k : Nat} (h : k < ps.length) : mAt (tps x y ps) k = mAt ps k := by simp [mAt, tps, h]
theorem mem_at {ps : List Pl} {k : Nat} (h : k < ps.length) : (tAt ps k, mAt ps k) ∈ ps := by
  have e : (tAt ps k, mAt ps k) = ps[k] := by simp [tAt, mAt, h]
  rw [e]; exact List.getElem_mem h
theorem tps_new {x y : Int} (hx : 0 ≤ x ∧ x ≤ 4) (hy : 0 ≤ y ∧ y ≤ 4) {ps : List Pl} (hv : pilesB ps = true) {k : Nat} (hk : k < ps.length) : ¬ ∃ p ∈ (tps x y ps).take k, p.1 = tAt (tps x y ps) k := by
  rintro ⟨p, hp, e⟩
  obtain ⟨i, hi, rfl⟩ := List.mem_iff_getElem.1 hp
  have hik : i < k := by have := hi; rw [List.length_take, tps_length] at this; omega
  have hil : i < ps.length := by omega
  have pv := pilesB_pos hv
  rw [tAt_tps hk] at e
  have e1 : ((tps x y ps).take k)[i].1 = turnT x y (tAt ps i) := by simp [tps, tAt, hil]
  rw [e1] at e
  have v1 := pv.2.2.2.1 _ (mem_at hil)
  have v2 := pv.2.2.2.1 _ (mem_at hk)
  have w1 := turnT_twice hx hy v1
  have w2 := turnT_twice hx hy v2
  have e2 : tAt ps i = tAt ps k := by
    have : turnT x y (turnT x y (tAt ps i)) = turnT x y (turnT x y (tAt ps k)) := by rw [e]
    exact w1.symm.trans (this.trans w2)
  exact tl_ne (asc_at pv.1 hik hk) e2
theorem txtB_short (zs : List Int) : (txtB zs).size ≤ zs.length := by
  unfold txtB
  split
  · rw [txtOf_size]; exact Nat.le_refl _
  · exact Nat.zero_le _
theorem turnT_short (x y : Int) (t : ByteArray) : (turnT x y t).size ≤ 5 := by
  refine Nat.le_trans (txtB_short _) ?_
  simp only [turnB, List.length_map]
  exact parseL_short t
theorem tps_pos {x y : Int} {ps : List Pl} (hv : pilesB ps = true) : ∀ p ∈ tps x y ps, 1 ≤ p.2 := fun p hp => by
  obtain ⟨q, hq, rfl⟩ := List.mem_map.1 hp
  exact (pilesB_pos hv).2.1 q hq
theorem turned_eq {x y : Int} {ts ps : List Pl} (h : Asc ts ∧ (∀ u, tot ts u = tot (tps x y ps) u) ∧ ∀ q ∈ ts, ∃ p ∈ tps x y ps, p.1 = q.1) (hv : pilesB ps = true) : ts = turnPs x y ps := by
  refine piles_ext h.1 (turnPs_asc x y ps) (fun q hq => ?_) (turnPs_pos (pilesB_pos hv).2.1) (fun u => ?_)
  · rw [← tot_mem h.1 q hq, h.2.1]; exact tot_pos (tps_pos hv) (h.2.2 q hq)
  · rw [h.2.1]; unfold turnPs; rw [tot_merge, tot_zero, Int.zero_add]; rfl

end Go.Proofs.Ytafnmongglhlaaa

namespace Go.Proofs.Ytafnmongglhlaaa
open Go.RowKit

theorem l6In_as (n lo hi : Int) (v : Bool) (w : World) (h : inB n lo hi = v) :
    Calls Try.prog 81 #[.int .i64 n, .int .i64 lo, .int .i64 hi] w fun e w' => e = .returned (.bool v) ∧ w = w' := by subst h; exact l6In_any n lo hi w
theorem turn_take {x y : Int} {zs : List Int} {k : Nat} (hk : k < zs.length) {z : Int} (hz : zs[k]?.getD 0 = z) : turnB x y (zs.take (k + 1)) = turnB x y (zs.take k) ++ [swapC x y z] := by
  have e : zs[k] = z := by rw [← hz]; simp [hk]
  rw [List.take_succ_eq_append_getElem hk, e]
  simp [turnB]
theorem ints_snoc (a : List Int) (z : Int) : (a ++ [z]).map (Value.int .i64) = a.map (Value.int .i64) ++ [.int .i64 z] := by simp

theorem specText_as (a : Option Addr) (len cap : Nat) (zs : List Int) (t : ByteArray) (w : World) (h : IsInts w a len cap zs) (ht : txtB zs = t) :
    Calls Try.prog 72 #[.slice a len cap] w fun e w' => e = .returned (.string t) ∧ Dr w w' := by subst ht; exact specText_any a len cap zs w h
theorem mAt_turn {x y : Int} {ps : List Pl} (h : pilesB ps = true) (k i : Nat) : 0 ≤ mAt (mergeL [] ((tps x y ps).take k)) i ∧ mAt (mergeL [] ((tps x y ps).take k)) i ≤ 1000000 := by
  refine mAt_merge (xs := []) rfl (fun p hp => ?_) ?_ i
  · obtain ⟨q, hq, rfl⟩ := List.mem_map.1 (List.mem_of_mem_take hp)
    exact mem_valid h q hq
  · rw [List.length_take, tps_length]; have := (pilesB_pos h).2.2.2.2; omega

end Go.Proofs.Ytafnmongglhlaaa

namespace Go.Proofs.Ytafnmongglhlaaa
open Go.RowKit

theorem valid_len {ps : List Pl} (h : pilesB ps = true) : ps.length ≤ 12 := (pilesB_pos h).2.2.2.2
theorem addL_cases (ps : List Pl) (t : ByteArray) (m : Int) : addL ps t m = [] ∨ pilesB (addL ps t m) = true := by
  cases h : addB ps t m
  · left; rw [addL, h]; rfl
  · right; exact addL_valid h
theorem joinL_cases (xs ys : List Pl) : joinL xs ys = [] ∨ pilesB (joinL xs ys) = true := by
  cases h : joinB xs ys
  · left; rw [joinL, h]; rfl
  · right; rw [joinL, h]; exact ((joinB_iff xs ys).1 h).2.2
theorem canL_cases (ps : List Pl) (x y : Int) : canL ps x y = [] ∨ pilesB (canL ps x y) = true := by
  cases h : canB ps x y
  · left; rw [canL, h]; rfl
  · right; rw [canL, h]; have := (canB_iff ps x y).1 h; exact turn_valid this.2.1 this.2.2 this.1
theorem small_nil : Small [] := fun i => by simp [tAt]
theorem of_cases {r : List Pl} (h : r = [] ∨ pilesB r = true) : r.length ≤ 12 ∧ Small r := by
  rcases h with rfl | h
  · exact ⟨by simp, small_nil⟩
  · exact ⟨valid_len h, small_valid h⟩
theorem totalL_range (ps : List Pl) : -1 ≤ totalL ps ∧ totalL ps ≤ 13000000 := by
  unfold totalL
  cases h : pilesB ps
  · simp
  · have hm := mAt_wide (mAt_valid h)
    have := sum_bound hm ps.length (Nat.le_refl _)
    rw [List.take_length] at this
    have hl := valid_len h
    simp
    omega
theorem wrap_tot (a b : List Pl) : IntKind.i64.wrap (totalL a + totalL b) = totalL a + totalL b := IntWalk.i64_in _ (by have := totalL_range a; have := totalL_range b; omega)

end Go.Proofs.Ytafnmongglhlaaa
