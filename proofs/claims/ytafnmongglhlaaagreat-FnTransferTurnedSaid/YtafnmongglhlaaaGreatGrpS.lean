/-
  What the walks over the sums and the winners of a run ask besides. Of no function.
-/
import Derived.Test.YtafnmongglhlaaaGreatGrpL
import Derived.Test.YtafnmongglhlaaaGreatGrp16
import Derived.Test.YtafnmongglhlaaaGreatGrp1
namespace Go.Proofs.YtafnmongglhlaaaGreat
open Go.RowKit

theorem fits_mem {ps : List Pl} {n : Int} (h : fitsB ps n = true) : ∀ i, i < ps.length → ∀ z ∈ parseL (tAt ps i), 0 ≤ z ∧ z < n :=
  fun i hi => (vB_mem ((fits_parts h).2.2.2 i hi)).2.2
theorem fs_add {D : Int} (hD : 1 ≤ D ∧ D ≤ 60) {cs : List Fr} (h : ∀ k, k < cs.length → TfOkC D 60 (fAt cs k)) (h5 : cs.length ≤ 5) (k : Nat) (hk : k < cs.length) : addOk (fsF (cs.take k)) (fAt cs k) = true := by
  obtain ⟨ih1, _⟩ := fs_ok hD h h5 k (by omega)
  have hc := h k hk
  obtain ⟨a1, _⟩ := okc_add ih1 hc
  exact (addOk_iff _ _).2 ⟨okc_wide ih1 hD (by omega), okc_wide hc hD (by omega), okc_wide a1 hD (by omega)⟩
theorem fs_step {ps : List Pl} {lots : List Int} {q : Int} {S : TfS} (A : TfArg ps lots q) (h : TfGood ps lots S) (hs : 1 ≤ S.s) : ∀ k, k < lots.length → addOk (fsF ((S.cs ps).take k)) (fAt (S.cs ps) k) = true := by
  have hlen : (S.cs ps).length = lots.length := by rw [cs_length, h.lg]
  have h5 := (lotsB_len A.lots).2
  obtain ⟨D, hD, _, hw, hc⟩ := h.cnt A hs
  have hcs : ∀ k, k < (S.cs ps).length → TfOkC D 60 (fAt (S.cs ps) k) := fun k hk => by
    have e : fAt (S.cs ps) k = tfCnt ps S.ws S.gs k ps.length := by
      rw [← tfC_nat, tfC_at (by omega) (by rw [h.lg]; omega), Int.toNat_natCast]
    rw [e]
    obtain ⟨g1, g2⟩ := hc k ps.length (Nat.le_refl _)
    refine ⟨g1.red, g1.dvd, g1.low, ?_⟩
    have := g1.high
    have := Int.mul_le_mul_of_nonneg_right g2 (Int.le_of_lt g1.pos)
    omega
  exact fun k hk => fs_add hD hcs (by omega) k (by omega)
theorem fs_run {ps : List Pl} {lots : List Int} {q : Int} (A : TfArg ps lots q) (f : Nat) (S : TfS) (h : TfGood ps lots S) : ∀ t ∈ tfRun ps lots q f S, ∀ k, k < lots.length → addOk (fsF (t.1.take k)) (fAt t.1 k) = true := by
  intro t ht
  obtain ⟨i, hi, rfl⟩ := List.mem_iff_getElem.1 ht
  obtain ⟨a, b, c⟩ := tf_at A f S h i hi
  have e : (tfRun ps lots q f S)[i] = tfStep ps lots q (tfAt ps lots q S i) := by
    rw [List.getElem?_eq_getElem hi] at a
    injection a
  rw [e]
  exact fs_step A b c

end Go.Proofs.YtafnmongglhlaaaGreat
