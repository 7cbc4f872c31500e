/-
  impl.turnedText and spec.l3Turn: two candidates of a ballot are exchanged.
-/
import Derived.Test.YtdmjgicopnihgaaPiles
import Derived.Test.YtdmjgicopnihgaaParseB
import Derived.Test.YtdmjgicopnihgaaStepA
namespace Go.Proofs.Ytdmjgicopnihgaa
open Go.RowKit

/-- The first k are exchanged. -/
def mixed (x y : Int) (zs : List Int) (k : Nat) : List Int := (zs.take k).map (swapC x y) ++ zs.drop k
theorem mixed_zero (x y : Int) (zs : List Int) : mixed x y zs 0 = zs := by simp [mixed]
theorem mixed_all (x y : Int) (zs : List Int) : mixed x y zs zs.length = turnB x y zs := by simp [mixed, turnB]
theorem mixed_length (x y : Int) (zs : List Int) (k : Nat) (hk : k ≤ zs.length) : (mixed x y zs k).length = zs.length := by simp [mixed]; omega
theorem mixed_at (x y : Int) (zs : List Int) (k : Nat) (hk : k < zs.length) : (mixed x y zs k)[k]?.getD 0 = zs[k]?.getD 0 := by
  unfold mixed
  rw [List.getElem?_append_right (by simp; omega)]
  simp [show min k zs.length = k by omega]
theorem mixed_step (x y : Int) (zs : List Int) (k : Nat) (hk : k < zs.length) {z : Int} (hz : zs[k]?.getD 0 = z) : ((mixed x y zs k).map (Value.int .i64)).set k (.int .i64 (swapC x y z)) = (mixed x y zs (k + 1)).map (Value.int .i64) := by
  have e : zs[k] = z := by rw [← hz]; simp [hk]
  unfold mixed
  rw [List.take_succ_eq_append_getElem hk, List.drop_eq_getElem_cons hk, e]
  simp only [List.map_append, List.map_cons, List.map_nil, List.append_assoc, List.cons_append, List.nil_append]
  rw [List.set_append_right _ _ (by simp; omega)]
  simp [show min k zs.length = k by omega]
theorem mixed_keep (x y : Int) (zs : List Int) (k : Nat) (hk : k < zs.length) {z : Int} (hz : zs[k]?.getD 0 = z) (he : swapC x y z = z) : mixed x y zs k = mixed x y zs (k + 1) := by
  have e : zs[k] = z := by rw [← hz]; simp [hk]
  unfold mixed
  rw [List.take_succ_eq_append_getElem hk, List.drop_eq_getElem_cons hk, e]
  simp [he]

set_option maxRecDepth 100000 in
set_option maxHeartbeats 4000000 in
/-- **impl.turnedText**. -/
theorem turnedText_as (t : ByteArray) (x y : Int) (t' : ByteArray) (w : World) (hs : t.size ≤ 1048600) (ht : turnT x y t = t') :
    Calls Try.prog 47 #[.string t, .int .i64 x, .int .i64 y] w fun e w' => e = .returned (.string t') ∧ Below w.heap.size w w' := by
  obtain ⟨zs, hzs⟩ : ∃ zs, parseL t = zs := ⟨_, rfl⟩
  obtain ⟨ok, hok⟩ : ∃ ok, validB (nums t) 5 = ok := ⟨_, rfl⟩
  have hl5 : zs.length ≤ 5 := by rw [← hzs]; exact parseL_short t
  have HT : Hid (txtB (turnB x y zs) = t') := by rw [Hid, ← ht, ← hzs]; rfl
  have HZ := Lib.hid hzs
  have HOK := Lib.hid hok
  obtain ⟨G, hG⟩ : ∃ G, w.heap.size = G := ⟨_, rfl⟩
  clear hzs hok ht
  go_enter Try.func47, Try.ntmps47
  go_wp2_with fail
  refine (implParse_as t zs ok _ hs HZ.out HOK.out).mono ?_
  rintro e w1 ⟨a, cap, rfl, ho, hb⟩
  rw [hG] at ho
  have HO := Lib.hid ho
  have HB := Lib.hid (hG ▸ hb)
  clear ho hb
  go_wp2
  go_loopw [18] (fun i wr => ∃ k : Nat, k ≤ zs.length ∧ i = .int .i64 k ∧ Hid (wr.ownsRow G 3 1 (.slice a zs.length cap) zs.length ((mixed x y zs k).map (Value.int .i64))) ∧ Below G w wr) (fun i _ => zs.length - (intOf i).toNat)
  case atStart => exact ⟨0, Nat.zero_le _, rfl, by rw [mixed_zero]; exact HO, HB.out⟩
  case round =>
    obtain ⟨k, hk, rfl, ho, hB⟩ := hrel
    by_cases hlt : k < zs.length
    · obtain ⟨g, rfl⟩ : ∃ g, a = some ⟨g, 0, none⟩ := by
        rcases ho.out.2 with ⟨_, e0⟩ | ⟨g, c, _, e, _, _⟩
        · omega
        · injection e with e1 _ _; exact ⟨g, e1⟩
      obtain ⟨z, hz⟩ : ∃ z, zs[k]?.getD 0 = z := ⟨_, rfl⟩
      have hc : wr.cell? ⟨g, k, none⟩ = some (.int .i64 z) := by
        rw [ho.out.cellAt k (by omega)]
        have hl : k < (mixed x y zs k).length := by rw [mixed_length x y zs k hk]; exact hlt
        have := mixed_at x y zs k hlt
        rw [hz] at this
        simp [hl] at this ⊢
        exact this
      have hf := ho.out.frozenAt k
      have hgG : G ≤ g := (ho.out.lt g rfl).1
      have hGw : G ≤ wr.heap.size := by have := hB.size; rw [hG] at this; exact this
      have HS := Lib.hid (ho.out.stored k (.int .i64 (swapC x y z)))
      have HST := Lib.hid (mixed_step x y zs k hlt hz)
      have HKP : Hid (swapC x y z = z → mixed x y zs k = mixed x y zs (k + 1)) := fun he => mixed_keep x y zs k hlt hz he
      clear hz
      rcases Decidable.em (z = x) with e1 | e1
      · have hw : Hid (swapC x y z = y) := by simp [Hid, swapC, e1]
        rw [hw.out] at HS HST
        have he1 : (z == x) = true := by simp [e1]
        clear HKP hw e1
        go_wp2
        go_roundw
        case rel => exact ⟨k + 1, by omega, by go_num, by unfold Hid; rw [← HST.out]; exact HS.out.1, hB.grown HS.out.2 hGw (fun i ei => by cases ei; exact hgG)⟩
        case measure => simp [intOf]; omega
      · have he1 : (z == x) = false := by simp [e1]
        rcases Decidable.em (z = y) with e2 | e2
        · have hw : Hid (swapC x y z = x) := by simp [Hid, swapC, e2]
          rw [hw.out] at HS HST
          have he2 : (z == y) = true := by simp [e2]
          clear HKP hw e1 e2
          go_wp2
          go_roundw
          case rel => exact ⟨k + 1, by omega, by go_num, by unfold Hid; rw [← HST.out]; exact HS.out.1, hB.grown HS.out.2 hGw (fun i ei => by cases ei; exact hgG)⟩
          case measure => simp [intOf]; omega
        · have hw : swapC x y z = z := by simp [swapC, e1, e2]
          have HK := Lib.hid (HKP.out hw)
          have he2 : (z == y) = false := by simp [e2]
          clear HKP hw e1 e2 HS HST
          go_wp2
          go_roundw
          case rel => exact ⟨k + 1, by omega, by go_num, by rw [← HK.out]; exact ho, hB⟩
          case measure => simp [intOf]; omega
    · obtain ⟨n, hn⟩ : ∃ n, zs.length = n := ⟨_, rfl⟩
      obtain rfl : k = zs.length := by omega
      rw [mixed_all] at ho
      have hlt2 : (turnB x y zs).length = zs.length := by simp [turnB]
      have I := Lib.hid (IsInts.of_owned ho.out (by omega))
      have HL := Lib.hid hlt2
      have hBw : Below w.heap.size w wr := hG.symm ▸ hB
      clear ho hlt2 hlt hn
      go_wp2_with fail
      refine (implText_any _ zs.length cap (turnB x y zs) _ I.out).mono ?_
      rintro e w2 ⟨he, hb2⟩
      rw [HT.out] at he
      subst he
      go_wp2
      go_ret
      exact ⟨rfl, hBw.trans (hb2.mono hBw.size)⟩

end Go.Proofs.Ytdmjgicopnihgaa
