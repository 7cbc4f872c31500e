/-
  choicesUpTo and sumOf of impl: one to five numbers from 0 to a greatest one, and their sum. They write into no memory.
  The first candidate of a ballot who has not left, as lists. Of no memory.
  First preferences are counted, as lists: of ballots that come one pile after the other, of parts, and when somebody leaves. Of no memory.
  The plurality, as lists: the winner, a ballot more, two candidates exchanged, the margin. Of no memory.
  Seats by remainders over lists: shares, the rounds, what is left behind each; the same rounds by a stack of remainders. Of no memory.
  The iterators slices.Values at ints, letterCandidates and ballotCandidates: each yields its list in order, to every loop body that keeps what lay below. No condition but what each theorem says.
-/
import Derived.Test.YtbcemgmfkddafaaGrp3
import Derived.Test.YtbcemgmfkddafaaGrp1
import Derived.Test.YtbcemgmfkddafaaGrp2
import Derived.RangeFuncBox
import Derived.RangeFuncLeaves
import Derived.Shelf.Abstract
import Derived.OwnWalkIn
import Derived.TacticsInMore
import Derived.LoopNIn
import Derived.LoopIn
namespace Go.Proofs.Ytbcemgmfkddafaa
open Go.RowKit

set_option maxHeartbeats 1000000 in
/-- **choicesUpTo**. -/
theorem choices_as (a : Option Addr) (len cap : Nat) (zs : List Int) (m : Int) (v : Bool) (w : World) (h : IsInts w a len cap zs) (hv : choB zs m = v) :
    Calls Try.prog 69 #[.slice a len cap, .int .i64 m] w fun e w' => e = .returned (.bool v) ∧ w = w' := by
  obtain ⟨h1, h2, h3, h4⟩ := h
  have HV : Hid (v = (toB zs m len && inB (len : Int) 1 5)) := by unfold Hid; rw [← hv]; unfold choB; rw [h1]
  have H4 := Lib.hid h4; clear h4 h1 hv
  by_cases hl1 : len < 1
  · have e : v = false := by rw [HV.out]; simp [inB]; omega
    subst e
    go_enter Try.func69, Try.ntmps69
    go_wp2
    go_ret
    exact ⟨rfl, rfl⟩
  by_cases hl5 : 5 < len
  · have e : v = false := by rw [HV.out]; simp [inB]; omega
    subst e
    go_enter Try.func69, Try.ntmps69
    go_wp2
    go_ret
    exact ⟨rfl, rfl⟩
  have e : inB (len : Int) 1 5 = true := by simp [inB]; omega
  have HV : Hid (v = toB zs m len) := by unfold Hid; rw [HV.out, e, Bool.and_true]
  clear e
  go_enter Try.func69, Try.ntmps69
  go_wp2
  go_loop [6, 17] (fun _ i => ∃ k : Nat, k ≤ len ∧ i = .int .i64 k ∧ Hid (toB zs m k = true)) (fun _ i => len - (intOf i).toNat)
  case atStart => exact ⟨0, Nat.zero_le _, rfl, by simp [Hid, toB]⟩
  case round =>
    obtain ⟨k, hk, rfl, hc⟩ := hrel
    by_cases hlt : k < len
    · obtain ⟨b, off, rfl, hb, hcell⟩ := H4.out (by omega)
      have hck := hcell k hlt
      have HS := toB_succ zs m k
      rw [hc.out, Bool.true_and] at HS
      have HS := Lib.hid HS
      obtain ⟨z, hz⟩ : ∃ z, zs[k]?.getD 0 = z := ⟨_, rfl⟩
      rw [hz] at hck HS
      clear hcell hz
      by_cases hneg : z < 0
      · have hn : inB z 0 m = false := by simp [inB]; omega
        have HI := Lib.hid hn; clear hn
        go_wp2
        go_ret
        refine ⟨ret_bool ?_, rfl⟩
        rw [HV.out, toB_no (by rw [HS.out, HI.out]) hlt]
      · by_cases hbig : m < z
        · have hn : inB z 0 m = false := by simp [inB]; omega
          have HI := Lib.hid hn; clear hn
          go_wp2
          go_ret
          refine ⟨ret_bool ?_, rfl⟩
          rw [HV.out, toB_no (by rw [HS.out, HI.out]) hlt]
        · have hn : inB z 0 m = true := by simp [inB]; omega
          have HI := Lib.hid hn; clear hn
          go_wp2
          go_round
          case rel => exact ⟨k + 1, by omega, by go_num, by unfold Hid; rw [HS.out, HI.out]⟩
          case measure => simp [intOf]; omega
    · obtain rfl : k = len := by omega
      go_wp2
      go_ret
      refine ⟨ret_bool ?_, rfl⟩
      rw [HV.out, hc.out]

theorem tot_take {zs : List Int} {k : Nat} (h : k < zs.length) : totI (zs.take (k + 1)) = totI (zs.take k) + zs[k]?.getD 0 := by
  have e : zs[k]?.getD 0 = zs[k] := by simp [h]
  rw [List.take_succ_eq_append_getElem h, totI_snoc, e]
theorem tot_bound {zs : List Int} {m : Int} (hm : 0 ≤ m) {n : Nat} (hb : ∀ x : Nat, x < n → 0 ≤ zs[x]?.getD 0 ∧ zs[x]?.getD 0 ≤ m) : ∀ k, k ≤ n → 0 ≤ totI (zs.take k) ∧ totI (zs.take k) ≤ m * (k : Int)
  | 0, _ => by simp [totI_nil]
  | k + 1, h => by
    have ih := tot_bound hm hb k (by omega)
    have := hb k (by omega)
    have e : m * ((k + 1 : Nat) : Int) = m * (k : Int) + m := by rw [Int.natCast_add, Int.mul_add]; simp
    by_cases hk : k < zs.length
    · rw [tot_take hk, e]
      omega
    · have e2 : zs.take (k + 1) = zs.take k := by rw [List.take_of_length_le (by omega), List.take_of_length_le (by omega)]
      rw [e2, e]; omega

set_option maxHeartbeats 2000000 in
/-- **sumOf** of impl. -/
theorem implSum_as (a : Option Addr) (len cap : Nat) (zs : List Int) (s : Int) (w : World) (h : IsInts w a len cap zs) (hl : len ≤ 20) (hb : ∀ x : Nat, x < len → 0 ≤ zs[x]?.getD 0 ∧ zs[x]?.getD 0 ≤ 100000) (hs : totI zs = s) :
    Calls Try.prog 52 #[.slice a len cap] w fun e w' => e = .returned (.int .i64 s) ∧ w = w' := by
  obtain ⟨h1, h2, h3, h4⟩ := h
  have H1 := Lib.hid h1
  have H4 := Lib.hid h4
  have HB := Lib.hid hb
  have HS := Lib.hid hs
  clear h1 h4 hb hs
  go_enter Try.func52, Try.ntmps52
  go_wp2
  go_loop [3, 5, 8] (fun nv _ iv => ∃ (i : Nat) (t : Int), i ≤ len ∧ iv = .int .i64 (i : Int) ∧ nv = .int .i64 t ∧ Hid (totI (zs.take i) = t)) (fun _ _ iv => len - (intOf iv).toNat)
  case atStart => exact ⟨0, 0, Nat.zero_le _, rfl, rfl, by unfold Hid; simp [totI_nil]⟩
  case round =>
    obtain ⟨i, t, hil, rfl, rfl, hT⟩ := hrel
    by_cases hlt : i < len
    · obtain ⟨b, off, rfl, hb, hc⟩ := H4.out (by omega)
      have ci := hc i hlt
      obtain ⟨z, hz⟩ : ∃ z, zs[i]?.getD 0 = z := ⟨_, rfl⟩
      have hzb := HB.out i hlt
      have htb := tot_bound (m := 100000) (by omega) HB.out i (by omega)
      rw [hT.out] at htb
      rw [hz] at ci hzb
      have HT2 : Hid (totI (zs.take (i + 1)) = t + z) := by rw [Hid, tot_take (by rw [H1.out]; exact hlt), hz, hT.out]
      clear hc hz
      go_wp2
      go_round
      case rel => exact ⟨i + 1, t + z, by omega, by go_num, rfl, HT2⟩
      case measure => simp [intOf]; omega
    · obtain rfl : i = len := by omega
      have HE : Hid (t = s) := by rw [Hid, ← HS.out, ← hT.out, List.take_of_length_le (by rw [H1.out]; exact Nat.le_refl _)]
      go_wp2
      go_ret
      exact ⟨ret_int HE.out, rfl⟩

end Go.Proofs.Ytbcemgmfkddafaa

namespace Go.Proofs.Ytbcemgmfkddafaa

/-- The first of zs who has not left, or -1. -/
def firstL : List Int → List Bool → Int
  | [], _ => -1
  | z :: t, L => if L[z.toNat]?.getD false = true then firstL t L else z
theorem firstL_app {pre : List Int} {L : List Bool} (h : ∀ z ∈ pre, L[z.toNat]?.getD false = true) (rest : List Int) : firstL (pre ++ rest) L = firstL rest L := by
  induction pre with
  | nil => rfl
  | cons z t ih =>
    rw [List.cons_append, firstL, if_pos (h z (by simp))]
    exact ih (fun u hu => h u (by simp [hu]))
def firstB (zs : List Int) (L : List Bool) : Int := if validB zs (L.length : Int) = true then firstL zs L else -1

theorem firstL_mem (zs : List Int) (L : List Bool) : firstL zs L = -1 ∨ firstL zs L ∈ zs := by
  induction zs with
  | nil => exact .inl rfl
  | cons z t ih =>
    unfold firstL
    split
    · rcases ih with h | h
      · exact .inl h
      · exact .inr (by simp [h])
    · exact .inr (by simp)
theorem firstL_here {zs : List Int} {L : List Bool} (hz : ∀ z ∈ zs, 0 ≤ z) (h : 0 ≤ firstL zs L) : L[(firstL zs L).toNat]?.getD false = false := by
  induction zs with
  | nil => simp [firstL] at h
  | cons z t ih =>
    unfold firstL at h ⊢
    split
    · rename_i h1
      rw [if_pos h1] at h
      exact ih (fun u hu => hz u (by simp [hu])) h
    · rename_i h1
      simpa using h1
theorem set_at (L : List Bool) (k i : Nat) (h : k < L.length) : (L.set k true)[i]?.getD false = if i = k then true else L[i]?.getD false := by
  rw [List.getElem?_set]
  by_cases e : k = i
  · subst e; simp [h]
  · rw [if_neg e, if_neg (fun h => e h.symm)]
/-- Who stays is still the first one when another one leaves. -/
theorem firstL_set {zs : List Int} {L : List Bool} {k : Nat} (hk : k < L.length) (hz : ∀ z ∈ zs, 0 ≤ z) (h : firstL zs L ≠ (k : Int)) : firstL zs (L.set k true) = firstL zs L := by
  induction zs with
  | nil => rfl
  | cons z t ih =>
    have hz0 := hz z (by simp)
    unfold firstL at h ⊢
    by_cases h1 : L[z.toNat]?.getD false = true
    · rw [if_pos h1] at h ⊢
      rw [if_pos (by rw [set_at _ _ _ hk]; split <;> simp [h1])]
      exact ih (fun u hu => hz u (by simp [hu])) h
    · rw [if_neg h1] at h ⊢
      rw [if_neg (by rw [set_at _ _ _ hk, if_neg (by omega)]; exact h1)]
theorem firstL_set_some {zs : List Int} {L : List Bool} {k : Nat} (hk : k < L.length) (hz : ∀ z ∈ zs, 0 ≤ z) (h : 0 ≤ firstL zs (L.set k true)) : 0 ≤ firstL zs L := by
  by_cases e : firstL zs L = (k : Int)
  · omega
  · rwa [firstL_set hk hz e] at h
theorem firstL_none (zs : List Int) (n : Nat) : firstL zs (List.replicate n false) = zs.head?.getD (-1) := by
  cases zs with
  | nil => rfl
  | cons z t =>
    unfold firstL
    rw [if_neg (by rw [List.getElem?_replicate]; split <;> simp)]
    rfl

end Go.Proofs.Ytbcemgmfkddafaa

namespace Go.Proofs.Ytbcemgmfkddafaa

/-- Whether a text's first candidate is k. -/
def oneF (L : List Bool) (k : Nat) (t : ByteArray) : Int := if firstL (parseL t) L = (k : Int) then 1 else 0
/-- The counts of first preferences. -/
def countsL (ps : List Pl) (L : List Bool) : List Int := (List.range L.length).map fun k => wsum (oneF L k) ps
theorem countsL_length (ps : List Pl) (L : List Bool) : (countsL ps L).length = L.length := by simp [countsL]
theorem countsL_at (ps : List Pl) (L : List Bool) {k : Nat} (h : k < L.length) : (countsL ps L)[k]?.getD 0 = wsum (oneF L k) ps := by
  simp [countsL, h]
theorem countsL_nil (L : List Bool) : countsL [] L = List.replicate L.length 0 := by
  refine List.ext_getElem (by simp [countsL]) (fun i h1 h2 => ?_)
  simp [countsL, wsum_nil]
theorem countsL_hit {pre : List Pl} {p : Pl} {L : List Bool} {k : Nat} (hk : k < L.length) (h : firstL (parseL p.1) L = (k : Int)) : countsL (pre ++ [p]) L = (countsL pre L).set k ((countsL pre L)[k]?.getD 0 + p.2) := by
  rw [countsL_at _ _ hk]
  refine List.ext_getElem (by simp [countsL]) (fun i h1 h2 => ?_)
  have hi : i < L.length := by rwa [countsL_length] at h1
  rw [List.getElem_set]
  simp only [countsL, List.getElem_map, List.getElem_range, wsum_snoc]
  by_cases e : k = i
  · subst e
    rw [if_pos rfl]
    simp only [oneF, h, if_true, Int.one_mul]
  · rw [if_neg e]
    have : oneF L i p.1 = 0 := by unfold oneF; rw [h, if_neg (by omega)]
    rw [this, Int.zero_mul, Int.add_zero]
theorem countsL_miss {pre : List Pl} {p : Pl} {L : List Bool} (h : firstL (parseL p.1) L < 0) : countsL (pre ++ [p]) L = countsL pre L := by
  refine List.ext_getElem (by simp [countsL]) (fun i h1 h2 => ?_)
  simp only [countsL, List.getElem_map, List.getElem_range, wsum_snoc]
  have : oneF L i p.1 = 0 := by unfold oneF; rw [if_neg (by omega)]
  rw [this, Int.zero_mul, Int.add_zero]

theorem oneF_low (L : List Bool) (k : Nat) (t : ByteArray) : 0 ≤ oneF L k t := by unfold oneF; split <;> omega
theorem oneF_high (L : List Bool) (k : Nat) (t : ByteArray) : oneF L k t ≤ 1 := by unfold oneF; split <;> omega
theorem parse_pos (t : ByteArray) : ∀ z ∈ parseL t, 0 ≤ z := by
  intro z hz
  cases hv : validB (nums t) 5
  · rw [parseL_no hv] at hz; cases hz
  · rw [parseL_ok hv] at hz; exact ((vB_mem hv).2.2 z hz).1
/-- **Each ballot counts once.** -/
theorem counts_left {ps : List Pl} {L : List Bool} {k : Nat} (hk : k < L.length) (h : L[k]?.getD false = true) : (countsL ps L)[k]?.getD 0 = 0 := by
  rw [countsL_at _ _ hk, ← wsum_zero ps]
  refine wsum_congr (fun p _ => ?_)
  unfold oneF
  refine if_neg (fun e => ?_)
  have := firstL_here (parse_pos p.1) (L := L) (by omega)
  rw [e, Int.toNat_natCast, h] at this
  cases this
theorem counts_low {ps : List Pl} {L : List Bool} {k : Nat} (hk : k < L.length) (hp : ∀ p ∈ ps, 1 ≤ p.2) : 0 ≤ (countsL ps L)[k]?.getD 0 := by
  rw [countsL_at _ _ hk]
  exact wsum_nonneg (fun p _ => oneF_low _ _ _) hp
/-- The sum of all counts: each ballot that names somebody who is there. -/
def someF (L : List Bool) (t : ByteArray) : Int := if 0 ≤ firstL (parseL t) L ∧ firstL (parseL t) L < (L.length : Int) then 1 else 0
theorem counts_sum (ps : List Pl) (L : List Bool) : totI (countsL ps L) = wsum (someF L) ps := by
  unfold countsL
  rw [totI_wsum]
  refine wsum_congr (fun p _ => ?_)
  exact totI_one L.length _
theorem counts_most {ps : List Pl} {L : List Bool} (hp : ∀ p ∈ ps, 1 ≤ p.2) : totI (countsL ps L) ≤ sumL ps := by
  rw [counts_sum]
  exact wsum_most (fun p _ => by unfold someF; split <;> omega) hp
theorem count_most {ps : List Pl} {L : List Bool} {k : Nat} (hk : k < L.length) (hp : ∀ p ∈ ps, 1 ≤ p.2) : (countsL ps L)[k]?.getD 0 ≤ sumL ps := by
  rw [countsL_at _ _ hk]
  exact wsum_most (fun p _ => oneF_high _ _ _) hp
/-- **Who stays loses nothing.** -/
theorem counts_more {ps : List Pl} {L : List Bool} {k i : Nat} (hk : k < L.length) (hi : i < L.length) (hki : i ≠ k) (hp : ∀ p ∈ ps, 1 ≤ p.2) : (countsL ps L)[i]?.getD 0 ≤ (countsL ps (L.set k true))[i]?.getD 0 := by
  rw [countsL_at _ _ hi, countsL_at _ _ (by rw [List.length_set]; exact hi)]
  refine wsum_le (fun p _ => ?_) hp
  unfold oneF
  by_cases e : firstL (parseL p.1) L = (i : Int)
  · have e2 := firstL_set hk (parse_pos p.1) (show firstL (parseL p.1) L ≠ (k : Int) by omega)
    rw [if_pos e, if_pos (by rw [e2, e])]
    exact Int.le_refl _
  · rw [if_neg e]; split <;> omega
theorem counts_more_sum {ps : List Pl} {L : List Bool} {k : Nat} (hk : k < L.length) (hp : ∀ p ∈ ps, 1 ≤ p.2) : totI (countsL ps (L.set k true)) ≤ totI (countsL ps L) := by
  rw [counts_sum, counts_sum]
  refine wsum_le (fun p _ => ?_) hp
  unfold someF
  by_cases e : firstL (parseL p.1) L = (k : Int)
  · rw [if_pos (show 0 ≤ firstL (parseL p.1) L ∧ firstL (parseL p.1) L < (L.length : Int) by omega)]
    split <;> omega
  · rw [firstL_set hk (parse_pos p.1) e, List.length_set]
    exact Int.le_refl _
/-- **Counts of parts add up.** -/
theorem counts_parts (a b : List Pl) {L : List Bool} {i : Nat} (hi : i < L.length) : (countsL (a ++ b) L)[i]?.getD 0 = (countsL a L)[i]?.getD 0 + (countsL b L)[i]?.getD 0 := by
  rw [countsL_at _ _ hi, countsL_at _ _ hi, countsL_at _ _ hi, wsum_app]
theorem counts_merge (a b : List Pl) {L : List Bool} {i : Nat} (hi : i < L.length) : (countsL (mergeL a b) L)[i]?.getD 0 = (countsL a L)[i]?.getD 0 + (countsL b L)[i]?.getD 0 := by
  rw [countsL_at _ _ hi, countsL_at _ _ hi, countsL_at _ _ hi, wsum_merge]
theorem counts_put (a : List Pl) (t : ByteArray) (m : Int) {L : List Bool} {i : Nat} (hi : i < L.length) : (countsL (putL a t m) L)[i]?.getD 0 = (countsL a L)[i]?.getD 0 + oneF L i t * m := by
  rw [countsL_at _ _ hi, countsL_at _ _ hi, wsum_put]

/-- Piles fit n candidates. -/
def fitsB (ps : List Pl) (n : Int) : Bool := pilesB ps && (inB n 1 5 && ps.all fun p => validB (nums p.1) n)

end Go.Proofs.Ytbcemgmfkddafaa

namespace Go.Proofs.Ytbcemgmfkddafaa

theorem parse_turn {x y : Int} (hx : 0 ≤ x ∧ x ≤ 4) (hy : 0 ≤ y ∧ y ≤ 4) {s : ByteArray} (h : validB (nums s) 5 = true) : parseL (turnT x y s) = turnB x y (parseL s) := by
  unfold turnT
  rw [parseL_ok h, txtB_parse (turnB_valid hx hy h)]
theorem firstL_turn {x y : Int} (hx : 0 ≤ x) (hy : 0 ≤ y) {zs : List Int} {L L' : List Bool} (h : ∀ z ∈ zs, L'[(swapC x y z).toNat]?.getD false = L[z.toNat]?.getD false) : firstL (turnB x y zs) L' = swapC x y (firstL zs L) := by
  unfold turnB
  induction zs with
  | nil =>
    have : swapC x y (-1) = -1 := by unfold swapC; rw [if_neg (by omega), if_neg (by omega)]
    rw [List.map_nil, firstL, firstL, this]
  | cons z t ih =>
    rw [List.map_cons, firstL, firstL, h z (by simp)]
    split
    · exact ih (fun u hu => h u (by simp [hu]))
    · rfl
theorem swapC_low {x y z : Int} (hx : 0 ≤ x) (hy : 0 ≤ y) (hz : 0 ≤ z) : 0 ≤ swapC x y z := by
  unfold swapC
  split
  · exact hy
  · split
    · exact hx
    · exact hz
theorem swapC_high {x y z n : Int} (hx : x < n) (hy : y < n) (hz : z < n) : swapC x y z < n := by
  unfold swapC
  split
  · exact hy
  · split
    · exact hx
    · exact hz
/-- The counts of turned piles are those of the other candidate. -/
theorem counts_turn {ps : List Pl} {L L' : List Bool} {x y : Int} (hx : 0 ≤ x ∧ x ≤ 4) (hy : 0 ≤ y ∧ y ≤ 4) (hv : ∀ p ∈ ps, validB (nums p.1) 5 = true) (hL : ∀ z : Int, 0 ≤ z → z ≤ 4 → L'[(swapC x y z).toNat]?.getD false = L[z.toNat]?.getD false) {k : Nat} (hk : k < L.length) (hk' : (swapC x y (k : Int)).toNat < L'.length) :
    (countsL (turnPs x y ps) L')[(swapC x y (k : Int)).toNat]?.getD 0 = (countsL ps L)[k]?.getD 0 := by
  rw [countsL_at _ _ hk', countsL_at _ _ hk, wsum_turn]
  refine wsum_congr (fun p hp => ?_)
  have h5 := hv p hp
  have hm := vB_mem h5
  have e1 : firstL (parseL (turnT x y p.1)) L' = swapC x y (firstL (parseL p.1) L) := by
    rw [parse_turn hx hy h5]
    refine firstL_turn hx.1 hy.1 (fun z hz => ?_)
    rw [parseL_ok h5] at hz
    have := hm.2.2 z hz
    exact hL z this.1 (by omega)
  have e2 := Int.toNat_of_nonneg (swapC_low hx.1 hy.1 (Int.natCast_nonneg k))
  unfold oneF
  rw [e1, e2]
  by_cases e : firstL (parseL p.1) L = (k : Int)
  · rw [if_pos e, if_pos (by rw [e])]
  · rw [if_neg e, if_neg (fun g => e (swapC_inj g))]

/-- Nobody has left. -/
def noneL (n : Nat) : List Bool := List.replicate n false
def allL (n : Nat) : List Bool := List.replicate n true
theorem noneL_at (n k : Nat) : (noneL n)[k]?.getD false = false := by
  unfold noneL; rw [List.getElem?_replicate]; split <;> rfl
theorem allL_at {n k : Nat} (h : k < n) : (allL n)[k]?.getD false = true := by
  unfold allL; rw [List.getElem?_replicate, if_pos h]; rfl
theorem noneL_length (n : Nat) : (noneL n).length = n := by simp [noneL]
def plurC (ps : List Pl) (n : Nat) : List Int := countsL ps (noneL n)
theorem plurC_length (ps : List Pl) (n : Nat) : (plurC ps n).length = n := by rw [plurC, countsL_length, noneL_length]
theorem plurC_low {ps : List Pl} (hp : ∀ p ∈ ps, 1 ≤ p.2) {n k : Nat} (hk : k < n) : 0 ≤ (plurC ps n)[k]?.getD 0 := counts_low (by rw [noneL_length]; exact hk) hp
/-- The winner. -/
def winL (ps : List Pl) (lots : List Int) : Int := pickL lots (mostL (plurC ps lots.length) (allL lots.length))
theorem win_is {ps : List Pl} {lots : List Int} (hl : lotsB lots = true) (hp : ∀ p ∈ ps, 1 ≤ p.2) : IsWin (plurC ps lots.length) (allL lots.length) lots (winL ps lots) := by
  have hn := lotsB_len hl
  refine win_pick hl (plurC_length _ _) (fun i hi => ?_) ⟨0, ?_, allL_at (by omega)⟩
  · rw [plurC_length] at hi
    exact plurC_low hp hi
  · rw [plurC_length]; omega
theorem winL_range {ps : List Pl} {lots : List Int} (hl : lotsB lots = true) (hp : ∀ p ∈ ps, 1 ≤ p.2) : 0 ≤ winL ps lots ∧ winL ps lots < (lots.length : Int) := (vB_mem hl).2.2 _ (win_is hl hp).1

/-- A ballot for one candidate alone. -/
theorem plurC_put {ps : List Pl} {w : Int} {n : Nat} (hw : 0 ≤ w ∧ w < 5) {i : Nat} (hi : i < n) : (plurC (putL ps (txtB [w]) 1) n)[i]?.getD 0 = (plurC ps n)[i]?.getD 0 + if w = (i : Int) then 1 else 0 := by
  unfold plurC
  rw [counts_put _ _ _ (by rw [noneL_length]; exact hi)]
  have hv : validB [w] 5 = true := vB_of (by omega) (by omega) (by simp) (fun z hz => by simp at hz; omega)
  have hf : firstL (parseL (txtB [w])) (noneL n) = w := by
    rw [txtB_parse hv, firstL, if_neg (by rw [noneL_at]; simp)]
  unfold oneF
  rw [hf, Int.mul_one]
/-- **A ballot for the winner helps.** -/
theorem plur_more {ps : List Pl} {lots : List Int} (hl : lotsB lots = true) (hp : ∀ p ∈ ps, 1 ≤ p.2) : winL (putL ps (txtB [winL ps lots]) 1) lots = winL ps lots := by
  have h0 := win_is hl hp
  have hr := winL_range hl hp
  have hn := lotsB_len hl
  have hm := (vB_mem hl).2.2
  generalize winL ps lots = w at h0 hr
  have h1 := win_is (ps := putL ps (txtB [w]) 1) hl (pos_put hp (by omega))
  refine win_one h1 ⟨h0.1, h0.2.1, fun i hi hs => ?_⟩
  have hi' := hm i hi
  have a := h0.2.2 i hi hs
  rw [plurC_put (by omega) (by omega), plurC_put (by omega) (by omega)]
  rw [if_pos (show w = (w.toNat : Int) by omega)]
  by_cases e : w = (i.toNat : Int)
  · have e2 : i = w := by omega
    subst e2
    exact .inr ⟨by rw [if_pos e], Nat.le_refl _⟩
  · rw [if_neg e]
    exact .inl (by omega)
/-- **Candidates are treated alike.** -/
theorem plur_turn {ps : List Pl} {lots : List Int} (hl : lotsB lots = true) (hps : pilesB ps = true) {x y : Int} (hx : 0 ≤ x ∧ x < (lots.length : Int)) (hy : 0 ≤ y ∧ y < (lots.length : Int)) : winL (turnPs x y ps) (turnB x y lots) = swapC x y (winL ps lots) := by
  have hn := lotsB_len hl
  have hm := (vB_mem hl).2.2
  have hpp := pilesB_pos hps
  have hlen : (turnB x y lots).length = lots.length := by simp [turnB]
  have hl' : lotsB (turnB x y lots) = true := by
    unfold lotsB
    refine vB_of (by omega) (by omega) ?_ (fun z hz => ?_)
    · unfold turnB List.Nodup
      rw [List.pairwise_map]
      exact List.Pairwise.imp (fun {a b} hab e => hab (swapC_inj e)) (vB_nodup hl)
    · obtain ⟨u, hu, rfl⟩ := List.mem_map.1 hz
      have := hm u hu
      rw [hlen]
      exact ⟨swapC_low hx.1 hy.1 this.1, swapC_high hx.2 hy.2 this.2⟩
  have h1 := win_is hl' (ps := turnPs x y ps) (turnPs_pos hpp.2.1)
  rw [hlen] at h1
  refine win_one h1 (win_turn (win_is hl hpp.2.1) (fun z hz => ?_) (fun z hz => ?_))
  · have hz' := hm z hz
    have hz2 := swapC_high hx.2 hy.2 hz'.2
    have hz3 := swapC_low hx.1 hy.1 hz'.1
    have hc := counts_turn (L := noneL lots.length) (L' := noneL lots.length) (k := z.toNat) (show 0 ≤ x ∧ x ≤ 4 by omega) (show 0 ≤ y ∧ y ≤ 4 by omega) hpp.2.2.2.1 (fun u _ _ => by rw [noneL_at, noneL_at]) (by rw [noneL_length]; omega) (by rw [noneL_length, Int.toNat_of_nonneg hz'.1]; omega)
    rw [Int.toNat_of_nonneg hz'.1] at hc
    exact hc
  · have hz' := hm z hz
    have hz2 := swapC_high hx.2 hy.2 hz'.2
    have hz3 := swapC_low hx.1 hy.1 hz'.1
    rw [allL_at (by omega), allL_at (by omega)]

/-- The greatest count of the first k others, or 0. -/
def nextTo (c : List Int) (w : Int) (k : Nat) : Int := (List.range k).foldl (fun (b : Int) (i : Nat) => if (i : Int) ≠ w then max b (c[i]?.getD 0) else b) 0
theorem nextTo_zero (c : List Int) (w : Int) : nextTo c w 0 = 0 := rfl
theorem nextTo_succ (c : List Int) (w : Int) (k : Nat) : nextTo c w (k + 1) = if (k : Int) ≠ w then max (nextTo c w k) (c[k]?.getD 0) else nextTo c w k := by
  simp [nextTo, List.range_succ]
theorem nextTo_low (c : List Int) (w : Int) (k : Nat) : 0 ≤ nextTo c w k := by
  induction k with
  | zero => exact Int.le_refl _
  | succ k ih => rw [nextTo_succ]; split <;> omega
theorem nextTo_ge {c : List Int} {w : Int} {k i : Nat} (h : i < k) (hw : (i : Int) ≠ w) : c[i]?.getD 0 ≤ nextTo c w k := by
  induction k with
  | zero => omega
  | succ k ih =>
    rw [nextTo_succ]
    by_cases e : i = k
    · subst e; rw [if_pos hw]; omega
    · have := ih (by omega)
      split <;> omega
theorem nextTo_hit (c : List Int) (w : Int) (k : Nat) : nextTo c w k = 0 ∨ ∃ i, i < k ∧ (i : Int) ≠ w ∧ c[i]?.getD 0 = nextTo c w k := by
  induction k with
  | zero => exact .inl rfl
  | succ k ih =>
    rw [nextTo_succ]
    by_cases hw : (k : Int) ≠ w
    · rw [if_pos hw]
      rcases ih with ih | ⟨i, hi, h1, h2⟩
      · by_cases g : c[k]?.getD 0 ≤ 0
        · left; omega
        · right; exact ⟨k, by omega, hw, by omega⟩
      · by_cases g : c[k]?.getD 0 ≤ nextTo c w k
        · right; exact ⟨i, by omega, h1, by omega⟩
        · right; exact ⟨k, by omega, hw, by omega⟩
    · rw [if_neg hw]
      rcases ih with ih | ⟨i, hi, h1, h2⟩
      · exact .inl ih
      · exact .inr ⟨i, by omega, h1, h2⟩
/-- The margin. -/
def marginL (ps : List Pl) (lots : List Int) : Int := (plurC ps lots.length)[(winL ps lots).toNat]?.getD 0 - nextTo (plurC ps lots.length) (winL ps lots) lots.length
theorem nextTo_congr {c c' : List Int} {w : Int} (k : Nat) (h : ∀ i, i < k → (i : Int) ≠ w → c'[i]?.getD 0 = c[i]?.getD 0) : nextTo c' w k = nextTo c w k := by
  induction k with
  | zero => rfl
  | succ k ih =>
    rw [nextTo_succ, nextTo_succ, ih (fun i hi => h i (by omega))]
    by_cases e : (k : Int) ≠ w
    · rw [if_pos e, if_pos e, h k (by omega) e]
    · rw [if_neg e, if_neg e]
theorem margin_more {ps : List Pl} {lots : List Int} (hl : lotsB lots = true) (hp : ∀ p ∈ ps, 1 ≤ p.2) : marginL (putL ps (txtB [winL ps lots]) 1) lots = marginL ps lots + 1 := by
  have hr := winL_range hl hp
  have hn := lotsB_len hl
  unfold marginL
  rw [plur_more hl hp]
  generalize winL ps lots = w at hr
  rw [plurC_put (by omega) (by omega), if_pos (by omega), nextTo_congr (c := plurC ps lots.length) lots.length (fun i hi hw => by rw [plurC_put (by omega) hi, if_neg (by omega)]; omega)]
  omega
/-- **A margin is how many ballots are more.** -/
theorem margin_is {ps : List Pl} {lots : List Int} (hl : lotsB lots = true) (hp : ∀ p ∈ ps, 1 ≤ p.2) :
    0 ≤ marginL ps lots ∧ (∀ i : Nat, i < lots.length → (i : Int) ≠ winL ps lots → marginL ps lots ≤ (plurC ps lots.length)[(winL ps lots).toNat]?.getD 0 - (plurC ps lots.length)[i]?.getD 0) ∧ ((lots.length = 1 ∧ marginL ps lots = (plurC ps lots.length)[(winL ps lots).toNat]?.getD 0) ∨ ∃ i : Nat, i < lots.length ∧ (i : Int) ≠ winL ps lots ∧ (plurC ps lots.length)[(winL ps lots).toNat]?.getD 0 - (plurC ps lots.length)[i]?.getD 0 = marginL ps lots) := by
  have h0 := win_is hl hp
  have hr := winL_range hl hp
  have hn := lotsB_len hl
  unfold marginL
  generalize winL ps lots = w at h0 hr
  have hw0 := plurC_low hp (n := lots.length) (k := w.toNat) (by omega)
  have hh := nextTo_hit (plurC ps lots.length) w lots.length
  have hlow := nextTo_low (plurC ps lots.length) w lots.length
  refine ⟨?_, fun i hi hw => ?_, ?_⟩
  · rcases hh with hh | ⟨i, hi, h1, h2⟩
    · omega
    · have := h0.2.2 (i : Int) (lots_mem hl hi) (allL_at (by omega))
      rw [Int.toNat_natCast] at this
      omega
  · have := nextTo_ge (c := plurC ps lots.length) hi hw
    omega
  · rcases hh with hh | ⟨i, hi, h1, h2⟩
    · by_cases e : lots.length = 1
      · exact .inl ⟨e, by omega⟩
      · right
        obtain ⟨i, hi, hw⟩ : ∃ i : Nat, i < lots.length ∧ (i : Int) ≠ w := by
          by_cases e0 : w = 0
          · exact ⟨1, by omega, by omega⟩
          · exact ⟨0, by omega, by omega⟩
        have a := plurC_low hp (n := lots.length) (k := i) hi
        have b := nextTo_ge (c := plurC ps lots.length) hi hw
        exact ⟨i, hi, hw, by omega⟩
    · exact .inr ⟨i, hi, h1, by omega⟩

end Go.Proofs.Ytbcemgmfkddafaa

namespace Go.Proofs.Ytbcemgmfkddafaa

theorem totR_perm {l m : List Int} (F : Int → Int) (h : l.Perm m) : totI (l.map F) = totI (m.map F) := by
  induction h with
  | nil => rfl
  | cons a _ ih => rw [List.map_cons, List.map_cons, totI_cons, totI_cons, ih]
  | swap a b t => simp only [List.map_cons, totI_cons]; omega
  | trans _ _ h1 h2 => rw [h1, h2]
/-- The numbers of all parties. -/
def upN (n : Nat) : List Int := (List.range n).map fun (i : Nat) => (i : Int)
theorem upN_length (n : Nat) : (upN n).length = n := by simp [upN]
theorem upN_map (n : Nat) (F : Int → Int) : (upN n).map F = (List.range n).map fun (i : Nat) => F (i : Int) := by simp [upN]
theorem lots_upN {lots : List Int} {n : Nat} (hl : lotsB lots = true) (hn : lots.length = n) : lots.Perm (upN n) := by
  refine (List.perm_ext_iff_of_nodup (vB_nodup hl) ?_).2 (fun z => ⟨fun hz => ?_, fun hz => ?_⟩)
  · rw [upN, List.Nodup, List.pairwise_map]
    exact List.nodup_range.imp (fun h e => h (by omega))
  · have := (vB_mem hl).2.2 z hz
    exact List.mem_map.2 ⟨z.toNat, List.mem_range.2 (by omega), by omega⟩
  · obtain ⟨i, hi, rfl⟩ := List.mem_map.1 hz
    exact lots_mem hl (by rw [hn]; exact List.mem_range.1 hi)
theorem tot_lots {lots : List Int} {n : Nat} (hl : lotsB lots = true) (hn : lots.length = n) (F : Int → Int) : totI (lots.map F) = totI ((List.range n).map fun (i : Nat) => F (i : Int)) := by
  rw [totR_perm F (lots_upN hl hn), upN_map]
theorem range_self (vs : List Int) : ((List.range vs.length).map fun (i : Nat) => seV vs (i : Int)) = vs := by
  refine List.ext_getElem (by simp) (fun i h1 h2 => ?_)
  simp [seV, h2]
theorem tot_self (vs : List Int) : totI ((upN vs.length).map (seV vs)) = totI vs := by
  rw [upN_map, range_self]

/-- A party's share, rounded down; what is over; rounded up. -/
def loF (vs : List Int) (s : Int) : Int → Int := fun z => lowI (seV vs z) s (totI vs)
def ovF (vs : List Int) (s : Int) : Int → Int := fun z => overI (seV vs z) s (totI vs)
def hiF (vs : List Int) (s : Int) : Int → Int := fun z => highI (seV vs z) s (totI vs)
def loL (vs : List Int) (s : Int) : List Int := (List.range vs.length).map fun (i : Nat) => loF vs s (i : Int)
def ovL (vs : List Int) (s : Int) : List Int := (List.range vs.length).map fun (i : Nat) => ovF vs s (i : Int)
/-- How many seats are left. -/
def lfN (vs : List Int) (s : Int) : Nat := (s - totI (loL vs s)).toNat
/-- The seats behind k rounds, what is left then, and who gets the next one. -/
def upL (vs : List Int) (s : Int) (lots : List Int) (k : Nat) : List Int := (List.range vs.length).map fun (i : Nat) => remF (seV vs) lots s (totI vs) k (i : Int)
def reL (vs : List Int) (s : Int) (lots : List Int) (k : Nat) : List Int := (List.range vs.length).map fun (i : Nat) => SeatsLeft (ovF vs s) lots k (i : Int)
def tpA (vs : List Int) (s : Int) (lots : List Int) (k : Nat) : Int := topL (SeatsLeft (ovF vs s) lots k) lots
/-- The votes, the seats and the lots are valid. -/
def okR (vs : List Int) (s : Int) (lots : List Int) : Bool := voteB vs && (inB s 0 20 && (lotsB lots && decide (lots.length = vs.length)))
theorem okR_iff (vs : List Int) (s : Int) (lots : List Int) : okR vs s lots = true ↔ voteB vs = true ∧ (0 ≤ s ∧ s ≤ 20) ∧ lotsB lots = true ∧ lots.length = vs.length := by
  unfold okR inB; simp only [Bool.and_eq_true, decide_eq_true_iff]
/-- What SeatsRemainder returns. -/
def remL (vs : List Int) (s : Int) (lots : List Int) : List Int := if okR vs s lots = true then upL vs s lots (lfN vs s) else []
/-- What SeatsQuota and SeatsFair return. -/
def okQ (vs : List Int) (s p : Int) : Bool := voteB vs && (inB s 0 20 && (decide (0 ≤ p) && decide (p < (vs.length : Int))))
theorem okQ_iff (vs : List Int) (s p : Int) : okQ vs s p = true ↔ voteB vs = true ∧ (0 ≤ s ∧ s ≤ 20) ∧ 0 ≤ p ∧ p < (vs.length : Int) := by
  unfold okQ inB; simp only [Bool.and_eq_true, decide_eq_true_iff]
def loR (vs : List Int) (s p : Int) : Int := if okQ vs s p = true then loF vs s p else -1
def hiR (vs : List Int) (s p : Int) : Int := if okQ vs s p = true then hiF vs s p else -1
def faTo (vs gs : List Int) (s : Int) (k : Nat) : Bool := (List.range k).all fun (i : Nat) => inB (gs[i]?.getD 0) (loF vs s (i : Int)) (hiF vs s (i : Int))
theorem faTo_succ (vs gs : List Int) (s : Int) (k : Nat) : faTo vs gs s (k + 1) = (faTo vs gs s k && inB (gs[k]?.getD 0) (loF vs s (k : Int)) (hiF vs s (k : Int))) := by simp [faTo, List.range_succ]
theorem faTo_no {vs gs : List Int} {s : Int} {k n : Nat} (h : faTo vs gs s (k + 1) = false) (hk : k < n) : faTo vs gs s n = false := by
  simp only [faTo, List.all_eq_false, List.mem_range] at h ⊢
  obtain ⟨i, h1, h2⟩ := h
  exact ⟨i, by omega, h2⟩
theorem faTo_iff {vs gs : List Int} {s : Int} {k : Nat} : faTo vs gs s k = true ↔ ∀ i, i < k → loF vs s (i : Int) ≤ gs[i]?.getD 0 ∧ gs[i]?.getD 0 ≤ hiF vs s (i : Int) := by
  simp only [faTo, inB, decide_eq_true_eq, List.all_eq_true, List.mem_range]
def fairB (vs gs : List Int) : Bool := voteB vs && (giveB gs vs.length && faTo vs gs (totI gs) vs.length)

theorem loL_length (vs : List Int) (s : Int) : (loL vs s).length = vs.length := by simp [loL]
theorem ovL_length (vs : List Int) (s : Int) : (ovL vs s).length = vs.length := by simp [ovL]
theorem upL_length (vs : List Int) (s : Int) (lots : List Int) (k : Nat) : (upL vs s lots k).length = vs.length := by simp [upL]
theorem reL_length (vs : List Int) (s : Int) (lots : List Int) (k : Nat) : (reL vs s lots k).length = vs.length := by simp [reL]
theorem loL_at {vs : List Int} {i : Nat} (s : Int) (h : i < vs.length) : (loL vs s)[i]?.getD 0 = loF vs s (i : Int) := by simp [loL, h]
theorem ovL_at {vs : List Int} {i : Nat} (s : Int) (h : i < vs.length) : (ovL vs s)[i]?.getD 0 = ovF vs s (i : Int) := by simp [ovL, h]
theorem upL_at {vs : List Int} {i : Nat} (s : Int) (lots : List Int) (k : Nat) (h : i < vs.length) : (upL vs s lots k)[i]?.getD 0 = remF (seV vs) lots s (totI vs) k (i : Int) := by simp [upL, h]
theorem reL_at {vs : List Int} {i : Nat} (s : Int) (lots : List Int) (k : Nat) (h : i < vs.length) : (reL vs s lots k)[i]?.getD 0 = SeatsLeft (ovF vs s) lots k (i : Int) := by simp [reL, h]
theorem upL_zero (vs : List Int) (s : Int) (lots : List Int) : upL vs s lots 0 = loL vs s := by
  unfold upL loL remF loF
  refine List.map_congr_left (fun i _ => ?_)
  show lowI (seV vs (i : Int)) s (totI vs) + 0 = _
  omega
theorem reL_zero (vs : List Int) (s : Int) (lots : List Int) : reL vs s lots 0 = ovL vs s := rfl

section
variable {vs lots : List Int} {s : Int}
/-- What a valid share is. -/
theorem share_in (hv : voteB vs = true) (hs : 0 ≤ s ∧ s ≤ 20) {z : Int} (_ : 0 ≤ z) (hz : z < (vs.length : Int)) : 0 < totI vs ∧ totI vs ≤ 495 ∧ (0 ≤ seV vs z ∧ seV vs z ≤ 99) ∧ (0 ≤ seV vs z * s ∧ seV vs z * s ≤ 1980) ∧ (0 ≤ loF vs s z ∧ loF vs s z ≤ 20) ∧ (0 ≤ ovF vs s z ∧ ovF vs s z < totI vs) := by
  obtain ⟨⟨h1, h2, h3⟩, h4⟩ := (voteB_iff vs).1 hv
  have hi : z.toNat < vs.length := by omega
  have hb := toB_at h1 hi
  have hle := (le_totI (zs := vs) (fun i hi => (toB_at h1 hi).1)).2 _ hi
  have h5 : totI vs ≤ 495 := by
    have h := (tot_bound (zs := vs) (m := 99) (by omega) (n := vs.length) (fun i hi => toB_at h1 hi) vs.length (Nat.le_refl _)).2
    rw [List.take_length] at h
    omega
  have hb' : 0 ≤ seV vs z ∧ seV vs z ≤ 99 := hb
  have hle' : seV vs z ≤ totI vs := hle
  have hm0 : 0 ≤ seV vs z * s := Int.mul_nonneg hb'.1 hs.1
  have hm1 : seV vs z * s ≤ 1980 := by
    have a := Int.mul_le_mul_of_nonneg_right hb'.2 hs.1
    omega
  refine ⟨h4, h5, hb', ⟨hm0, hm1⟩, ⟨Int.ediv_nonneg hm0 (Int.le_of_lt h4), ?_⟩, over_range h4⟩
  have hm2 : seV vs z * s ≤ s * totI vs := by
    rw [Int.mul_comm s]
    exact Int.mul_le_mul_of_nonneg_right hle' hs.1
  have : loF vs s z ≤ s := Int.ediv_le_of_le_mul h4 hm2
  omega
theorem hi_eq (hv : voteB vs = true) (z : Int) : hiF vs s z = if ovF vs s z = 0 then loF vs s z else loF vs s z + 1 := high_eq ((voteB_iff vs).1 hv).2

/-- **How many seats are left**, and that more parties have a remainder. -/
theorem lf_is (hv : voteB vs = true) (_ : 0 ≤ s ∧ s ≤ 20) : totI (loL vs s) + (lfN vs s : Int) = s ∧ totI (ovL vs s) = (lfN vs s : Int) * totI vs ∧ lfN vs s < vs.length := by
  obtain ⟨⟨h1, h2, h3⟩, h4⟩ := (voteB_iff vs).1 hv
  obtain ⟨L, e1, e2⟩ := left_seats (V := seV vs) (lots := upN vs.length) (S := s) (tot_self vs) h4
  have f1 : ((upN vs.length).map fun z => lowI (seV vs z) s (totI vs)) = loL vs s := upN_map _ _
  have f2 : ((upN vs.length).map fun z => overI (seV vs z) s (totI vs)) = ovL vs s := upN_map _ _
  have e3 := tot_scale_le (upN vs.length) (fun z => overI (seV vs z) s (totI vs)) (fun _ => 1) (totI vs - 1) (fun z _ => by have := (over_range (v := seV vs z) (S := s) h4).2; omega)
  have e4 : ∀ l : List Int, totI (l.map fun _ => (1 : Int)) = (l.length : Int) := fun l => by
    induction l with
    | nil => rfl
    | cons a t ih => rw [List.map_cons, totI_cons, ih, List.length_cons]; omega
  rw [e4, upN_length] at e3
  rw [f1] at e1
  rw [f2] at e2 e3
  have hL : lfN vs s = L := by unfold lfN; omega
  rw [hL]
  refine ⟨e1, e2, ?_⟩
  rw [e2] at e3
  rcases Nat.lt_or_ge L vs.length with h | h
  · exact h
  · exfalso
    have a := Int.mul_le_mul_of_nonneg_right (show (vs.length : Int) ≤ (L : Int) by omega) (Int.le_of_lt h4)
    rw [Int.sub_mul, Int.one_mul, Int.mul_comm (totI vs)] at e3
    omega
theorem rem_inv (hv : voteB vs = true) (hs : 0 ≤ s ∧ s ≤ 20) (hl : lotsB lots = true) (hn : lots.length = vs.length) {k : Nat} (hk : k ≤ lfN vs s) : RemInv (ovF vs s) lots k := by
  have h4 := ((voteB_iff vs).1 hv).2
  refine remInv (T := totI vs) (L := lfN vs s) (vB_nodup hl) (lots_ne hl) (fun z => (over_range h4).1) (fun z => (over_range h4).2) ?_ k hk
  rw [tot_lots hl hn]; exact (lf_is hv hs).2.1
theorem tp_in (hl : lotsB lots = true) (hn : lots.length = vs.length) (k : Nat) : tpA vs s lots k ∈ lots ∧ 0 ≤ tpA vs s lots k ∧ tpA vs s lots k < (vs.length : Int) := by
  have h := (topL_spec (R := SeatsLeft (ovF vs s) lots k) (vB_nodup hl) (lots_ne hl)).1
  have := lotsB_mem hl _ h
  exact ⟨h, this.1, by rw [← hn]; exact this.2⟩
theorem up_step (hl : lotsB lots = true) (hn : lots.length = vs.length) (k : Nat) : upL vs s lots (k + 1) = (upL vs s lots k).set (tpA vs s lots k).toNat ((upL vs s lots k)[(tpA vs s lots k).toNat]?.getD 0 + 1) := by
  obtain ⟨-, h0, h1⟩ := tp_in (vs := vs) (s := s) hl hn k
  have ht : (tpA vs s lots k).toNat < vs.length := by omega
  rw [upL_at s lots k ht]
  refine List.ext_getElem (by simp [upL]) (fun i a b => ?_)
  have hi : i < vs.length := by simpa [upL] using a
  rw [List.getElem_set]
  have e1 : (upL vs s lots (k + 1))[i] = remF (seV vs) lots s (totI vs) (k + 1) (i : Int) := by simp [upL]
  have e2 : ∀ h, (upL vs s lots k)[i]'h = remF (seV vs) lots s (totI vs) k (i : Int) := fun h => by simp [upL]
  rw [e1, e2]
  have e3 : Up (fun z => overI (seV vs z) s (totI vs)) lots (k + 1) = plus (Up (ovF vs s) lots k) (tpA vs s lots k) := rfl
  have e4 : Up (fun z => overI (seV vs z) s (totI vs)) lots k = Up (ovF vs s) lots k := rfl
  unfold remF
  rw [e3, e4]
  unfold plus
  by_cases e : (i : Int) = tpA vs s lots k
  · rw [if_pos e, if_pos (by omega), e, Int.toNat_of_nonneg h0]; omega
  · rw [if_neg e, if_neg (by omega)]
theorem re_step (hl : lotsB lots = true) (hn : lots.length = vs.length) (k : Nat) : reL vs s lots (k + 1) = (reL vs s lots k).set (tpA vs s lots k).toNat (-1) := by
  obtain ⟨-, h0, h1⟩ := tp_in (vs := vs) (s := s) hl hn k
  refine List.ext_getElem (by simp [reL]) (fun i a b => ?_)
  have hi : i < vs.length := by simpa [reL] using a
  rw [List.getElem_set]
  have e1 : (reL vs s lots (k + 1))[i] = SeatsLeft (ovF vs s) lots (k + 1) (i : Int) := by simp [reL]
  have e2 : ∀ h, (reL vs s lots k)[i]'h = SeatsLeft (ovF vs s) lots k (i : Int) := fun h => by simp [reL]
  have e3 : SeatsLeft (ovF vs s) lots (k + 1) = gone (SeatsLeft (ovF vs s) lots k) (tpA vs s lots k) := rfl
  rw [e1, e2, e3]
  unfold gone
  by_cases e : (i : Int) = tpA vs s lots k
  · rw [if_pos e, if_pos (by omega)]
  · rw [if_neg e, if_neg (by omega)]
theorem up_tot (hv : voteB vs = true) (hs : 0 ≤ s ∧ s ≤ 20) (hl : lotsB lots = true) (hn : lots.length = vs.length) {k : Nat} (hk : k ≤ lfN vs s) : totI (upL vs s lots k) = totI (loL vs s) + (k : Int) := by
  have h := (rem_inv hv hs hl hn hk).tot
  rw [tot_lots hl hn] at h
  have e := tot_sum (upN vs.length) (loF vs s) (Up (ovF vs s) lots k)
  rw [upN_map, upN_map, upN_map] at e
  have e2 : totI (upL vs s lots k) = totI ((List.range vs.length).map fun (i : Nat) => loF vs s (i : Int) + Up (ovF vs s) lots k (i : Int)) := rfl
  rw [e2, e, h]
  rfl
theorem re_low (hv : voteB vs = true) (hs : 0 ≤ s ∧ s ≤ 20) (hl : lotsB lots = true) (hn : lots.length = vs.length) {k : Nat} (hk : k ≤ lfN vs s) {i : Nat} (hi : i < vs.length) : -1 ≤ (reL vs s lots k)[i]?.getD 0 := by
  rw [reL_at s lots k hi, (rem_inv hv hs hl hn hk).left]
  have := (share_in hv hs (z := (i : Int)) (by omega) (by omega)).2.2.2.2.2
  split <;> omega
theorem up_in (hv : voteB vs = true) (hs : 0 ≤ s ∧ s ≤ 20) (hl : lotsB lots = true) (hn : lots.length = vs.length) {k : Nat} (hk : k ≤ lfN vs s) {i : Nat} (hi : i < vs.length) : 0 ≤ (upL vs s lots k)[i]?.getD 0 ∧ (upL vs s lots k)[i]?.getD 0 ≤ 21 := by
  rw [upL_at s lots k hi]
  have h1 := (share_in hv hs (z := (i : Int)) (by omega) (by omega)).2.2.2.2.1
  have h2 := (rem_inv hv hs hl hn hk).bit (i : Int)
  have e : remF (seV vs) lots s (totI vs) k (i : Int) = loF vs s (i : Int) + Up (ovF vs s) lots k (i : Int) := rfl
  rw [e]
  omega
/-- **The specification's pick** is the one with the greatest remainder, first in the lots. -/
theorem pick_top (hv : voteB vs = true) (hs : 0 ≤ s ∧ s ≤ 20) (hl : lotsB lots = true) (hn : lots.length = vs.length) {k : Nat} (hk : k ≤ lfN vs s) : pickL lots (mostL (reL vs s lots k) (allL vs.length)) = tpA vs s lots k := by
  have hlen := reL_length vs s lots k
  obtain ⟨c, hc⟩ : ∃ c, reL vs s lots k = c := ⟨_, rfl⟩
  have hat : ∀ z ∈ lots, SeatsLeft (ovF vs s) lots k z = c[z.toNat]?.getD 0 := fun z hz => by
    have hm := lotsB_mem hl z hz
    have := reL_at (vs := vs) s lots k (i := z.toNat) (by omega)
    rw [hc, Int.toNat_of_nonneg hm.1] at this
    exact this.symm
  have hlow : ∀ i, i < vs.length → -1 ≤ c[i]?.getD 0 := fun i hi => by rw [← hc]; exact re_low hv hs hl hn hk hi
  rw [hc] at hlen ⊢
  have hall : ∀ {i : Nat}, i < vs.length → (allL vs.length)[i]?.getD false = true := fun {i} hi => by simp [allL, hi]
  have h0 : 0 < vs.length := by have := (lotsB_len hl).1; omega
  have hex : ∃ z ∈ lots, (mostL c (allL vs.length))[z.toNat]?.getD false = true := by
    rcases bestS_hit c (allL vs.length) c.length with hb | ⟨i, hi, h1, h2⟩
    · refine ⟨((0 : Nat) : Int), lots_mem hl (by omega), ?_⟩
      rw [Int.toNat_natCast, mostL_at (by omega)]
      have := bestS_ge (c := c) (s := allL vs.length) (k := c.length) (i := 0) (by omega) (hall h0)
      have := hlow 0 h0
      exact ⟨hall h0, by omega⟩
    · exact ⟨(i : Int), lots_mem hl (by omega), by rw [Int.toNat_natCast, mostL_at hi]; exact ⟨h1, h2⟩⟩
  obtain ⟨p1, p2, p3⟩ := pickL_spec hex
  have hpm := lotsB_mem hl _ p1
  have hpe := ((mostL_at (by omega)).1 p2).2
  refine (topL_one (vB_nodup hl) (lots_ne hl) p1 (fun i hi => ?_)).symm
  unfold IsTopR
  rw [hat i hi, hat _ p1]
  have him := lotsB_mem hl i hi
  have hge := bestS_ge (c := c) (s := allL vs.length) (k := c.length) (i := i.toNat) (by omega) (hall (by omega))
  by_cases e : c[i.toNat]?.getD 0 = bestS c (allL vs.length) c.length
  · exact .inr ⟨by omega, p3 i hi ((mostL_at (by omega)).2 ⟨hall (by omega), e⟩)⟩
  · exact .inl (by omega)
end

/-! ### The stack of remainders -/
/-- A party comes below all with greater remainders, above all others. -/
def insR (R : Int → Int) (p : Int) : List Int → List Int
  | [] => [p]
  | q :: t => if R q ≤ R p then p :: q :: t else q :: insR R p t
/-- The parties of an order, from its last one on. -/
def stR (R : Int → Int) : List Int → List Int
  | [] => []
  | p :: t => insR R p (stR R t)
def BefR (R : Int → Int) (ix : Int → Nat) (a b : Int) : Prop := R b < R a ∨ (R a = R b ∧ ix a < ix b)
theorem insR_perm (R : Int → Int) (p : Int) : ∀ l, (insR R p l).Perm (p :: l)
  | [] => .refl _
  | q :: t => by
    unfold insR
    split
    · exact .refl _
    · exact ((insR_perm R p t).cons q).trans (.swap p q t)
theorem stR_perm (R : Int → Int) : ∀ l, (stR R l).Perm l
  | [] => .refl _
  | p :: t => (insR_perm R p _).trans ((stR_perm R t).cons p)
theorem insR_sorted {R : Int → Int} {ix : Int → Nat} {p : Int} : ∀ {l : List Int}, l.Pairwise (BefR R ix) → (∀ z ∈ l, ix p < ix z) → (insR R p l).Pairwise (BefR R ix)
  | [], _, _ => List.pairwise_cons.2 ⟨fun _ h => (by cases h), List.Pairwise.nil⟩
  | q :: t, h, hi => by
    obtain ⟨h1, h2⟩ := List.pairwise_cons.1 h
    unfold insR
    split
    · next hle =>
      refine List.pairwise_cons.2 ⟨fun z hz => ?_, h⟩
      have hzi := hi z hz
      rcases List.mem_cons.1 hz with e | e
      · subst e
        unfold BefR; omega
      · have := h1 z e
        unfold BefR at this ⊢; omega
    · next hle =>
      refine List.pairwise_cons.2 ⟨fun z hz => ?_, insR_sorted h2 (fun z hz => hi z (by simp [hz]))⟩
      rcases List.mem_cons.1 ((insR_perm R p t).mem_iff.1 hz) with e | e
      · subst e
        unfold BefR; omega
      · exact h1 z e
theorem stR_sorted {R : Int → Int} {ix : Int → Nat} : ∀ {l : List Int}, l.Pairwise (fun a b => ix a < ix b) → (stR R l).Pairwise (BefR R ix)
  | [], _ => List.Pairwise.nil
  | p :: t, h => by
    obtain ⟨h1, h2⟩ := List.pairwise_cons.1 h
    exact insR_sorted (stR_sorted h2) (fun z hz => h1 z ((stR_perm R t).mem_iff.1 hz))
theorem idx_pair {l : List Int} (hn : l.Nodup) : l.Pairwise (fun a b => l.idxOf a < l.idxOf b) := by
  refine List.pairwise_iff_getElem.2 (fun i j hi hj hij => ?_)
  have e : ∀ i (hi : i < l.length), l.idxOf l[i] = i := fun i hi => by
    have hm : l[i] ∈ l := List.getElem_mem hi
    have hlt := List.idxOf_lt_length_of_mem hm
    exact (List.getElem_inj hn (h₀ := hlt) (h₁ := hi)).1 (List.getElem_idxOf hlt)
  rw [e i hi, e j hj]; exact hij
theorem stR_length (R : Int → Int) (l : List Int) : (stR R l).length = l.length := (stR_perm R l).length_eq
/-- **What the stack gives** is the greatest remainder that is left. -/
theorem pop_top {R : Int → Int} {lots : List Int} (hn : lots.Nodup) (h0 : lots ≠ []) (hR : ∀ z, 0 ≤ R z) : ∀ k, k ≤ lots.length → (∀ z, SeatsLeft R lots k z = if z ∈ (stR R lots).take k then -1 else R z) ∧ (k < lots.length → topL (SeatsLeft R lots k) lots = (stR R lots)[k]?.getD 0) := by
  have hsl := stR_length R lots
  have hsn : (stR R lots).Nodup := (stR_perm R lots).nodup_iff.2 hn
  have hss := stR_sorted (R := R) (idx_pair hn)
  have htop : ∀ k, k < lots.length → (∀ z, SeatsLeft R lots k z = if z ∈ (stR R lots).take k then -1 else R z) → topL (SeatsLeft R lots k) lots = (stR R lots)[k]?.getD 0 := fun k hk hL => by
    have hk' : k < (stR R lots).length := by omega
    have e : (stR R lots)[k]?.getD 0 = (stR R lots)[k] := by simp [hk']
    rw [e]
    have hnot : ∀ j (hj : j < (stR R lots).length), k ≤ j → (stR R lots)[j] ∉ (stR R lots).take k := fun j hj hkj hm => by
      obtain ⟨i, hi, he⟩ := List.mem_iff_getElem.1 hm
      rw [List.getElem_take] at he
      have : i = j := (List.getElem_inj hsn).1 he
      simp at hi
      omega
    refine topL_one hn h0 ((stR_perm R lots).mem_iff.1 (List.getElem_mem hk')) (fun i hi => ?_)
    obtain ⟨j, hj, rfl⟩ := List.mem_iff_getElem.1 ((stR_perm R lots).mem_iff.2 hi)
    unfold IsTopR
    rw [hL, hL, if_neg (hnot k hk' (Nat.le_refl _))]
    rcases Nat.lt_trichotomy j k with h | h | h
    · left
      rw [if_pos (List.mem_take_iff_getElem.2 ⟨j, by omega, rfl⟩)]
      have := hR (stR R lots)[k]
      omega
    · subst h
      right
      rw [if_neg (hnot j hk' (Nat.le_refl _))]
      exact ⟨rfl, Nat.le_refl _⟩
    · rw [if_neg (hnot j hj (by omega))]
      have := (List.pairwise_iff_getElem.1 hss) k j hk' hj h
      simp only [BefR] at this
      omega
  intro k
  induction k with
  | zero => exact fun hk => ⟨fun z => by simp [SeatsLeft, upR], fun h => htop 0 h (fun z => by simp [SeatsLeft, upR])⟩
  | succ k ih =>
    intro hk
    obtain ⟨i1, i2⟩ := ih (by omega)
    have hk' : k < (stR R lots).length := by omega
    have hL : ∀ z, SeatsLeft R lots (k + 1) z = if z ∈ (stR R lots).take (k + 1) then -1 else R z := fun z => by
      rw [Left_succ, i2 (by omega)]
      unfold gone
      have e : (stR R lots)[k]?.getD 0 = (stR R lots)[k] := by simp [hk']
      rw [i1, e, List.take_succ_eq_append_getElem hk']
      by_cases h : z = (stR R lots)[k]
      · rw [if_pos h, if_pos (List.mem_append.2 (.inr (List.mem_singleton.2 h)))]
      · rw [if_neg h]
        by_cases g : z ∈ (stR R lots).take k
        · rw [if_pos g, if_pos (List.mem_append.2 (.inl g))]
        · rw [if_neg g, if_neg (fun hm => by
            rcases List.mem_append.1 hm with e | e
            · exact g e
            · exact h (List.mem_singleton.1 e))]
    exact ⟨hL, fun h => htop (k + 1) h hL⟩

end Go.Proofs.Ytbcemgmfkddafaa

namespace Go.Proofs.Ytbcemgmfkddafaa
open Go.RowKit Go.Shelf

attribute [local go_sem] Oper.semAt_some

/-- What has come when k rounds are over. -/
def upto {α : Type} (f : Nat → α) (k : Nat) : List α := (List.range k).map f
theorem upto_succ {α : Type} (f : Nat → α) (k : Nat) : upto f (k + 1) = upto f k ++ [f k] := by simp [upto, List.range_succ]
theorem upto_length {α : Type} (f : Nat → α) (k : Nat) : (upto f k).length = k := by simp [upto]
theorem upto_all (zs : List Int) : upto (fun j => zs[j]?.getD 0) zs.length = zs := by
  apply List.ext_getElem
  · simp [upto]
  · intro i h1 h2
    simp [upto, h2]
theorem upto_take (zs : List Int) {k : Nat} (hk : k ≤ zs.length) : upto (fun j => zs[j]?.getD 0) k = zs.take k := by
  apply List.ext_getElem
  · simp [upto, hk]
  · intro i h1 h2
    have : i < zs.length := by simp [upto] at h1; omega
    simp [upto, this]

set_option maxRecDepth 100000 in
set_option maxHeartbeats 2000000 in
/-- slices.Values's closure, at a slice with elements. -/
theorem values1_in (F : Fence) (n : Nat) (hF : F.fn 94) (hro : F.round = none) (hn : 1 ≤ n) (l Bs n₀ b off len cap : Nat) {α : Type} (f : α → Int) (x : Nat → α) (hreach : len ≤ 1048600) (hb : b < n₀) (J Jx : List α → World → Prop)
    (hY : ∀ pre x W, J pre W → pre.length < len → YieldAt F (n - 1) Try.prog l #[.int .i64 (f x)] W fun e W' =>
      (e = .returned (.bool true) ∧ J (pre ++ [x]) W' ∧ Below n₀ W W') ∨ (e = .returned (.bool false) ∧ Jx (pre ++ [x]) W'))
    (W : World) (hBs : W.cell? ⟨Bs, 0, none⟩ = some (.slice (some ⟨b, off, none⟩) len cap)) (hc : ∀ j, j < len → W.cell? ⟨b, off + j, none⟩ = some (.int .i64 (f (x j)))) (h0 : J [] W) :
    CallsIn F n Try.prog 94 #[.func (.yield l) #[] #[], .pointer (some ⟨Bs, 0, none⟩)] W fun e W' => (∃ v, e = .returned v) ∧
      ((∃ ys, ys = upto x len ∧ J ys W') ∨ (∃ pre, (∃ k, k ≤ len ∧ pre = upto x k) ∧ Jx pre W')) := by
  refine callsIn_of_wp Try.func94 rfl hF ?_ hro
  simp only [Try.ntmps94, List.size_toArray, List.length_cons, List.length_nil, Nat.reduceAdd, Nat.reduceSub, Array.replicate_succ, Array.replicate_zero, List.push_toArray, List.append_toArray, List.nil_append, List.cons_append]
  gi_wp2
  gi_loopw [7] (fun i wr => ∃ k : Nat, k ≤ len ∧ i = .int .i64 k ∧ J (upto x k) wr ∧ Below n₀ W wr)
    (fun i _ => len - (intOf i).toNat)
  case atStart => exact ⟨0, Nat.zero_le _, rfl, h0, Below.refl _ _⟩
  case round =>
    obtain ⟨k, hk, rfl, hJs, hnx⟩ := hrel
    have hcx : k < len → wr.cell? ⟨b, off + k, none⟩ = some (.int .i64 (f (x k))) := fun h => (hnx.cell (p := ⟨b, off + k, none⟩) hb).trans (hc k h)
    by_cases hlt : k < len
    · obtain ⟨fn, tmps, assign, body, hy, hR⟩ := hY _ (x k) wr hJs (by rw [upto_length]; exact hlt)
      have hcx' := hcx hlt
      gi_wp2
      refine hR.mono ?_
      rintro e W3 (⟨rfl, hJ3, hk3⟩ | ⟨rfl, hJx3⟩)
      · gi_wp2
        go_roundw
        case rel => exact ⟨k + 1, by omega, by simp, by rw [upto_succ]; exact hJ3, hnx.trans hk3⟩
        case measure => simp [intOf]; omega
      · gi_wp2
        refine bodyPost_ret (results_none rfl _ _ _) rfl ?_
        exact ⟨⟨_, rfl⟩, .inr ⟨_, ⟨k + 1, by omega, (upto_succ _ _).symm⟩, hJx3⟩⟩
    · obtain rfl : k = len := by omega
      gi_wp2
      go_end0
      exact ⟨⟨_, rfl⟩, .inl ⟨_, rfl, hJs⟩⟩

set_option maxRecDepth 100000 in
set_option maxHeartbeats 1000000 in
/-- .. at a slice without elements: no round. -/
theorem values1_nil_in (F : Fence) (n : Nat) (hF : F.fn 94) (hro : F.round = none) (l Bs cap : Nat) (a : Option Addr) {α : Type} (J : List α → World → Prop) (W : World) (hBs : W.cell? ⟨Bs, 0, none⟩ = some (.slice a 0 cap)) (h0 : J [] W) :
    CallsIn F n Try.prog 94 #[.func (.yield l) #[] #[], .pointer (some ⟨Bs, 0, none⟩)] W fun e W' => (∃ v, e = .returned v) ∧ J [] W' := by
  refine callsIn_of_wp Try.func94 rfl hF ?_ hro
  simp only [Try.ntmps94, List.size_toArray, List.length_cons, List.length_nil, Nat.reduceAdd, Nat.reduceSub, Array.replicate_succ, Array.replicate_zero, List.push_toArray, List.append_toArray, List.nil_append, List.cons_append]
  gi_wp2
  gi_loopw [7] (fun i wr => i = .int .i64 0 ∧ J [] wr) (fun _ _ => 0)
  case atStart => exact ⟨rfl, h0⟩
  case round =>
    obtain ⟨rfl, hJs⟩ := hrel
    gi_wp2
    go_end0
    exact ⟨⟨_, rfl⟩, hJs⟩

set_option maxHeartbeats 1000000 in
/-- **slices.Values(s)**: the slice value is boxed; the function value captures the box. -/
theorem values_in (F : Fence) (n : Nat) (hF : F.fn 93) (hro : F.round = none) (a : Option Addr) (len cap : Nat) (w : World) :
    CallsIn F n Try.prog 93 #[.slice a len cap] w fun e w' => e = .returned (.func (.func 94) #[] #[.pointer (some ⟨w.heap.size, 0, none⟩)]) ∧ w' = w.alloc (.cells #[.slice a len cap] 23) := by
  refine callsIn_of_wp Try.func93 rfl hF ?_ hro
  simp only [Try.ntmps93, List.size_toArray, List.length_cons, List.length_nil, Nat.reduceAdd, Nat.reduceSub, Array.replicate_succ, Array.replicate_zero, List.push_toArray, List.append_toArray, List.nil_append, List.cons_append]
  gi_wp2
  go_ret
  exact ⟨rfl, rfl⟩

set_option maxHeartbeats 1000000 in
/-- **ballotCandidates(b)**: just slices.Values(b). -/
theorem candidates_in (F : Fence) (n : Nat) (hn : 1 ≤ n) (hF : F.fn 91) (hV : F.fn 93) (hro : F.round = none) (a : Option Addr) (len cap : Nat) (w : World) :
    CallsIn F n Try.prog 91 #[.slice a len cap] w fun e w' => e = .returned (.func (.func 94) #[] #[.pointer (some ⟨w.heap.size, 0, none⟩)]) ∧ w' = w.alloc (.cells #[.slice a len cap] 23) := by
  refine callsIn_of_wp Try.func91 rfl hF ?_ hro
  simp only [Try.ntmps91, List.size_toArray, List.length_cons, List.length_nil, Nat.reduceAdd, Nat.reduceSub, Array.replicate_succ, Array.replicate_zero, List.push_toArray, List.append_toArray, List.nil_append, List.cons_append]
  gi_wp2_with (gi_at_call 93; refine (values_in F (n - 1) hV hro _ _ _ _).mono ?_; rintro e w' ⟨rfl, rfl⟩)
  go_ret
  exact ⟨rfl, rfl⟩

/-- **slices.Values(s) yields the ints of s in order**, whatever the body does that keeps what lay below; the body may know of each int what its type says. -/
theorem values_stops_g {α : Type} (f : α → Int) (xs : List α) (F : Fence) (n : Nat) (hF : F.fn 94) (hro : F.round = none) (hn : 1 ≤ n) (Bs : Nat) (a : Option Addr) (len cap : Nat) (zs : List Int) (has : xs.map f = zs) (w0 w : World) (hBs : Bs < w.heap.size) (hb0 : Below w0.heap.size w0 w)
    (hc : w.cell? ⟨Bs, 0, none⟩ = some (.slice a len cap)) (hI : IsInts w0 a len cap zs) :
    SeqStopsK F n Try.prog 94 #[.pointer (some ⟨Bs, 0, none⟩)] (fun x : α => #[Value.int .i64 (f x)]) (Below w0.heap.size) (fun ys => ys = xs) (fun pre => pre <+: xs) len w := fun l J Jx W hW _ _ hY h0 => by
  have hc' := (hW.cell (p := ⟨Bs, 0, none⟩) hBs).trans hc
  have hB := hb0.trans (hW.mono hb0.size)
  obtain ⟨h1, h2, h3, h4⟩ := hI
  have hal : xs.length = len := by rw [← h1, ← has, List.length_map]
  by_cases hl : 0 < len
  · obtain ⟨b, off, rfl, hb, hcs⟩ := h4 hl
    obtain ⟨a0, at0, ha0⟩ : ∃ a0 t, xs = a0 :: t := by
      cases xs with
      | nil => simp at hal; omega
      | cons a0 t => exact ⟨a0, t, rfl⟩
    have hx : ∀ j, j < len → zs[j]?.getD 0 = f (xs[j]?.getD a0) := fun j hj => by
      rw [← has]; simp [show j < xs.length from by omega]
    have hall : upto (fun j => xs[j]?.getD a0) len = xs := by
      apply List.ext_getElem
      · simp [upto, hal]
      · intro i h1 h2
        simp [upto, h2]
    have htake : ∀ k, k ≤ len → upto (fun j => xs[j]?.getD a0) k = xs.take k := fun k hk => by
      apply List.ext_getElem
      · simp [upto]; omega
      · intro i h1 h2
        have : i < xs.length := by simp [upto] at h1; omega
        simp [upto, this]
    refine (values1_in F n hF hro hn l Bs w0.heap.size b off len cap f (fun j => xs[j]?.getD a0) h3 hb J Jx hY W hc' (fun j hj => by rw [← hx j hj]; exact (hB.cell (p := ⟨b, off + j, none⟩) hb).trans (hcs j hj)) h0).mono ?_
    rintro e W' ⟨he, ⟨ys, rfl, hj⟩ | ⟨pre, ⟨k, hk, rfl⟩, hj⟩⟩
    · exact ⟨he, .inl ⟨_, hall, hj⟩⟩
    · exact ⟨he, .inr ⟨_, by rw [htake k hk]; exact List.take_prefix _ _, hj⟩⟩
  · obtain rfl : len = 0 := by omega
    obtain rfl : xs = [] := List.length_eq_zero_iff.1 hal
    exact (values1_nil_in F n hF hro l Bs cap a J W hc' h0).mono fun e W' ⟨he, hj⟩ => ⟨he, .inl ⟨_, rfl, hj⟩⟩

theorem values_stops (F : Fence) (n : Nat) (hF : F.fn 94) (hro : F.round = none) (hn : 1 ≤ n) (Bs : Nat) (a : Option Addr) (len cap : Nat) (zs : List Int) (w0 w : World) (hBs : Bs < w.heap.size) (hb0 : Below w0.heap.size w0 w)
    (hc : w.cell? ⟨Bs, 0, none⟩ = some (.slice a len cap)) (hI : IsInts w0 a len cap zs) :
    SeqStopsK F n Try.prog 94 #[.pointer (some ⟨Bs, 0, none⟩)] (fun x : Int => #[Value.int .i64 x]) (Below w0.heap.size) (fun ys => ys = zs) (fun pre => pre <+: zs) len w :=
  values_stops_g (fun z : Int => z) zs F n hF hro hn Bs a len cap zs (by simp) w0 w hBs hb0 hc hI

end Go.Proofs.Ytbcemgmfkddafaa
