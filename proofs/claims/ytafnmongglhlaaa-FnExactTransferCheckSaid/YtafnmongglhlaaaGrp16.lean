/-
  Two fractions compared with == and !=. Of no function.
  A drawing region that calls, lays a block and stores a pair of ints into it: what stands behind it. Of no function.
  spec.FracOf, spec.FracAdd, spec.FracTimes and spec.FracLess: what they answer at every two fractions; they write into no memory that was there.
  Who has left, drawn (l91Left): a new slice of bools; the reader has gone on. No condition but what each theorem says.
  Lots, step by step: what a seed draws of those that are left, what is told of arguments out of range, and that a part of lots is none. Of no memory.
  impl.LotsValid, impl.LotsFirst, impl.seedValid and impl.LotsSeal: what they answer at every list of at most 1048600 ints, every list of bools and every number; they write into no memory that was there.
  spec.l12Many, l15Sum and l15Best: what they answer; they write into no memory that was there.
  spec.l1First: for every ballot of at most 1048600 ints and every list of at most 1048600 bools; neither writes into memory that was there.
  Whether piles fit n candidates: spec.l3Fits, for every list of piles (at most 1048600, with texts of at most 1048600 bytes) and every number; it does not write into memory that was there.
-/
import Derived.Test.YtafnmongglhlaaaGrpQ
import Derived.Laws.StructEq
import Derived.Deep.RegionLaw
import Derived.Deep.Cut
import Derived.Deep.CutRange
import Derived.Test.YtafnmongglhlaaaGrpT
import Derived.Test.YtafnmongglhlaaaGrp4
import Derived.Deep.Onto
import Derived.Test.YtafnmongglhlaaaGrp14
import Derived.Test.YtafnmongglhlaaaGrp9
import Derived.Test.YtafnmongglhlaaaGrp1
import Derived.Test.YtafnmongglhlaaaGrp3
import Derived.Test.YtafnmongglhlaaaGrp12
import Derived.Test.YtafnmongglhlaaaGrp5
namespace Go.Proofs.Ytafnmongglhlaaa
open Go.RowKit

theorem frac_under : Try.prog.underlying 40 = some (.struct (Try.prog.fieldsOf 40)) := by kernel_rfl
theorem frac_stood : Try.prog.stoodInHeld 40 = false := by kernel_rfl
theorem frac_guard : Try.prog.eqGuardType Try.prog.depth 40 = false := by kernel_rfl

theorem run_neqF (a1 a2 b1 b2 : Int) (v : Bool) (hv : (!eqF a1 a2 b1 b2) = v) (w : World) : (binOp .neq 40 (.agg #[.int .i64 a1, .int .i64 a2]) (.agg #[.int .i64 b1, .int .i64 b2])).run Try.prog w = .ok (.bool v) w := by
  subst hv
  rw [run_neq_struct, run_equalIn_agg _ _ _ _ _ frac_under frac_stood]
  simp [go_sem, Program.fieldsOf, Try.underlying40, Try.underlying3, Op.eqFields, eqF]
  by_cases h : a1 = b1
  · subst h
    by_cases h2 : a2 = b2 <;> simp [h2]
  · simp [h]
theorem run_eqF (a1 a2 b1 b2 : Int) (v : Bool) (hv : eqF a1 a2 b1 b2 = v) (w : World) : (binOp .eql 40 (.agg #[.int .i64 a1, .int .i64 a2]) (.agg #[.int .i64 b1, .int .i64 b2])).run Try.prog w = .ok (.bool v) w := by
  subst hv
  rw [run_eql_struct, run_equalIn_agg _ _ _ _ _ frac_under frac_stood]
  simp [go_sem, Program.fieldsOf, Try.underlying40, Try.underlying3, Op.eqFields, eqF]
  by_cases h : a1 = b1
  · subst h
    by_cases h2 : a2 = b2 <;> simp [h2]
  · simp [h]
theorem run_guardF (op : BinOp) (x y : Operand) (xs ys : Array Value) (w : World) : (eqGuard op 40 x y (.agg xs) (.agg ys)).run Try.prog w = .ok () w := run_eqGuard_agg w op _ x y xs ys frac_guard
theorem eqF_self (x y : Int) : eqF x y x y = true := by simp [eqF]
theorem eqF_of {a b : Fr} (h : a = b) : eqF a.1 a.2 b.1 b.2 = true := by subst h; simp [eqF]
theorem eqF_iff (a1 a2 b1 b2 : Int) : eqF a1 a2 b1 b2 = decide ((a1, a2) = (b1, b2)) := by
  rw [Bool.eq_iff_iff]; simp [eqF]
end Go.Proofs.Ytafnmongglhlaaa

namespace Go.Proofs.Ytafnmongglhlaaa
open Go.RowKit

/-- Behind the region: a block of the region's own holds the pair, nothing that was there has turned. -/
def MadeB (W0 : World) (x y : Int) (ok : Bool) (s5 s6 : Value) (wx : World) : Prop := ∃ p, s5 = .pointer (some ⟨p, 0, none⟩) ∧ s6 = .bool ok ∧ Two wx p x y ∧ Below W0.heap.size W0 wx
theorem made_old {W0 w3 : World} {x y u v : Int} {ok : Bool} {p : Nat} (hN : Two w3 p u v) (hC : Below W0.heap.size W0 w3) (hp : W0.heap.size ≤ p) :
    MadeB W0 x y ok (.pointer (some ⟨p, 0, none⟩)) (.bool ok) ((w3.setCell ⟨p, 0, none⟩ (.int .i64 x)).setCell ⟨p, 1, none⟩ (.int .i64 y)) :=
  ⟨p, rfl, rfl, ⟨by simpa [World.setCell] using hN.lt, by rw [World.cell?_setCell_other _ _ _ _ (by intro e; injection e with _ e2; exact absurd e2 (by decide))]; exact hN.set0 _, hN.set1 _ _, by simpa using hN.f0, by simpa using hN.f1⟩, below_set2 hC hp _ _⟩
theorem made_new {W0 w3 : World} {x y : Int} {ok : Bool} {t : TypeId} (hC : Below W0.heap.size W0 w3) :
    MadeB W0 x y ok (.pointer (some ⟨w3.heap.size, 0, none⟩)) (.bool ok) (w3.alloc (.cells #[.int .i64 x, .int .i64 y] t)) :=
  ⟨_, rfl, rfl, Two.new _ _ _ _, below_more hC _⟩

end Go.Proofs.Ytafnmongglhlaaa

namespace Go.Proofs.Ytafnmongglhlaaa
open Go.RowKit

set_option maxRecDepth 100000 in
set_option maxHeartbeats 4000000 in
/-- **spec.FracLess**. -/
theorem specFracLess_as (a1 a2 b1 b2 : Int) (v : Bool) (w : World) (hf : lessB (a1, a2) (b1, b2) = v) :
    Calls Try.prog 84 #[.agg #[.int .i64 a1, .int .i64 a2], .agg #[.int .i64 b1, .int .i64 b2]] w fun e w' => e = .returned (.bool v) ∧ Below w.heap.size w w' := by
  have T0 := Lib.hid (Duo.new w a1 a2 b1 b2 40 40)
  have B0 := Lib.hid (two_allocs w (.cells #[.int .i64 a1, .int .i64 a2] 40) (.cells #[.int .i64 b1, .int .i64 b2] 40))
  cases ha : fracB (a1, a2)
  · obtain rfl : v = false := by rw [← hf]; simp [lessB, ha]
    have HA := Lib.hid ha
    clear ha hf
    go_enter Try.func84, Try.ntmps84
    go_wp2_with fail
    refine (specFrac_as a1 a2 false _ HA.out).mono ?_
    rintro e w1 ⟨rfl, hb⟩
    have B1 := Lib.hid (below_on B0.out hb)
    clear hb
    go_wp2
    go_ret
    exact ⟨rfl, B1.out⟩
  · cases hv : fracB (b1, b2)
    · obtain rfl : v = false := by rw [← hf]; simp [lessB, ha, hv]
      have HA := Lib.hid ha
      have HV := Lib.hid hv
      clear ha hv hf
      go_enter Try.func84, Try.ntmps84
      go_wp2_with fail
      refine (specFrac_as a1 a2 true _ HA.out).mono ?_
      rintro e w1 ⟨rfl, hb⟩
      have B1 := Lib.hid (below_on B0.out hb)
      have T1 := Lib.hid (T0.out.below hb)
      clear hb
      obtain ⟨⟨la, a0, a9, -, -⟩, ⟨lb, b0, b9, -, -⟩⟩ := T1.out
      go_wp2_with fail
      refine (specFrac_as b1 b2 false _ HV.out).mono ?_
      rintro e w2 ⟨rfl, hb⟩
      have B2 := Lib.hid (below_on B1.out hb)
      clear hb
      go_wp2
      go_ret
      exact ⟨rfl, B2.out⟩
    · obtain ⟨hA1, hA2, -⟩ := (fracB_iff _).1 ha
      obtain ⟨hV1, hV2, -⟩ := (fracB_iff _).1 hv
      have hA1' : -9999999 ≤ a1 ∧ a1 ≤ 9999999 := hA1
      have hA2' : 1 ≤ a2 ∧ a2 ≤ 9999999 := hA2
      have hV1' : -9999999 ≤ b1 ∧ b1 ≤ 9999999 := hV1
      have hV2' : 1 ≤ b2 ∧ b2 ≤ 9999999 := hV2
      have m1 := mul_bound hA1' (y := b2) ⟨by omega, by omega⟩
      have m2 := mul_bound hV1' (y := a2) ⟨by omega, by omega⟩
      have hp1 : IntKind.i64.wrap (a1 * b2) = a1 * b2 := IntWalk.i64_in _ (by omega)
      have hp2 : IntKind.i64.wrap (b1 * a2) = b1 * a2 := IntWalk.i64_in _ (by omega)
      have hD : decide (a1 * b2 < b1 * a2) = v := by rw [← hf]; simp [lessB, ha, hv, lessF]
      have HA := Lib.hid ha
      have HV := Lib.hid hv
      clear ha hv hf hA1 hA2 hV1 hV2 m1 m2
      go_enter Try.func84, Try.ntmps84
      go_wp2_with fail
      refine (specFrac_as a1 a2 true _ HA.out).mono ?_
      rintro e w1 ⟨rfl, hb⟩
      have B1 := Lib.hid (below_on B0.out hb)
      have T1 := Lib.hid (T0.out.below hb)
      clear hb
      obtain ⟨⟨la, a0, a9, -, -⟩, ⟨lb, b0, b9, -, -⟩⟩ := T1.out
      go_wp2_with fail
      refine (specFrac_as b1 b2 true _ HV.out).mono ?_
      rintro e w2 ⟨rfl, hb⟩
      have B2 := Lib.hid (below_on B1.out hb)
      have T2 := Lib.hid (T1.out.below hb)
      clear hb la a0 a9 lb b0 b9
      obtain ⟨⟨la, a0, a9, -, -⟩, ⟨lb, b0, b9, -, -⟩⟩ := T2.out
      go_wp2
      go_ret
      exact ⟨rfl, B2.out⟩

end Go.Proofs.Ytafnmongglhlaaa

namespace Go.Proofs.Ytafnmongglhlaaa
open Go.RowKit

theorem IsBools.of_owned {w : World} {base len cap : Nat} {a : Option Addr} {zs : List Bool} (h : w.ownsRow base 4 1 (.slice a len cap) len (zs.map Value.bool)) (hl : len ≤ 1048600) : IsBools w a len cap zs := by
  rcases h.2 with ⟨e, e0⟩ | ⟨g, c, _, e, _⟩
  · subst e0
    have hz : zs = [] := by have := h.1; simpa using this
    subst hz
    exact ⟨rfl, Nat.zero_le _, hl, fun hp => by omega⟩
  · injection e with e1 e2 e3
    subst e1
    exact IsBools.of_owns h hl

/-- Who has left, drawn: in memory of the call's own; the reader has gone on. -/
def DrawnLeft (R p : Nat) (w : World) (e : Ending) (w' : World) : Prop := ∃ (zs : List Bool) (a : Option Addr) (cap p' : Nat), e = .returned (.slice a zs.length cap) ∧ w'.ownsRow w.heap.size 4 1 (.slice a zs.length cap) zs.length (zs.map Value.bool) ∧ zs.length ≤ 10 ∧ Rd w' R p' ∧ p' ≤ p + 10 ∧ Step R w w'

end Go.Proofs.Ytafnmongglhlaaa

namespace Go.Proofs.Ytafnmongglhlaaa

/-- The lots that a seed draws of those that are left. -/
def lotR (rest : List Int) (seed : Nat) : List Int := lotL rest.length rest seed
theorem lotR_nil (seed : Nat) : lotR [] seed = [] := rfl
theorem lotR_step {rest : List Int} {m : Nat} (hm : rest.length = m) (h : m ≠ 0) (seed : Nat) : lotR rest seed = rest[seed % m]?.getD 0 :: lotR (rest.eraseIdx (seed % m)) (seed / m) := by
  subst hm
  obtain ⟨n, hn⟩ : ∃ n, rest.length = n + 1 := ⟨rest.length - 1, by omega⟩
  have hk := Nat.mod_lt seed (show 0 < rest.length by omega)
  have he : (rest.eraseIdx (seed % rest.length)).length = n := by rw [List.length_eraseIdx, if_pos hk]; omega
  unfold lotR
  rw [he]
  conv => lhs; rw [hn]
  rw [lotL_step n rest seed h]
theorem lotR_all (n seed : Nat) : lotR (fromZero n) seed = lotsOf n seed := by unfold lotR lotsOf; rw [fromZero_length]
theorem erase_length {rest : List Int} {m k : Nat} (hm : rest.length = m) (h : k < m) : (rest.eraseIdx k).length = m - 1 := by rw [List.length_eraseIdx, hm, if_pos h]

/-- The number of candidates and the seed are in range. -/
def okLots (n seed : Int) : Bool := inB n 1 5 && inB seed 0 999
/-- What LotsOf returns. -/
def lotsI (n seed : Int) : List Int := if okLots n seed = true then lotsOf n.toNat seed.toNat else []
theorem okLots_of {n seed : Int} (h : okLots n seed = true) : (1 ≤ n ∧ n ≤ 5) ∧ 0 ≤ seed ∧ seed ≤ 999 := by simpa [okLots, inB] using h
theorem okLots_yes {n seed : Int} (h1 : 1 ≤ n) (h2 : n ≤ 5) (h3 : 0 ≤ seed) (h4 : seed ≤ 999) : okLots n seed = true := by simp [okLots, inB]; omega
theorem okLots_no {n seed : Int} (h : n < 1 ∨ 5 < n ∨ seed < 0 ∨ 999 < seed) : okLots n seed = false := by
  cases hk : okLots n seed
  · rfl
  · have := okLots_of hk; omega
theorem lotsI_yes {n seed : Int} (h : okLots n seed = true) : lotsI n seed = lotsOf n.toNat seed.toNat := by rw [lotsI, if_pos h]
theorem lotsI_no {n seed : Int} (h : okLots n seed = false) : lotsI n seed = [] := by rw [lotsI, h]; rfl
theorem lotsI_short (n seed : Int) : (lotsI n seed).length ≤ 5 := by
  cases h : okLots n seed
  · rw [lotsI_no h]; simp
  · have := okLots_of h
    rw [lotsI_yes h, lotsOf_length]; omega
theorem lotsI_length {n seed : Int} (h : okLots n seed = true) : ((lotsI n seed).length : Int) = n := by
  have := okLots_of h
  rw [lotsI_yes h, lotsOf_length]; omega
theorem lotsI_valid {n seed : Int} (h : okLots n seed = true) : lotsB (lotsI n seed) = true := by
  have := okLots_of h
  rw [lotsI_yes h]; exact lotsOf_valid (by omega) (by omega)
theorem lotsI_head {n seed : Int} (h : okLots n seed = true) : (lotsI n seed)[0]?.getD 0 = seed % n := by
  have := okLots_of h
  rw [lotsI_yes h, lotsOf_head (by omega), Int.natCast_emod, Int.toNat_of_nonneg (by omega), Int.toNat_of_nonneg (by omega)]

/-- The product of 1 to n. -/
def factI (n : Int) : Int := (factN n.toNat : Int)
/-- The product of the numbers up to i (those above 1). -/
theorem fact_small (k : Nat) (h : k ≤ 5) : factN k = [1, 1, 2, 6, 24, 120][k]?.getD 0 := by
  have e : k = 0 ∨ k = 1 ∨ k = 2 ∨ k = 3 ∨ k = 4 ∨ k = 5 := by omega
  rcases e with rfl | rfl | rfl | rfl | rfl | rfl <;> rfl
theorem lotsI_more {n seed : Int} (h : okLots n seed = true) (h2 : okLots n (seed + factI n) = true) : lotsI n (seed + factI n) = lotsI n seed := by
  have := okLots_of h
  rw [lotsI_yes h, lotsI_yes h2, show (seed + factI n).toNat = seed.toNat + factN n.toNat by unfold factI; omega, lotsOf_more]
/-- **Each order of two lots has a seed.** -/
theorem lotsI_swap {n seed : Int} (h : okLots n seed = true) (h2 : 2 ≤ n) : ∃ q : Nat, q < 120 ∧ lotsI n (q : Int) = (lotsI n seed)[1]?.getD 0 :: (lotsI n seed)[0]?.getD 0 :: (lotsI n seed).drop 2 := by
  have hh := okLots_of h
  obtain ⟨m, rfl⟩ := Int.eq_ofNat_of_zero_le (show 0 ≤ n by omega)
  obtain ⟨s, rfl⟩ := Int.eq_ofNat_of_zero_le (show 0 ≤ seed by omega)
  rw [lotsI_yes h, Int.toNat_natCast, Int.toNat_natCast, lotsOf_mod m s]
  have hf : 0 < factN m := by rw [fact_small m (by omega)]; have e : m = 2 ∨ m = 3 ∨ m = 4 ∨ m = 5 := by omega
                              rcases e with rfl | rfl | rfl | rfl <;> decide
  obtain ⟨q, hq, he⟩ := lots_swap_all m (by omega) (by omega) (s % factN m) (Nat.mod_lt _ hf)
  refine ⟨q, hq, ?_⟩
  rw [lotsI_yes (okLots_yes (by omega) (by omega) (by omega) (by omega)), Int.toNat_natCast, Int.toNat_natCast, he]

/-- Lots turned about are lots. -/
theorem lotsB_reverse {zs : List Int} (h : lotsB zs = true) : lotsB zs.reverse = true := lotsB_perm h (List.reverse_perm zs)
/-- **Lots whose last one is exchanged for the first are none.** -/
theorem lotsB_twice {zs : List Int} (h2 : 2 ≤ zs.length) : lotsB (zs.take (zs.length - 1) ++ [zs[0]?.getD 0]) = false := by
  cases hv : lotsB (zs.take (zs.length - 1) ++ [zs[0]?.getD 0])
  · rfl
  · exfalso
    have hn := vB_nodup hv
    rw [List.nodup_append] at hn
    have hm : zs[0]?.getD 0 ∈ zs.take (zs.length - 1) := by
      have h0 : 0 < zs.length := by omega
      have h1 : 0 < (zs.take (zs.length - 1)).length := by simp; omega
      have e : zs[0]?.getD 0 = (zs.take (zs.length - 1))[0] := by simp [h0]
      rw [e]; exact List.getElem_mem h1
    exact hn.2.2 _ hm _ (by simp) rfl

/-- What LotsFirst returns. -/
def pickB (zs : List Int) (L : List Bool) : Int := if lotsB zs = true ∧ L.length = zs.length then pickL zs L else -1
theorem lotsB_mem {zs : List Int} (h : lotsB zs = true) : ∀ z ∈ zs, 0 ≤ z ∧ z < (zs.length : Int) := (vB_mem h).2.2
/-- What LotsSeal returns. -/
def sealB (a b : Int) : Int := if inB a 0 999 = true ∧ inB b 0 999 = true then sealV a b else -1
theorem inB_of {x lo hi : Int} (h : inB x lo hi = true) : lo ≤ x ∧ x ≤ hi := by simpa [inB] using h
theorem inB_yes {x lo hi : Int} (h1 : lo ≤ x) (h2 : x ≤ hi) : inB x lo hi = true := by simp [inB]; omega
theorem inB_no {x lo hi : Int} (h : x < lo ∨ hi < x) : inB x lo hi = false := by simp [inB]; omega
theorem sealB_yes {a b : Int} (ha : 0 ≤ a ∧ a ≤ 999) (hb : 0 ≤ b ∧ b ≤ 999) : sealB a b = sealV a b := by rw [sealB, if_pos ⟨inB_yes ha.1 ha.2, inB_yes hb.1 hb.2⟩]
theorem sealB_no {a b : Int} (h : (a < 0 ∨ 999 < a) ∨ (b < 0 ∨ 999 < b)) : sealB a b = -1 := by
  rw [sealB, if_neg]
  rintro ⟨h1, h2⟩
  have := inB_of h1; have := inB_of h2; omega
theorem sealB_neg {a b : Int} : sealB a b < 0 ↔ ¬ ((0 ≤ a ∧ a ≤ 999) ∧ 0 ≤ b ∧ b ≤ 999) := by
  constructor
  · rintro h ⟨ha, hb⟩
    rw [sealB_yes ha hb, sealV] at h
    have := Int.emod_nonneg (a * 7919 + b * 104729 + 12345) (show (1000003 : Int) ≠ 0 by decide)
    omega
  · intro h
    rw [sealB_no (by omega)]; decide

end Go.Proofs.Ytafnmongglhlaaa

namespace Go.Proofs.Ytafnmongglhlaaa
open Go.RowKit

/-- **impl.LotsValid**. -/
theorem implLots_any (a : Option Addr) (len cap : Nat) (zs : List Int) (w : World) (h : IsInts w a len cap zs) :
    Calls Try.prog 107 #[.slice a len cap] w fun e w' => e = .returned (.bool (lotsB zs)) ∧ Below w.heap.size w w' := by
  have HV : Hid (validB zs (len : Int) = lotsB zs) := by unfold Hid lotsB; rw [h.1]
  have H := Lib.hid h; clear h
  go_enter Try.func107, Try.ntmps107
  go_wp2_with fail
  refine (implValid_any _ _ _ zs _ _ H.out).mono ?_
  rintro e w1 ⟨rfl, hb⟩
  go_wp2
  go_ret
  exact ⟨ret_bool HV.out, hb⟩

end Go.Proofs.Ytafnmongglhlaaa

namespace Go.Proofs.Ytafnmongglhlaaa
open Go.RowKit

attribute [local go_sem] Oper.semAt_some

/-- How many are still there. -/
def leftN (L : List Bool) : Nat := (L.filter fun b => !b).length
theorem leftN_take {L : List Bool} {k : Nat} (h : k < L.length) : leftN (L.take (k + 1)) = leftN (L.take k) + (if L[k]?.getD false = true then 0 else 1) := by
  unfold leftN
  rw [List.take_succ_eq_append_getElem h, List.filter_append, List.length_append]
  have e : L[k]?.getD false = L[k] := by simp [h]
  rw [e]
  cases L[k] <;> simp
theorem leftN_most (L : List Bool) : leftN L ≤ L.length := List.length_filter_le _ _

set_option maxHeartbeats 1000000 in
/-- **spec.l12Many**. -/
theorem many12_as (a : Option Addr) (len cap : Nat) (L : List Bool) (r : Nat) (w : World) (h : IsBools w a len cap L) (hr : leftN L = r) :
    Calls Try.prog 86 #[.slice a len cap] w fun e w' => e = .returned (.int .i64 (r : Int)) ∧ w = w' := by
  obtain ⟨h1, h2, h3, h4⟩ := h
  have H1 := Lib.hid h1; clear h1
  have H4 := Lib.hid h4; clear h4
  have HR := Lib.hid hr; clear hr
  go_enter Try.func86, Try.ntmps86
  go_wp2
  go_loop [3, 4] (fun m i => ∃ k q : Nat, k ≤ len ∧ q ≤ k ∧ i = .int .i64 (k : Int) ∧ m = .int .i64 (q : Int) ∧ Hid (leftN (L.take k) = q)) (fun _ i => len - (intOf i).toNat)
  case atStart => exact ⟨0, 0, Nat.zero_le _, Nat.le_refl _, rfl, rfl, rfl⟩
  case round =>
    obtain ⟨k, q, hk, hq, rfl, rfl, hp⟩ := hrel
    by_cases hlt : k < len
    · obtain ⟨b, o, rfl, hb, hc⟩ := H4.out (by omega)
      have hz := hc k hlt
      have hS := leftN_take (L := L) (k := k) (by rw [H1.out]; exact hlt)
      rw [hp.out] at hS
      have HS := Lib.hid hS
      clear hc hS
      cases hL : L[k]?.getD false
      · have HX : Hid (leftN (L.take (k + 1)) = q + 1) := by unfold Hid; rw [HS.out, hL]; rfl
        rw [hL] at hz
        clear hL
        go_wp2
        go_round
        case rel => exact ⟨k + 1, q + 1, by omega, by omega, by go_num, by go_num, HX⟩
        case measure => simp [intOf]; omega
      · have HX : Hid (leftN (L.take (k + 1)) = q) := by unfold Hid; rw [HS.out, hL]; rfl
        rw [hL] at hz
        clear hL
        go_wp2
        go_round
        case rel => exact ⟨k + 1, q, by omega, by omega, by go_num, rfl, HX⟩
        case measure => simp [intOf]; omega
    · obtain rfl : k = len := by omega
      have HX : Hid (q = r) := by
        have := hp.out
        rw [← H1.out, List.take_length] at this
        unfold Hid; rw [← this, HR.out]
      go_wp2
      go_ret
      exact ⟨ret_int (by rw [HX.out]), rfl⟩

set_option maxRecDepth 100000 in
set_option maxHeartbeats 2000000 in
/-- **spec.l15Sum**. -/
theorem sum15_as (a1 a2 b1 b2 x y : Int) (w : World) (ha : fracB (a1, a2) = true) (hv : fracB (b1, b2) = true) (hf : ofF (sumF (a1, a2) (b1, b2)).1 (sumF (a1, a2) (b1, b2)).2 = (x, y)) :
    Calls Try.prog 119 #[.agg #[.int .i64 a1, .int .i64 a2], .agg #[.int .i64 b1, .int .i64 b2]] w fun e w' => e = .returned (.agg #[.int .i64 x, .int .i64 y]) ∧ Below w.heap.size w w' := by
  have T0 := Lib.hid (Tri.new w a1 a2 b1 b2 40 40 40)
  have B0 := Lib.hid (three_allocs w (.cells #[.int .i64 a1, .int .i64 a2] 40) (.cells #[.int .i64 b1, .int .i64 b2] 40) (.cells #[.int .i64 0, .int .i64 0] 40))
  have hbd := sumF_bound ha hv
  obtain ⟨hA1, hA2, -⟩ := (fracB_iff _).1 ha
  obtain ⟨hV1, hV2, -⟩ := (fracB_iff _).1 hv
  have hA1' : -9999999 ≤ a1 ∧ a1 ≤ 9999999 := hA1
  have hA2' : 1 ≤ a2 ∧ a2 ≤ 9999999 := hA2
  have hV1' : -9999999 ≤ b1 ∧ b1 ≤ 9999999 := hV1
  have hV2' : 1 ≤ b2 ∧ b2 ≤ 9999999 := hV2
  simp only [sumF] at hbd hf
  have m1 := mul_bound hA1' (y := b2) ⟨by omega, by omega⟩
  have m2 := mul_bound hV1' (y := a2) ⟨by omega, by omega⟩
  have m3 := mul_bound (x := a2) ⟨by omega, by omega⟩ (y := b2) ⟨by omega, by omega⟩
  have hp1 : IntKind.i64.wrap (a1 * b2) = a1 * b2 := IntWalk.i64_in _ (by omega)
  have hp2 : IntKind.i64.wrap (b1 * a2) = b1 * a2 := IntWalk.i64_in _ (by omega)
  have hp3 : IntKind.i64.wrap (a2 * b2) = a2 * b2 := IntWalk.i64_in _ (by omega)
  have hp4 : IntKind.i64.wrap (a1 * b2 + b1 * a2) = a1 * b2 + b1 * a2 := IntWalk.i64_in _ (by omega)
  have HF := Lib.hid hf
  clear ha hv hf hA1 hA2 hV1 hV2
  obtain ⟨⟨la, a0, a9, -, -⟩, ⟨lb, b0, b9, -, -⟩, ⟨lr, r0, r9, g0, g9⟩⟩ := T0.out
  go_enter Try.func119, Try.ntmps119
  go_wp2_with fail
  refine (l5Of_as _ _ x y _ (by omega) (by omega) HF.out).mono ?_
  rintro e w3 ⟨rfl, hb⟩
  clear la a0 a9 lb b0 b9 lr r0 r9 g0 g9
  have T3 := Lib.hid (T0.out.below hb)
  have B3 := Lib.hid (below_on B0.out hb)
  clear hb
  obtain ⟨⟨la, a0, a9, -, -⟩, ⟨lb, b0, b9, -, -⟩, ⟨lr, r0, r9, g0, g9⟩⟩ := T3.out
  have k0 := Two.set0 T3.out.r (.int .i64 x)
  have k9 := Two.set1 T3.out.r (.int .i64 x) (.int .i64 y)
  go_wp2
  refine bodyPost_ret (v := .agg #[.int .i64 x, .int .i64 y]) (by simp [results, Try.results119, go_sem, k0, k9]) rfl ?_
  exact ⟨rfl, below_set2 B3.out (by omega) _ _⟩

end Go.Proofs.Ytafnmongglhlaaa

namespace Go.Proofs.Ytafnmongglhlaaa
open Go.RowKit Go.Shelf

attribute [local go_sem] Oper.semAt_some

set_option maxHeartbeats 1000000 in
theorem l1First_any (a : Option Addr) (len cap : Nat) (zs : List Int) (a' : Option Addr) (len' cap' : Nat) (L : List Bool) (w : World) (h : IsInts w a len cap zs) (h' : IsBools w a' len' cap' L) (hr : ∀ z ∈ zs, 0 ≤ z ∧ z < (len' : Int)) :
    Calls Try.prog 118 #[.slice a len cap, .slice a' len' cap'] w fun e w' => e = .returned (.int .i64 (firstL zs L)) ∧ w = w' := by
  obtain ⟨h1, h2, h3, h4⟩ := h
  obtain ⟨g1, g2, g3, g4⟩ := h'
  have H1 := Lib.hid h1; clear h1
  have H4 := Lib.hid h4; clear h4
  have G4 := Lib.hid g4; clear g4 g1
  have HR := Lib.hid hr; clear hr
  go_enter Try.func118, Try.ntmps118
  go_wp2
  go_loop [5] (fun i => ∃ k : Nat, k ≤ len ∧ i = .int .i64 k ∧ Hid (firstL zs L = firstL (zs.drop k) L)) (fun i => len - (intOf i).toNat)
  case atStart => exact ⟨0, Nat.zero_le _, rfl, by simp [Hid]⟩
  case round =>
    obtain ⟨k, hk, rfl, hp⟩ := hrel
    by_cases hlt : k < len
    · obtain ⟨b, o, rfl, hb, hc⟩ := H4.out (by omega)
      have hz := hc k hlt
      have hkz : k < zs.length := by rw [H1.out]; exact hlt
      have hr := HR.out (zs[k]?.getD 0) (by simp [hkz])
      obtain ⟨c, hcz⟩ := Int.eq_ofNat_of_zero_le hr.1
      obtain ⟨lb, lo, rfl, hlb, hlc⟩ := G4.out (by omega)
      have hcl : c < len' := by omega
      have hcell := hlc c hcl
      rw [hcz] at hz
      have HD := drop_cons zs k hkz
      rw [hcz] at HD
      have HD := Lib.hid HD
      clear hc hlc hr hcz hkz
      cases hL : L[c]?.getD false
      · have HL := Lib.hid hL
        go_wp2
        go_ret
        refine ⟨ret_int ?_, rfl⟩
        rw [hp.out, HD.out, firstL, if_neg (by rw [Int.toNat_natCast, HL.out]; simp)]
      · have HL := Lib.hid hL
        go_wp2
        go_round
        case rel =>
          refine ⟨k + 1, by omega, by go_num, ?_⟩
          unfold Hid
          rw [hp.out, HD.out, firstL, if_pos (by rw [Int.toNat_natCast]; exact HL.out)]
        case measure => simp [intOf]; omega
    · obtain rfl : k = len := by omega
      go_wp2
      go_ret
      refine ⟨ret_int ?_, rfl⟩
      rw [hp.out, List.drop_of_length_le (by rw [H1.out]; omega)]; rfl

end Go.Proofs.Ytafnmongglhlaaa

namespace Go.Proofs.Ytafnmongglhlaaa
open Go.RowKit

attribute [local go_sem] Oper.semAt_some

theorem pile_mem {ps : List Pl} {k : Nat} (h : k < ps.length) : (tAt ps k, mAt ps k) ∈ ps := by
  have : (tAt ps k, mAt ps k) = ps[k] := by simp [tAt, mAt, h]
  rw [this]; exact List.getElem_mem h
theorem fits_no {ps : List Pl} {n : Int} {k : Nat} (hk : k < ps.length) (h : validB (parseL (tAt ps k)) n = false) : fitsB ps n = false := by
  cases hf : fitsB ps n
  · rfl
  · exfalso
    simp only [fitsB, Bool.and_eq_true, List.all_eq_true] at hf
    have hm := pile_mem hk
    have h1 := hf.2.2 _ hm
    have h2 := (pilesB_pos hf.1).2.2.2.1 _ hm
    rw [parseL_ok h2, h1] at h
    cases h
theorem fits_all {ps : List Pl} {n : Int} (h : ∀ i, i < ps.length → validB (parseL (tAt ps i)) n = true) : fitsB ps n = (pilesB ps && inB n 1 5) := by
  unfold fitsB
  cases hp : pilesB ps
  · rfl
  · have e : (ps.all fun p => validB (nums p.1) n) = true := by
      rw [List.all_eq_true]
      intro p hm
      obtain ⟨i, hi, rfl⟩ := List.mem_iff_getElem.1 hm
      have h1 := h i hi
      have h2 := (pilesB_pos hp).2.2.2.1 _ hm
      have e : tAt ps i = (ps[i]).1 := by simp [tAt, hi]
      rw [e, parseL_ok h2] at h1
      exact h1
    rw [e, Bool.and_true]
theorem fits_parts {ps : List Pl} {n : Int} (h : fitsB ps n = true) : pilesB ps = true ∧ 1 ≤ n ∧ n ≤ 5 ∧ ∀ i, i < ps.length → validB (parseL (tAt ps i)) n = true := by
  simp only [fitsB, Bool.and_eq_true, List.all_eq_true] at h
  refine ⟨h.1, ?_, ?_, fun i hi => ?_⟩
  · have := h.2.1; simp [inB] at this; omega
  · have := h.2.1; simp [inB] at this; omega
  · have hm := pile_mem hi
    have h1 := h.2.2 _ hm
    have h2 := (pilesB_pos h.1).2.2.2.1 _ hm
    rw [parseL_ok h2]; exact h1
theorem IsPiles.at_text {w : World} {a : Option Addr} {len cap : Nat} {ps : List Pl} (h : IsPiles w a len cap ps) {k : Nat} (hk : k < len) : ∃ b off, a = some ⟨b, off, none⟩ ∧ b < w.heap.size ∧ w.cell? ⟨b, off + k * 2, none⟩ = some (.string (tAt ps k)) ∧ w.cell? ⟨b, off + k * 2 + 1, none⟩ = some (.int .i64 (mAt ps k)) := by
  obtain ⟨h1, h2, h3, h4⟩ := h
  obtain ⟨b, off, e, hb, hc⟩ := h4 (by omega)
  exact ⟨b, off, e, hb, (hc k hk).1, (hc k hk).2⟩

set_option maxRecDepth 100000 in
set_option maxHeartbeats 2000000 in
/-- **spec.l3Fits**. -/
theorem specFits_as (a : Option Addr) (len cap : Nat) (ps : List Pl) (n : Int) (v : Bool) (w : World) (h : IsPiles w a len cap ps) (hs : Small ps) (hv : fitsB ps n = v) :
    Calls Try.prog 80 #[.slice a len cap, .int .i64 n] w fun e w' => e = .returned (.bool v) ∧ Below w.heap.size w w' := by
  have HI := Lib.hid h
  have HS := Lib.hid hs
  have HV := Lib.hid hv
  have H1 := Lib.hid h.1
  have hlm := h.2.2.1
  clear h hs hv
  obtain ⟨G, hG⟩ : ∃ G, w.heap.size = G := ⟨_, rfl⟩
  go_enter Try.func80, Try.ntmps80
  go_wp2
  go_loopw [5, 6, 7] (fun i _ _ wr => ∃ k : Nat, k ≤ len ∧ i = .int .i64 k ∧ Hid (∀ j, j < k → validB (parseL (tAt ps j)) n = true) ∧ Below G w wr) (fun i _ _ _ => len - (intOf i).toNat)
  case atStart => exact ⟨0, Nat.zero_le _, rfl, fun j hj => by omega, Below.refl _ _⟩
  case round =>
    obtain ⟨k, hk, rfl, hA, hB⟩ := hrel
    have hBw : Below w.heap.size w wr := hG.symm ▸ hB
    by_cases hlt : k < len
    · obtain ⟨b, off, rfl, hb, c0, -⟩ := (HI.out.below hBw).at_text hlt
      obtain ⟨t, ht⟩ : ∃ t, tAt ps k = t := ⟨_, rfl⟩
      obtain ⟨pl, hpl⟩ : ∃ pl, parseL t = pl := ⟨_, rfl⟩
      obtain ⟨u, hu⟩ : ∃ u, validB pl n = u := ⟨_, rfl⟩
      have hst : t.size ≤ 1048600 := by rw [← ht]; exact HS.out k
      have hl5 : pl.length ≤ 5 := by rw [← hpl]; exact parseL_short t
      rw [ht] at c0
      have HT := Lib.hid ht
      have HPL := Lib.hid hpl
      have HU := Lib.hid hu
      clear ht hpl hu hBw
      go_wp2_with fail
      refine (specParse_as t pl _ _ hst HPL.out rfl).mono ?_
      rintro e w3 ⟨a3, c3, rfl, ho3, hb3⟩
      have I3 := Lib.hid (IsInts.of_owned ho3 (by omega))
      have B3 := Lib.hid (hB.trans (hb3.mono (by have := hB.size; rw [hG] at this; exact this)))
      clear ho3 hb3
      go_wp2_with fail
      refine (specValid_any _ _ _ pl n _ I3.out).mono ?_
      rintro e w4 ⟨he, hd⟩
      rw [HU.out] at he
      subst he
      have B4 := Lib.hid (B3.out.trans (hd.below _))
      clear hd
      have HN : Hid (validB (parseL (tAt ps k)) n = u) := by unfold Hid; rw [HT.out, HPL.out, HU.out]
      cases u
      · go_wp2
        go_ret
        exact ⟨ret_bool (by rw [← HV.out]; exact (fits_no (by rw [H1.out]; exact hlt) HN.out).symm), hG.symm ▸ B4.out⟩
      · go_wp2
        go_roundw
        case rel =>
          refine ⟨k + 1, by omega, by go_num, fun j hj => ?_, B4.out⟩
          by_cases e : j = k
          · subst e; exact HN.out
          · exact hA.out j (by omega)
        case measure => simp [intOf]; omega
    · obtain rfl : k = len := by omega
      have HE : Hid (fitsB ps n = (pilesB ps && inB n 1 5)) := fits_all (fun i hi => hA.out i (by rw [← H1.out]; exact hi))
      cases hp : pilesB ps
      · have HP := Lib.hid hp; clear hp
        go_wp2_with fail
        refine (specPiles_as _ _ _ ps false _ (HI.out.below hBw) HS.out HP.out).mono ?_
        rintro e w3 ⟨rfl, hb3⟩
        have B3 := Lib.hid (hB.trans (hb3.mono (by have := hB.size; rw [hG] at this; exact this)))
        clear hb3
        go_wp2
        go_ret
        exact ⟨ret_bool (by rw [← HV.out, HE.out, HP.out]; rfl), hG.symm ▸ B3.out⟩
      · have HP := Lib.hid hp; clear hp
        go_wp2_with fail
        refine (specPiles_as _ _ _ ps true _ (HI.out.below hBw) HS.out HP.out).mono ?_
        rintro e w3 ⟨rfl, hb3⟩
        have B3 := Lib.hid (hB.trans (hb3.mono (by have := hB.size; rw [hG] at this; exact this)))
        clear hb3
        go_wp2_with fail
        refine (l6In_any _ _ _ _).mono ?_
        rintro e w4 ⟨rfl, rfl⟩
        go_wp2
        go_ret
        exact ⟨ret_bool (by rw [← HV.out, HE.out, HP.out]; rfl), hG.symm ▸ B3.out⟩

end Go.Proofs.Ytafnmongglhlaaa
