/-
  WHERE A LAW'S RUN BEGINS, at arguments that are piles and bools.
-/
import Derived.Test.YtgkakgibgfehaaaSh35
import Derived.Test.YtgkakgibgfehaaaLyE1
import Derived.Deep.SlicePairs
namespace Go.Proofs.Ytgkakgibgfehaaa.Sim
open Go.Conc Go.RowKit Go.ChangeShapes Go.WideShapes Go.Deep
set_option maxRecDepth 100000
theorem pile_fieldsT : Try.prog.underlying 84 = some (.struct #[(Try.prog.fieldsOf 84)[0]!, (Try.prog.fieldsOf 84)[1]!]) := by kernel_rfl
/-- A slice that came in, of which the cells are known. -/
theorem known_of {W : World} {base cap : Nat} {E : TypeId} {a : Option Addr} {vs : List Value} (hok : ∀ x, a = some x → W.has Try.prog .any base x E cap)
    (hrow : ∀ x, a = some x → ∀ i v, vs[i]? = some v → W.cell? (x.add i) = some v) (hpl : ∀ v ∈ vs, Plain v) : Known W a vs := by
  have hsp : ∀ x, a = some x → x.spot = none := fun x hx => (hok x hx).2.1
  refine ⟨hsp, fun x hx => ?_, hpl⟩
  obtain ⟨-, -, row, cells, h1, -⟩ := hok x hx
  unfold World.shape? at h1
  split at h1
  · rename_i c e fr h3
    refine ⟨c, e, fr, h3, fun i v hi => ?_⟩
    have h2 := hrow x hx i v hi
    obtain ⟨b, off, sp⟩ := x
    have hsp' : sp = none := hsp _ hx
    subst hsp'
    rw [add_spot] at h2
    have h1' : W.heap[b]? = some (.cells c e fr) := h3
    simp only [World.cell?, h1'] at h2
    exact h2
  · cases h1
theorem known_ints {W : World} {base len cap : Nat} {a : Option Addr} {zs : List Int} (hv : Value.okWide Try.prog W .any base 27 (.slice a len cap)) (hz : IsRow .i64 W a len cap zs) : Known W a (zs.map (Value.int .i64)) := by
  have hok : ∀ x, a = some x → W.has Try.prog .any base x 3 cap := by
    intro x hx
    subst hx
    simp only [Value.okWide, Try.underlying27, Cell.okWide, Cell.ok] at hv
    exact hv.2.2
  refine known_of hok (fun x hx i v hi => ?_) (fun v hv => ?_)
  · rcases hz with ⟨rfl, -⟩ | ⟨y, rfl, -, -, -, hc, -⟩
    · cases hx
    · cases hx
      have hlt : i < zs.length := by have := (List.getElem?_eq_some_iff.1 hi).1; simpa using this
      rw [hc i hlt, List.getD_eq_getElem?_getD, List.getElem?_eq_getElem hlt]
      rw [List.getElem?_map, List.getElem?_eq_getElem hlt] at hi
      exact hi
  · simp only [List.mem_map] at hv
    obtain ⟨z, -, rfl⟩ := hv
    exact .int _ _
theorem cellsP_get {ps : List Pl} {i : Nat} {v : Value} (h : (cellsP ps)[i]? = some v) : ∃ j, j < ps.length ∧ ((i = j * 2 ∧ v = .string (tAt ps j)) ∨ (i = j * 2 + 1 ∧ v = .int .i64 (mAt ps j))) := by
  have hl : i < ps.length * 2 := by rw [← cellsP_length]; exact (List.getElem?_eq_some_iff.1 h).1
  have hj : i / 2 < ps.length := by omega
  refine ⟨i / 2, hj, ?_⟩
  rcases Nat.mod_two_eq_zero_or_one i with e | e
  · have e2 : i = i / 2 * 2 := by omega
    rw [e2, cellsP_text ps _ hj] at h
    exact .inl ⟨e2, (Option.some.inj h).symm⟩
  · have e2 : i = i / 2 * 2 + 1 := by omega
    rw [e2, cellsP_many ps _ hj] at h
    exact .inr ⟨e2, (Option.some.inj h).symm⟩
theorem known_piles {W : World} {base len cap : Nat} {a : Option Addr} {ps : List Pl} (hv : Value.okWide Try.prog W .any base 49 (.slice a len cap)) (hz : IsPRow W a len cap ps) : Known W a (cellsP ps) := by
  have hok : ∀ x, a = some x → W.has Try.prog .any base x 84 cap := by
    intro x hx
    subst hx
    simp only [Value.okWide, Try.underlying49, Cell.okWide, Cell.ok] at hv
    exact hv.2.2
  obtain ⟨h1, -, -, hz⟩ := hz
  refine known_of hok (fun x hx i v hi => ?_) (fun v hv => ?_)
  · obtain ⟨j, hj, e⟩ := cellsP_get hi
    rcases hz with ⟨rfl, -⟩ | ⟨y, rfl, -, hc⟩
    · cases hx
    · cases hx
      have hc' := hc j (by omega)
      rcases e with ⟨rfl, rfl⟩ | ⟨rfl, rfl⟩
      · exact hc'.1
      · exact hc'.2
  · obtain ⟨i, hi⟩ := List.mem_iff_getElem?.1 hv
    obtain ⟨j, -, ⟨-, rfl⟩ | ⟨-, rfl⟩⟩ := cellsP_get hi
    · exact .string _
    · exact .int _ _
theorem lone_cell {W : World} {As : List (Option Addr × List Value)} {i : Nat} {a : Option Addr} {vs : List Value} (hi : As[i]? = some (a, vs)) (t : Tape) (d : Nat) (k : Nat) : (on (loneW W As) t d).cell? ⟨W.heap.size + i, k, none⟩ = vs[k]? := by
  have h := loneW_at (W := W) hi
  have h' : (on (loneW W As) t d).heap[W.heap.size + i]? = some (blkL (a, vs)) := h
  simp only [World.cell?, h', blkL]
  simp
theorem lone_ints {W : World} {As : List (Option Addr × List Value)} {i len cap : Nat} {a : Option Addr} {zs : List Int} (hz : IsRow .i64 W a len cap zs) (hi : As[i]? = some (a, zs.map (Value.int .i64))) (t : Tape) (d : Nat) : IsRow .i64 (on (loneW W As) t d) (loneA W i a) len cap zs := by
  rcases hz with ⟨rfl, h1, h2, h3⟩ | ⟨y, rfl, h1, h2, h3, -, h5⟩
  · exact .inl ⟨rfl, h1, h2, h3⟩
  · refine .inr ⟨⟨W.heap.size + i, 0, none⟩, rfl, h1, h2, h3, fun j hj => ?_, h5⟩
    rw [add_spot, Nat.zero_add, lone_cell hi, List.getElem?_map, List.getD_eq_getElem?_getD, List.getElem?_eq_getElem hj]
    rfl
theorem lone_piles {W : World} {As : List (Option Addr × List Value)} {i len cap : Nat} {a : Option Addr} {ps : List Pl} (hz : IsPRow W a len cap ps) (hi : As[i]? = some (a, cellsP ps)) (t : Tape) (d : Nat) : IsPRow (on (loneW W As) t d) (loneA W i a) len cap ps := by
  obtain ⟨h1, h2, h3, hz⟩ := hz
  refine ⟨h1, h2, h3, ?_⟩
  rcases hz with ⟨rfl, e1, e2⟩ | ⟨y, rfl, hc, -⟩
  · exact .inl ⟨rfl, e1, e2⟩
  · refine .inr ⟨⟨W.heap.size + i, 0, none⟩, rfl, hc, fun j hj => ?_⟩
    rw [add_spot, add_spot, Nat.zero_add, Nat.zero_add, lone_cell hi, lone_cell hi]
    exact ⟨cellsP_text ps j (by omega), cellsP_many ps j (by omega)⟩
def strT (v : Value) : ByteArray := match v with | .string s => s | _ => ByteArray.empty
theorem openT_prow {H : Type} {enc : TypeId × Value → H} {W : World} {base : Nat} {spare : Nat → Bool} {held : Bool} {fuel : Nat} {cs : List Value} {x : DataW H × List MemPlace} {a : Option Addr} {len cap : Nat} (hcs : cs = [.slice a len cap])
    (hf : DataW.trod enc Try.prog W base spare held fuel 49 cs = some x) : ∃ ps, IsPRow W a len cap ps := by
  rcases open_slice_pairs Try.underlying49 pile_fieldsT (by kernel_rfl) (by kernel_rfl) (by kernel_rfl) (by kernel_rfl) (by kernel_rfl) hf with ⟨h0, _⟩ | ⟨ad, l, c, m, n, V0, V1, D0, D1, P0, P1, h0, _, hl, hm, hmm, _, hi⟩
  · rw [hcs] at h0
    injection h0 with h0 _
    injection h0 with e1 e2 e3
    subst e1; subst e2; subst e3
    exact ⟨[], rfl, fun i => by simp [tAt, maxLen], by unfold maxLen; omega, .inl ⟨rfl, rfl, rfl⟩⟩
  · rw [hcs] at h0
    injection h0 with h0 _
    injection h0 with e1 e2 e3
    subst e1; subst e2; subst e3
    have hlm : len ≤ m := by rw [hmm]; split <;> omega
    have ft0 : ((Try.prog.fieldsOf 84)[0]!).type = 9 := by kernel_rfl
    have ft1 : ((Try.prog.fieldsOf 84)[1]!).type = 3 := by kernel_rfl
    have hs : ∀ i, i < len → ∃ s : ByteArray, V0 i = .string s ∧ s.size ≤ maxLen := fun i hil => by
      have h2 := (hi i (by omega)).2.2.1
      rw [ft0] at h2
      obtain ⟨s, e, _, hsz⟩ := DataW.trod_string Try.underlying9 h2
      injection e with e _
      exact ⟨s, e, hsz⟩
    have hn : ∀ i, i < len → ∃ k : Int, V1 i = .int .i64 k := fun i hil => by
      have h2 := (hi i (by omega)).2.2.2
      rw [ft1] at h2
      obtain ⟨k, e, _, _⟩ := DataW.trod_int Try.underlying3 h2
      injection e with e _
      exact ⟨k, e⟩
    refine ⟨(List.range len).map fun i => (strT (V0 i), intOf (V1 i)), by simp, fun i => ?_, by omega, .inr ⟨ad, rfl, hl, fun i hil => ?_⟩⟩
    · rcases Nat.lt_or_ge i len with hil | hil
      · obtain ⟨s, e, hsz⟩ := hs i hil
        have : tAt ((List.range len).map fun i => (strT (V0 i), intOf (V1 i))) i = s := by simp [tAt, hil, e, strT]
        rw [this]; exact hsz
      · have : tAt ((List.range len).map fun i => (strT (V0 i), intOf (V1 i))) i = ByteArray.empty := by simp [tAt, hil]
        rw [this]; simp
    · obtain ⟨s, e, _⟩ := hs i hil
      obtain ⟨k, e'⟩ := hn i hil
      have t1 : tAt ((List.range len).map fun i => (strT (V0 i), intOf (V1 i))) i = s := by simp [tAt, hil, e, strT]
      have t2 : mAt ((List.range len).map fun i => (strT (V0 i), intOf (V1 i))) i = k := by simp [mAt, hil, e', intOf]
      rw [t1, t2, ← e, ← e']
      exact ⟨(hi i (by omega)).1, (hi i (by omega)).2.1⟩
end Go.Proofs.Ytgkakgibgfehaaa.Sim
