/-
  laws.FnExactPluralityMargin returns true for every list of piles and all lots: impl.PluralityMargin answers as the model does, and writes into no argument. No condition but what the statement says itself.
-/
import Derived.Test.YtgkakgibgfehaaaExPluralityMarginW
import Derived.Test.YtgkakgibgfehaaaSh35
import Derived.Test.YtgkakgibgfehaaaRunH
namespace Go.Proofs.Ytgkakgibgfehaaa.fnExactPluralityMargin
open Go.ChangeShapes Go.WideShapes Go.ChangeAt Go.RowKit
open Go.Proofs.Ytgkakgibgfehaaa.Sim (leaving_shaped law_run known_ints lone_ints known_piles lone_piles openT_prow lone_arg loneA loneW glob_big ownT laidOutT)
set_option linter.unusedVariables false

set_option maxRecDepth 100000 in
theorem lifted (os : Os) (started : os.Started) (H : Type) (enc : TypeId × Value → H) :
    ReturnsInLeavingWide {} Try.checked os 13 .any (Rows.fnExactPluralityMarginSpec.pre6 enc Try.prog Try.f13 Rows.fnExactPluralityMarginRow.domain false) (Rows.fnExactPluralityMarginSpec.post enc Try.prog Try.f13 false true false false) := by
  refine leaving_shaped (C := Try.checked) ownT started Try.func13
    (ChangeSpec.witness6 (enc := enc) (C := Try.checked) false ⟨#[], #[.slice none 0 0, .slice none 0 0], []⟩ 8 (by kernel_rfl) (by kernel_rfl) (by kernel_rfl) (by kernel_rfl)) ?_
  intro W base args ds gs before hsh0 hval0 hW hcnd
  have hsh : W.ShapedOpen Try.prog := hsh0
  have hval : ∀ (j : Nat) t v, Try.f13.params[j]? = some t → args[j]? = some v → Value.okWide Try.prog W .any base t v := hval0
  have hW' := hW
  obtain ⟨p, q, hA0, hV, rfl, hfz, hnd⟩ := hW
  have hA : DataW.TrodAll enc Try.prog W 0 (fun _ => true) true Try.f13.params.toList args.toList ds p := hA0
  rw [Try.params13] at hA hval
  obtain ⟨v0, vs0, d0, ds0, p0, q0, hargs, rfl, rfl, h0, r0⟩ := trodAll_cons hA
  obtain ⟨v1, vs1, d1, ds1, p1, q1, rfl, rfl, rfl, h1, r1⟩ := trodAll_cons r0
  obtain ⟨rfl, rfl, rfl⟩ := trodAll_nil r1
  obtain rfl : args = #[v0, v1] := by cases args; simp_all
  obtain ⟨rfl, rfl⟩ := trodVars_none hV
  obtain ⟨a0, len0, cap0, rfl⟩ := okWide_slice Try.underlying49 (hval 0 49 v0 rfl rfl)
  have k0 := h0
  have lt0 : ∀ x ∈ p0, x.block < W.heap.size := by obtain ⟨m, hm⟩ := k0; exact DataW.trod_lt m _ _ _ hm
  obtain ⟨z0, w0⟩ : ∃ ps, IsPRow W a0 len0 cap0 ps := by
    obtain ⟨fuel, hf⟩ := h0
    exact openT_prow (by simp [Value.cells]) hf
  have K0 := known_piles (hval 0 49 _ rfl rfl) w0
  obtain ⟨a1, len1, cap1, rfl⟩ := okWide_slice Try.underlying27 (hval 1 27 v1 rfl rfl)
  have k1 := h1
  have lt1 : ∀ x ∈ p1, x.block < W.heap.size := by obtain ⟨m, hm⟩ := k1; exact DataW.trod_lt m _ _ _ hm
  obtain ⟨z1, w1⟩ : ∃ zs, IsRow .i64 W a1 len1 cap1 zs := by
    obtain ⟨fuel, hf⟩ := h1
    rcases open_ints Try.underlying27 Try.underlying3 (by kernel_rfl) hf with ⟨hcs, _⟩ | ⟨x, l, c, zs, hcs, _, hl, hm, hz, _, hcell, hwz⟩
    · simp [Value.cells] at hcs
      obtain ⟨rfl, rfl, rfl⟩ := hcs
      exact ⟨[], .inl ⟨rfl, rfl, rfl, rfl⟩⟩
    · simp [Value.cells] at hcs
      obtain ⟨rfl, rfl, rfl⟩ := hcs
      exact ⟨zs, .inr ⟨_, rfl, hl, hm, by simpa using hz, hcell, hwz⟩⟩
  have K1 := known_ints (hval 1 27 _ rfl rfl) w1
  clear hA0 hval0
  have hK : ∀ p ∈ [(a0, cellsP z0), (a1, z1.map (Value.int .i64))], Sim.Known W p.1 p.2 := by
    intro p hp
    simp only [List.mem_cons, List.not_mem_nil, or_false] at hp
    rcases hp with rfl | rfl
    · exact K0
    · exact K1
  obtain ⟨M, last, o, w', t', r1, r2, r3, r4⟩ := law_run (W := W) (As := [(a0, cellsP z0), (a1, z1.map (Value.int .i64))]) hK (glob_big hsh) (args := #[.slice (loneA W 0 a0) len0 cap0, .slice (loneA W 1 a1) len1 cap1]) (args' := #[.slice a0 len0 cap0, .slice a1 len1 cap1]) ⟨rfl, fun i v v' hi hi' => by
      match i, hi, hi' with
      | 0, hi, hi' => simp at hi hi'; subst hi; subst hi'; exact lone_arg hK (i := 0) rfl _ _
      | 1, hi, hi' => simp at hi hi'; subst hi; subst hi'; exact lone_arg hK (i := 1) rfl _ _⟩
    (f := 13) (by kernel_rfl) (by kernel_rfl) (by kernel_rfl) fun t d => walk _ _ _ z0 _ _ _ z1 _ (lone_piles w0 (i := 0) rfl t d) (lone_ints w1 (i := 1) rfl t d)
  refine ⟨M, last, o, w', t', r1, r2, r3, r4.mono fun v hv => ?_⟩
  obtain ⟨rfl, bel⟩ := hv
  exact ⟨_, _, _, [], _, [], hW', trodAll_mk1 (shut_bool Try.underlying4 _), (trodAll_cons_mk (Below.trod laidOutT (by kernel_rfl) (of_decide_eq_true (by kernel_rfl)) k0 bel lt0) (trodAll_cons_mk (Below.trod laidOutT (by kernel_rfl) (of_decide_eq_true (by kernel_rfl)) k1 bel lt1) trodAll_mk0)), rfl, bel.frame _, fun h => by cases h⟩

theorem over : Rows.fnExactPluralityMarginRow.holds Try.pinned (OpenSpec.ofChange Rows.fnExactPluralityMarginSpec) :=
  OpenClaim.holds_of_wide_leaving 13 Try.f13 rfl rfl rfl rfl rfl rfl rfl ⟨rfl, rfl, rfl, rfl, rfl⟩ rfl rfl rfl rfl rfl (by kernel_rfl) Try.func13 (by kernel_rfl)
    (of_decide_eq_true (by kernel_rfl)) (by unfold Func.isWrapper; first | (rw [if_pos (by decide +kernel)]; kernel_rfl) | (rw [if_neg (by decide +kernel)]; exact ⟨rfl, rfl⟩))
    (fun os started H enc _ => lifted os started H enc)

/-- The given statement. -/
theorem proved : Rows.FnExactPluralityMarginSaid := over
#print axioms proved
end Go.Proofs.Ytgkakgibgfehaaa.fnExactPluralityMargin
