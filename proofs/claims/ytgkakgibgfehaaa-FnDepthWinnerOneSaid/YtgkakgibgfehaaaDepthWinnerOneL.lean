/-
  laws.FnDepthWinnerOne returns true for every code. No condition.
-/
import Derived.Test.YtgkakgibgfehaaaDepthWinnerOneLW
import Derived.Test.YtgkakgibgfehaaaSh35
namespace Go.Proofs.Ytgkakgibgfehaaa.fnDepthWinnerOne
open Go.ChangeShapes Go.WideShapes Go.ChangeAt Go.RowKit
open Go.Proofs.Ytgkakgibgfehaaa.Sim (leaving_shaped law_run known_bytes lone_bytes lone_arg loneA loneW glob_big ownT laidOutT)
set_option linter.unusedVariables false

set_option maxRecDepth 100000 in
theorem lifted (os : Os) (started : os.Started) (H : Type) (enc : TypeId × Value → H) :
    ReturnsInLeavingWide {} Try.checked os 9 .any (Rows.fnDepthWinnerOneSpec.pre6 enc Try.prog Try.f9 Rows.fnDepthWinnerOneRow.domain false) (Rows.fnDepthWinnerOneSpec.post enc Try.prog Try.f9 false true false false) := by
  refine leaving_shaped (C := Try.checked) ownT started Try.func9
    (ChangeSpec.witness6 (enc := enc) (C := Try.checked) false ⟨#[], #[.slice none 0 0], []⟩ 8 (by kernel_rfl) (by kernel_rfl) (by kernel_rfl) (by kernel_rfl)) ?_
  intro W base args ds gs before hsh0 hval0 hW hcnd
  have hsh : W.ShapedOpen Try.prog := hsh0
  have hval : ∀ (j : Nat) t v, Try.f9.params[j]? = some t → args[j]? = some v → Value.okWide Try.prog W .any base t v := hval0
  have hW' := hW
  obtain ⟨p, q, hA0, hV, rfl, hfz, hnd⟩ := hW
  have hA : DataW.TrodAll enc Try.prog W 0 (fun _ => true) true Try.f9.params.toList args.toList ds p := hA0
  rw [Try.params9] at hA hval
  obtain ⟨v0, vs0, d0, ds0, p0, q0, hargs, rfl, rfl, h0, r0⟩ := trodAll_cons hA
  obtain ⟨rfl, rfl, rfl⟩ := trodAll_nil r0
  obtain rfl : args = #[v0] := by cases args; simp_all
  obtain ⟨rfl, rfl⟩ := trodVars_none hV
  obtain ⟨a0, len0, cap0, rfl⟩ := okWide_slice Try.underlying22 (hval 0 22 v0 rfl rfl)
  have k0 := h0
  have lt0 : ∀ x ∈ p0, x.block < W.heap.size := by obtain ⟨m, hm⟩ := k0; exact DataW.trod_lt m _ _ _ hm
  obtain ⟨z0, w0⟩ : ∃ zs, IsRow .u8 W a0 len0 cap0 zs := by
    obtain ⟨fuel, hf⟩ := h0
    rcases open_ints Try.underlying22 Try.underlying5 (by kernel_rfl) hf with ⟨hcs, _⟩ | ⟨x, l, c, zs, hcs, _, hl, hm, hz, _, hcell, hwz⟩
    · simp [Value.cells] at hcs
      obtain ⟨rfl, rfl, rfl⟩ := hcs
      exact ⟨[], .inl ⟨rfl, rfl, rfl, rfl⟩⟩
    · simp [Value.cells] at hcs
      obtain ⟨rfl, rfl, rfl⟩ := hcs
      exact ⟨zs, .inr ⟨_, rfl, hl, hm, by simpa using hz, hcell, hwz⟩⟩
  have K0 := known_bytes hsh (hval 0 22 _ rfl rfl) w0
  clear hA0 hval0
  have hK : ∀ p ∈ [(a0, z0.map (Value.int .u8))], Sim.Known W p.1 p.2 := by
    intro p hp
    simp only [List.mem_cons, List.not_mem_nil, or_false] at hp
    rcases hp with rfl
    exact K0
  obtain ⟨M, last, o, w', t', r1, r2, r3, r4⟩ := law_run (W := W) (As := [(a0, z0.map (Value.int .u8))]) hK (glob_big hsh) (args := #[.slice (loneA W 0 a0) len0 cap0]) (args' := #[.slice a0 len0 cap0]) ⟨rfl, fun i v v' hi hi' => by
      match i, hi, hi' with
      | 0, hi, hi' => simp at hi hi'; subst hi; subst hi'; exact lone_arg hK (i := 0) rfl _ _⟩
    (f := 9) (by kernel_rfl) (by kernel_rfl) (by kernel_rfl) fun t d => walk _ _ _ z0 _ (lone_bytes w0 (i := 0) rfl t d)
  refine ⟨M, last, o, w', t', r1, r2, r3, r4.mono fun v hv => ?_⟩
  obtain ⟨rfl, bel⟩ := hv
  exact ⟨_, _, _, [], _, [], hW', trodAll_mk1 (shut_bool Try.underlying4 _), (trodAll_cons_mk (Below.trod laidOutT (by kernel_rfl) (of_decide_eq_true (by kernel_rfl)) k0 bel lt0) trodAll_mk0), rfl, bel.frame _, fun h => by cases h⟩

theorem over : Rows.fnDepthWinnerOneRow.holds Try.pinned (OpenSpec.ofChange Rows.fnDepthWinnerOneSpec) :=
  OpenClaim.holds_of_wide_leaving 9 Try.f9 rfl rfl rfl rfl rfl rfl rfl ⟨rfl, rfl, rfl, rfl, rfl⟩ rfl rfl rfl rfl rfl (by kernel_rfl) Try.func9 (by kernel_rfl)
    (of_decide_eq_true (by kernel_rfl)) (by unfold Func.isWrapper; first | (rw [if_pos (by decide +kernel)]; kernel_rfl) | (rw [if_neg (by decide +kernel)]; exact ⟨rfl, rfl⟩))
    (fun os started H enc _ => lifted os started H enc)

/-- The given statement. -/
theorem proved : Rows.FnDepthWinnerOneSaid := over
#print axioms proved
end Go.Proofs.Ytgkakgibgfehaaa.fnDepthWinnerOne
