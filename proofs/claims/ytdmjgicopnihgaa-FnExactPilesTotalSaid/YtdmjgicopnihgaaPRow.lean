/-
  A slice of the exact statements' own piles that came in.
-/
import Derived.Test.YtdmjgicopnihgaaPLaw
import Derived.Deep.SlicePairs
namespace Go.Proofs.Ytdmjgicopnihgaa
open Go.RowKit Go.ChangeShapes Go.WideShapes Go.Deep

/-- A slice of piles that came in: it is nil, or it leads to a row of piles. -/
def IsPRow (w : World) (a : Option Addr) (len cap : Nat) (ps : List Pl) : Prop :=
  ps.length = len ∧ Held ps ∧ len ≤ maxLen ∧ ((a = none ∧ len = 0 ∧ cap = 0) ∨ ∃ x, a = some x ∧ len ≤ cap ∧ ∀ i, i < len → w.cell? (x.add (i * 2)) = some (.string (tAt ps i)) ∧ w.cell? (x.add (i * 2 + 1)) = some (.int .i64 (mAt ps i)))
theorem IsPRow.piles {w : World} {a : Option Addr} {len cap : Nat} {ps : List Pl} (h : IsPRow w a len cap ps) (hl : len ≤ 1048576) : IsPiles w a len cap ps := by
  obtain ⟨h1, _, _, h⟩ := h
  rcases h with ⟨rfl, rfl, rfl⟩ | ⟨⟨b, off, spot⟩, rfl, hc, h4⟩
  · exact ⟨h1, Nat.le_refl _, by omega, fun h => by omega⟩
  · refine ⟨h1, hc, by omega, fun hp => ?_⟩
    have h0 := (h4 0 hp).1
    have hs : spot = none := by simpa [Addr.add] using World.cell?_spot h0
    subst hs
    refine ⟨b, off, rfl, World.block_lt_of_cell? w _ h0, fun j hj => ?_⟩
    have := h4 j hj
    rw [add_spot, add_spot] at this
    exact this
def strAt (v : Value) : ByteArray := match v with | .string s => s | _ => ByteArray.empty
theorem pile_fields : Try.prog.underlying 70 = some (.struct #[(Try.prog.fieldsOf 70)[0]!, (Try.prog.fieldsOf 70)[1]!]) := by kernel_rfl
theorem open_prow {H : Type} {enc : TypeId × Value → H} {W : World} {base : Nat} {spare : Nat → Bool} {held : Bool} {fuel : Nat} {cs : List Value} {x : DataW H × List MemPlace} {a : Option Addr} {len cap : Nat} (hcs : cs = [.slice a len cap])
    (hf : DataW.trod enc Try.prog W base spare held fuel 42 cs = some x) : ∃ ps, IsPRow W a len cap ps := by
  rcases open_slice_pairs Try.underlying42 pile_fields (by kernel_rfl) (by kernel_rfl) (by kernel_rfl) (by kernel_rfl) (by kernel_rfl) hf with ⟨h0, _⟩ | ⟨ad, l, c, m, n, V0, V1, D0, D1, P0, P1, h0, _, hl, hm, hmm, _, hi⟩
  · rw [hcs] at h0
    injection h0 with h0 _
    injection h0 with e1 e2 e3
    subst e1; subst e2; subst e3
    exact ⟨[], rfl, fun i => by simp [tAt, maxLen], by unfold maxLen; omega, .inl ⟨rfl, rfl, rfl⟩⟩
  · rw [hcs] at h0
    injection h0 with h0 _
    injection h0 with e1 e2 e3
    subst e1; subst e2; subst e3
    have hlm : len ≤ m := by rw [hmm]; split <;> omega
    have ft0 : ((Try.prog.fieldsOf 70)[0]!).type = 9 := by kernel_rfl
    have ft1 : ((Try.prog.fieldsOf 70)[1]!).type = 3 := by kernel_rfl
    have hs : ∀ i, i < len → ∃ s : ByteArray, V0 i = .string s ∧ s.size ≤ maxLen := fun i hil => by
      have h2 := (hi i (by omega)).2.2.1
      rw [ft0] at h2
      obtain ⟨s, e, _, hsz⟩ := DataW.trod_string Try.underlying9 h2
      injection e with e _
      exact ⟨s, e, hsz⟩
    have hn : ∀ i, i < len → ∃ k : Int, V1 i = .int .i64 k := fun i hil => by
      have h2 := (hi i (by omega)).2.2.2
      rw [ft1] at h2
      obtain ⟨k, e, _, _⟩ := DataW.trod_int Try.underlying3 h2
      injection e with e _
      exact ⟨k, e⟩
    refine ⟨(List.range len).map fun i => (strAt (V0 i), intOf (V1 i)), by simp, fun i => ?_, by omega, .inr ⟨ad, rfl, hl, fun i hil => ?_⟩⟩
    · rcases Nat.lt_or_ge i len with hil | hil
      · obtain ⟨s, e, hsz⟩ := hs i hil
        have : tAt ((List.range len).map fun i => (strAt (V0 i), intOf (V1 i))) i = s := by simp [tAt, hil, e, strAt]
        rw [this]; exact hsz
      · have : tAt ((List.range len).map fun i => (strAt (V0 i), intOf (V1 i))) i = ByteArray.empty := by simp [tAt, hil]
        rw [this]; simp
    · obtain ⟨s, e, _⟩ := hs i hil
      obtain ⟨k, e'⟩ := hn i hil
      have t1 : tAt ((List.range len).map fun i => (strAt (V0 i), intOf (V1 i))) i = s := by simp [tAt, hil, e, strAt]
      have t2 : mAt ((List.range len).map fun i => (strAt (V0 i), intOf (V1 i))) i = k := by simp [mAt, hil, e', intOf]
      rw [t1, t2, ← e, ← e']
      exact ⟨(hi i (by omega)).1, (hi i (by omega)).2.1⟩

set_option maxHeartbeats 1000000 in
/-- **szPileS**, of a longer slice. -/
theorem szPileS_long (a : Option Addr) (len cap : Nat) (L : Int) (w : World) (hl : 1048576 < len) (hm : len ≤ maxLen) (hL : 0 ≤ L ∧ L ≤ 1048576) :
    Calls Try.prog 32 #[.slice a len cap, .int .i64 L] w fun e w' => e = .returned (.int .i64 (-1)) ∧ w = w' := by
  have hsz : (len : Int) ≤ 9223372036854775807 := by unfold maxLen at hm; omega
  have hw : IntKind.i64.wrap (L - (len : Int)) = L - (len : Int) := IntWalk.i64_in _ (by omega)
  have hd : decide (L - (len : Int) < 0) = true := decide_eq_true (by omega)
  go_enter Try.func32, Try.ntmps32
  go_wp2
  go_ret
  exact ⟨rfl, rfl⟩

end Go.Proofs.Ytdmjgicopnihgaa
