/-
  Facts of the program that the statement of one who leaves needs, and counts when one more leaves.
-/
import Derived.Test.YtgkakgibgfehaaaSh32
import Derived.Test.YtgkakgibgfehaaaSh8
import Derived.KernelRfl
namespace Go.Proofs
set_option maxRecDepth 100000
noncomputable abbrev Tq.f4 : Func := Try.f4
@[simp] theorem Tq.call3 : ∀ (args : Array Go.Value) (w : Go.World), Go.Sem.run Tq.prog (Go.callFunc 3 args) w = Go.Result.ok (Go.Next.enter 3 args) w := by intros; kernel_rfl
@[simp] theorem Tq.runUnderlying3 : ∀ (w : Go.World), Go.Sem.run Tq.prog (Go.underlying 3) w = Go.Result.ok (Go.TypeDesc.int Go.IntKind.i64) w := by intros; kernel_rfl
@[simp] theorem Tq.type3 : Tq.prog.types[3]? = Option.some Go.Proofs.Try.t3 := by intros; kernel_rfl
@[simp] theorem Tq.typeInfo3 : ∀ (w : Go.World), Go.Sem.run Tq.prog (Go.typeInfo 3) w = Go.Result.ok Go.Proofs.Try.t3 w := by intros; kernel_rfl
@[simp] theorem Tq.call4 : ∀ (args : Array Go.Value) (w : Go.World), Go.Sem.run Tq.prog (Go.callFunc 4 args) w = Go.Result.ok (Go.Next.enter 4 args) w := by intros; kernel_rfl
@[simp] theorem Tq.func4 : Tq.prog.funcs[4]? = Option.some Tq.f4 := by intros; kernel_rfl
@[simp] theorem Tq.nfree4 : Tq.f4.nfree = 0 := by intros; kernel_rfl
@[simp] theorem Tq.ntmps4 : Tq.f4.ntmps = 120 := by intros; kernel_rfl
@[simp] theorem Tq.params4 : Tq.f4.params = #[22, 22] := by intros; kernel_rfl
@[simp] theorem Tq.results4 : Tq.f4.results = #[Go.ResultVar.tmp 4] := by intros; kernel_rfl
@[simp] theorem Tq.runUnderlying4 : ∀ (w : Go.World), Go.Sem.run Tq.prog (Go.underlying 4) w = Go.Result.ok Go.TypeDesc.bool w := by intros; kernel_rfl
@[simp] theorem Tq.type4 : Tq.prog.types[4]? = Option.some Go.Proofs.Try.t4 := by intros; kernel_rfl
@[simp] theorem Tq.typeInfo4 : ∀ (w : Go.World), Go.Sem.run Tq.prog (Go.typeInfo 4) w = Go.Result.ok Go.Proofs.Try.t4 w := by intros; kernel_rfl
@[simp] theorem Tq.call9 : ∀ (args : Array Go.Value) (w : Go.World), Go.Sem.run Tq.prog (Go.callFunc 9 args) w = Go.Result.ok (Go.Next.enter 9 args) w := by intros; kernel_rfl
@[simp] theorem Tq.runUnderlying9 : ∀ (w : Go.World), Go.Sem.run Tq.prog (Go.underlying 9) w = Go.Result.ok Go.TypeDesc.string w := by intros; kernel_rfl
@[simp] theorem Tq.type9 : Tq.prog.types[9]? = Option.some Go.Proofs.Try.t9 := by intros; kernel_rfl
@[simp] theorem Tq.typeInfo9 : ∀ (w : Go.World), Go.Sem.run Tq.prog (Go.typeInfo 9) w = Go.Result.ok Go.Proofs.Try.t9 w := by intros; kernel_rfl
@[simp] theorem Tq.call22 : ∀ (args : Array Go.Value) (w : Go.World), Go.Sem.run Tq.prog (Go.callFunc 22 args) w = Go.Result.ok (Go.Next.enter 22 args) w := by intros; kernel_rfl
@[simp] theorem Tq.runUnderlying22 : ∀ (w : Go.World), Go.Sem.run Tq.prog (Go.underlying 22) w = Go.Result.ok (Go.TypeDesc.slice 5) w := by intros; kernel_rfl
@[simp] theorem Tq.type22 : Tq.prog.types[22]? = Option.some Go.Proofs.Try.t22 := by intros; kernel_rfl
@[simp] theorem Tq.typeInfo22 : ∀ (w : Go.World), Go.Sem.run Tq.prog (Go.typeInfo 22) w = Go.Result.ok Go.Proofs.Try.t22 w := by intros; kernel_rfl
@[simp] theorem Tq.zeroValue22 : ∀ (w : Go.World), Go.Sem.run Tq.prog (Go.zeroValue 22) w = Go.Result.ok (Go.Value.slice Option.none 0 0) w := by intros; kernel_rfl
@[simp] theorem Tq.call23 : ∀ (args : Array Go.Value) (w : Go.World), Go.Sem.run Tq.prog (Go.callFunc 23 args) w = Go.Result.ok (Go.Next.enter 23 args) w := by intros; kernel_rfl
@[simp] theorem Tq.type23 : Tq.prog.types[23]? = Option.some Go.Proofs.Try.t23 := by intros; kernel_rfl
@[simp] theorem Tq.typeInfo23 : ∀ (w : Go.World), Go.Sem.run Tq.prog (Go.typeInfo 23) w = Go.Result.ok Go.Proofs.Try.t23 w := by intros; kernel_rfl
@[simp] theorem Tq.call24 : ∀ (args : Array Go.Value) (w : Go.World), Go.Sem.run Tq.prog (Go.callFunc 24 args) w = Go.Result.ok (Go.Next.enter 24 args) w := by intros; kernel_rfl
@[simp] theorem Tq.type24 : Tq.prog.types[24]? = Option.some Go.Proofs.Try.t24 := by intros; kernel_rfl
@[simp] theorem Tq.typeInfo24 : ∀ (w : Go.World), Go.Sem.run Tq.prog (Go.typeInfo 24) w = Go.Result.ok Go.Proofs.Try.t24 w := by intros; kernel_rfl
@[simp] theorem Tq.zeroValue24 : ∀ (w : Go.World), Go.Sem.run Tq.prog (Go.zeroValue 24) w = Go.Result.ok (Go.Value.slice Option.none 0 0) w := by intros; kernel_rfl
@[simp] theorem Tq.call25 : ∀ (args : Array Go.Value) (w : Go.World), Go.Sem.run Tq.prog (Go.callFunc 25 args) w = Go.Result.ok (Go.Next.enter 25 args) w := by intros; kernel_rfl
@[simp] theorem Tq.isAgg25 : ∀ (w : Go.World), Go.Sem.run Tq.prog (Go.isAgg 25) w = Go.Result.ok Bool.false w := by intros; kernel_rfl
@[simp] theorem Tq.runUnderlying25 : ∀ (w : Go.World), Go.Sem.run Tq.prog (Go.underlying 25) w = Go.Result.ok (Go.TypeDesc.tuple #[23, 24]) w := by intros; kernel_rfl
@[simp] theorem Tq.sizeOf25 : ∀ (w : Go.World), Go.Sem.run Tq.prog (Go.sizeOf 25) w = Go.Result.ok 1 w := by intros; kernel_rfl
@[simp] theorem Tq.type25 : Tq.prog.types[25]? = Option.some Go.Proofs.Try.t25 := by intros; kernel_rfl
@[simp] theorem Tq.typeInfo25 : ∀ (w : Go.World), Go.Sem.run Tq.prog (Go.typeInfo 25) w = Go.Result.ok Go.Proofs.Try.t25 w := by intros; kernel_rfl
@[simp] theorem Tq.underlying25 : Tq.prog.underlying 25 = Option.some (Go.TypeDesc.tuple #[23, 24]) := by intros; kernel_rfl
@[simp] theorem Tq.zeroValue25 : ∀ (w : Go.World), Go.Sem.run Tq.prog (Go.zeroValue 25) w = Go.Result.ok (Go.Value.tuple #[Go.Value.slice Option.none 0 0, Go.Value.slice Option.none 0 0]) w := by intros; kernel_rfl
@[simp] theorem Tq.call27 : ∀ (args : Array Go.Value) (w : Go.World), Go.Sem.run Tq.prog (Go.callFunc 27 args) w = Go.Result.ok (Go.Next.enter 27 args) w := by intros; kernel_rfl
@[simp] theorem Tq.type27 : Tq.prog.types[27]? = Option.some Go.Proofs.Try.t27 := by intros; kernel_rfl
@[simp] theorem Tq.typeInfo27 : ∀ (w : Go.World), Go.Sem.run Tq.prog (Go.typeInfo 27) w = Go.Result.ok Go.Proofs.Try.t27 w := by intros; kernel_rfl
@[simp] theorem Tq.zeroValue27 : ∀ (w : Go.World), Go.Sem.run Tq.prog (Go.zeroValue 27) w = Go.Result.ok (Go.Value.slice Option.none 0 0) w := by intros; kernel_rfl
@[simp] theorem Tq.call28 : ∀ (args : Array Go.Value) (w : Go.World), Go.Sem.run Tq.prog (Go.callFunc 28 args) w = Go.Result.ok (Go.Next.enter 28 args) w := by intros; kernel_rfl
@[simp] theorem Tq.isAgg28 : ∀ (w : Go.World), Go.Sem.run Tq.prog (Go.isAgg 28) w = Go.Result.ok Bool.false w := by intros; kernel_rfl
@[simp] theorem Tq.runUnderlying28 : ∀ (w : Go.World), Go.Sem.run Tq.prog (Go.underlying 28) w = Go.Result.ok (Go.TypeDesc.tuple #[27, 4]) w := by intros; kernel_rfl
@[simp] theorem Tq.sizeOf28 : ∀ (w : Go.World), Go.Sem.run Tq.prog (Go.sizeOf 28) w = Go.Result.ok 1 w := by intros; kernel_rfl
@[simp] theorem Tq.type28 : Tq.prog.types[28]? = Option.some Go.Proofs.Try.t28 := by intros; kernel_rfl
@[simp] theorem Tq.typeInfo28 : ∀ (w : Go.World), Go.Sem.run Tq.prog (Go.typeInfo 28) w = Go.Result.ok Go.Proofs.Try.t28 w := by intros; kernel_rfl
@[simp] theorem Tq.underlying28 : Tq.prog.underlying 28 = Option.some (Go.TypeDesc.tuple #[27, 4]) := by intros; kernel_rfl
@[simp] theorem Tq.zeroValue28 : ∀ (w : Go.World), Go.Sem.run Tq.prog (Go.zeroValue 28) w = Go.Result.ok (Go.Value.tuple #[Go.Value.slice Option.none 0 0, Go.Value.bool Bool.false]) w := by intros; kernel_rfl
@[simp] theorem Tq.type48 : Tq.prog.types[48]? = Option.some Go.Proofs.Try.t48 := by intros; kernel_rfl
@[simp] theorem Tq.typeInfo48 : ∀ (w : Go.World), Go.Sem.run Tq.prog (Go.typeInfo 48) w = Go.Result.ok Go.Proofs.Try.t48 w := by intros; kernel_rfl
end Go.Proofs
namespace Go.Proofs.Ytgkakgibgfehaaa
theorem set_at (L : List Bool) (k i : Nat) (h : k < L.length) : (L.set k true)[i]?.getD false = if i = k then true else L[i]?.getD false := by
  rw [List.getElem?_set]
  by_cases e : k = i
  · subst e; simp [h]
  · rw [if_neg e, if_neg (fun h => e h.symm)]
/-- Who stays is still the first one when another one leaves. -/
theorem firstL_set {zs : List Int} {L : List Bool} {k : Nat} (hk : k < L.length) (hz : ∀ z ∈ zs, 0 ≤ z) (h : firstL zs L ≠ (k : Int)) : firstL zs (L.set k true) = firstL zs L := by
  induction zs with
  | nil => rfl
  | cons z t ih =>
    have hz0 := hz z (by simp)
    unfold firstL at h ⊢
    by_cases h1 : L[z.toNat]?.getD false = true
    · rw [if_pos h1] at h ⊢
      rw [if_pos (by rw [set_at _ _ _ hk]; split <;> simp [h1])]
      exact ih (fun u hu => hz u (by simp [hu])) h
    · rw [if_neg h1] at h ⊢
      rw [if_neg (by rw [set_at _ _ _ hk, if_neg (by omega)]; exact h1)]
/-- **Who stays loses nothing.** -/
theorem counts_more {ps : List Pl} {L : List Bool} {k i : Nat} (hk : k < L.length) (hi : i < L.length) (hki : i ≠ k) (hp : ∀ p ∈ ps, 1 ≤ p.2) : (countsL ps L)[i]?.getD 0 ≤ (countsL ps (L.set k true))[i]?.getD 0 := by
  rw [countsL_at _ _ hi, countsL_at _ _ (by rw [List.length_set]; exact hi)]
  refine wsum_le (fun p _ => ?_) hp
  unfold oneF
  by_cases e : firstL (parseL p.1) L = (i : Int)
  · have e2 := firstL_set hk (parse_pos p.1) (show firstL (parseL p.1) L ≠ (k : Int) by omega)
    rw [if_pos e, if_pos (by rw [e2, e])]
    exact Int.le_refl _
  · rw [if_neg e]; split <;> omega
theorem counts_more_sum {ps : List Pl} {L : List Bool} {k : Nat} (hk : k < L.length) (hp : ∀ p ∈ ps, 1 ≤ p.2) : totI (countsL ps (L.set k true)) ≤ totI (countsL ps L) := by
  rw [counts_sum, counts_sum]
  refine wsum_le (fun p _ => ?_) hp
  unfold someF
  by_cases e : firstL (parseL p.1) L = (k : Int)
  · rw [if_pos (show 0 ≤ firstL (parseL p.1) L ∧ firstL (parseL p.1) L < (L.length : Int) by omega)]
    split <;> omega
  · rw [firstL_set hk (parse_pos p.1) e, List.length_set]
    exact Int.le_refl _
end Go.Proofs.Ytgkakgibgfehaaa
