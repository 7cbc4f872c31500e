/-
  Facts of the program that the statement of parts needs; parts of piles that fit.
-/
import Derived.Test.YtgkakgibgfehaaaSh7
import Derived.Test.YtgkakgibgfehaaaSh22
import Derived.KernelRfl
namespace Go.Proofs
set_option maxRecDepth 100000
noncomputable abbrev Tq.f5 : Func := Try.f5
@[simp] theorem Tq.runUnderlying3 : ∀ (w : Go.World), Go.Sem.run Tq.prog (Go.underlying 3) w = Go.Result.ok (Go.TypeDesc.int Go.IntKind.i64) w := by intros; kernel_rfl
@[simp] theorem Tq.type3 : Tq.prog.types[3]? = Option.some Go.Proofs.Try.t3 := by intros; kernel_rfl
@[simp] theorem Tq.typeInfo3 : ∀ (w : Go.World), Go.Sem.run Tq.prog (Go.typeInfo 3) w = Go.Result.ok Go.Proofs.Try.t3 w := by intros; kernel_rfl
@[simp] theorem Tq.runUnderlying4 : ∀ (w : Go.World), Go.Sem.run Tq.prog (Go.underlying 4) w = Go.Result.ok Go.TypeDesc.bool w := by intros; kernel_rfl
@[simp] theorem Tq.type4 : Tq.prog.types[4]? = Option.some Go.Proofs.Try.t4 := by intros; kernel_rfl
@[simp] theorem Tq.typeInfo4 : ∀ (w : Go.World), Go.Sem.run Tq.prog (Go.typeInfo 4) w = Go.Result.ok Go.Proofs.Try.t4 w := by intros; kernel_rfl
@[simp] theorem Tq.call5 : ∀ (args : Array Go.Value) (w : Go.World), Go.Sem.run Tq.prog (Go.callFunc 5 args) w = Go.Result.ok (Go.Next.enter 5 args) w := by intros; kernel_rfl
@[simp] theorem Tq.func5 : Tq.prog.funcs[5]? = Option.some Tq.f5 := by intros; kernel_rfl
@[simp] theorem Tq.nfree5 : Tq.f5.nfree = 0 := by intros; kernel_rfl
@[simp] theorem Tq.ntmps5 : Tq.f5.ntmps = 135 := by intros; kernel_rfl
@[simp] theorem Tq.params5 : Tq.f5.params = #[22, 22] := by intros; kernel_rfl
@[simp] theorem Tq.results5 : Tq.f5.results = #[Go.ResultVar.tmp 4] := by intros; kernel_rfl
@[simp] theorem Tq.runUnderlying5 : ∀ (w : Go.World), Go.Sem.run Tq.prog (Go.underlying 5) w = Go.Result.ok (Go.TypeDesc.int Go.IntKind.u8) w := by intros; kernel_rfl
@[simp] theorem Tq.type5 : Tq.prog.types[5]? = Option.some Go.Proofs.Try.t5 := by intros; kernel_rfl
@[simp] theorem Tq.typeInfo5 : ∀ (w : Go.World), Go.Sem.run Tq.prog (Go.typeInfo 5) w = Go.Result.ok Go.Proofs.Try.t5 w := by intros; kernel_rfl
@[simp] theorem Tq.zeroValue5 : ∀ (w : Go.World), Go.Sem.run Tq.prog (Go.zeroValue 5) w = Go.Result.ok (Go.Value.int Go.IntKind.u8 0) w := by intros; kernel_rfl
@[simp] theorem Tq.runUnderlying9 : ∀ (w : Go.World), Go.Sem.run Tq.prog (Go.underlying 9) w = Go.Result.ok Go.TypeDesc.string w := by intros; kernel_rfl
@[simp] theorem Tq.type9 : Tq.prog.types[9]? = Option.some Go.Proofs.Try.t9 := by intros; kernel_rfl
@[simp] theorem Tq.typeInfo9 : ∀ (w : Go.World), Go.Sem.run Tq.prog (Go.typeInfo 9) w = Go.Result.ok Go.Proofs.Try.t9 w := by intros; kernel_rfl
@[simp] theorem Tq.runUnderlying22 : ∀ (w : Go.World), Go.Sem.run Tq.prog (Go.underlying 22) w = Go.Result.ok (Go.TypeDesc.slice 5) w := by intros; kernel_rfl
@[simp] theorem Tq.type22 : Tq.prog.types[22]? = Option.some Go.Proofs.Try.t22 := by intros; kernel_rfl
@[simp] theorem Tq.typeInfo22 : ∀ (w : Go.World), Go.Sem.run Tq.prog (Go.typeInfo 22) w = Go.Result.ok Go.Proofs.Try.t22 w := by intros; kernel_rfl
@[simp] theorem Tq.zeroValue22 : ∀ (w : Go.World), Go.Sem.run Tq.prog (Go.zeroValue 22) w = Go.Result.ok (Go.Value.slice Option.none 0 0) w := by intros; kernel_rfl
@[simp] theorem Tq.type23 : Tq.prog.types[23]? = Option.some Go.Proofs.Try.t23 := by intros; kernel_rfl
@[simp] theorem Tq.typeInfo23 : ∀ (w : Go.World), Go.Sem.run Tq.prog (Go.typeInfo 23) w = Go.Result.ok Go.Proofs.Try.t23 w := by intros; kernel_rfl
@[simp] theorem Tq.type24 : Tq.prog.types[24]? = Option.some Go.Proofs.Try.t24 := by intros; kernel_rfl
@[simp] theorem Tq.typeInfo24 : ∀ (w : Go.World), Go.Sem.run Tq.prog (Go.typeInfo 24) w = Go.Result.ok Go.Proofs.Try.t24 w := by intros; kernel_rfl
@[simp] theorem Tq.zeroValue24 : ∀ (w : Go.World), Go.Sem.run Tq.prog (Go.zeroValue 24) w = Go.Result.ok (Go.Value.slice Option.none 0 0) w := by intros; kernel_rfl
@[simp] theorem Tq.isAgg25 : ∀ (w : Go.World), Go.Sem.run Tq.prog (Go.isAgg 25) w = Go.Result.ok Bool.false w := by intros; kernel_rfl
@[simp] theorem Tq.runUnderlying25 : ∀ (w : Go.World), Go.Sem.run Tq.prog (Go.underlying 25) w = Go.Result.ok (Go.TypeDesc.tuple #[23, 24]) w := by intros; kernel_rfl
@[simp] theorem Tq.sizeOf25 : ∀ (w : Go.World), Go.Sem.run Tq.prog (Go.sizeOf 25) w = Go.Result.ok 1 w := by intros; kernel_rfl
@[simp] theorem Tq.type25 : Tq.prog.types[25]? = Option.some Go.Proofs.Try.t25 := by intros; kernel_rfl
@[simp] theorem Tq.typeInfo25 : ∀ (w : Go.World), Go.Sem.run Tq.prog (Go.typeInfo 25) w = Go.Result.ok Go.Proofs.Try.t25 w := by intros; kernel_rfl
@[simp] theorem Tq.underlying25 : Tq.prog.underlying 25 = Option.some (Go.TypeDesc.tuple #[23, 24]) := by intros; kernel_rfl
@[simp] theorem Tq.zeroValue25 : ∀ (w : Go.World), Go.Sem.run Tq.prog (Go.zeroValue 25) w = Go.Result.ok (Go.Value.tuple #[Go.Value.slice Option.none 0 0, Go.Value.slice Option.none 0 0]) w := by intros; kernel_rfl
@[simp] theorem Tq.type27 : Tq.prog.types[27]? = Option.some Go.Proofs.Try.t27 := by intros; kernel_rfl
@[simp] theorem Tq.typeInfo27 : ∀ (w : Go.World), Go.Sem.run Tq.prog (Go.typeInfo 27) w = Go.Result.ok Go.Proofs.Try.t27 w := by intros; kernel_rfl
@[simp] theorem Tq.zeroValue27 : ∀ (w : Go.World), Go.Sem.run Tq.prog (Go.zeroValue 27) w = Go.Result.ok (Go.Value.slice Option.none 0 0) w := by intros; kernel_rfl
@[simp] theorem Tq.isAgg28 : ∀ (w : Go.World), Go.Sem.run Tq.prog (Go.isAgg 28) w = Go.Result.ok Bool.false w := by intros; kernel_rfl
@[simp] theorem Tq.runUnderlying28 : ∀ (w : Go.World), Go.Sem.run Tq.prog (Go.underlying 28) w = Go.Result.ok (Go.TypeDesc.tuple #[27, 4]) w := by intros; kernel_rfl
@[simp] theorem Tq.sizeOf28 : ∀ (w : Go.World), Go.Sem.run Tq.prog (Go.sizeOf 28) w = Go.Result.ok 1 w := by intros; kernel_rfl
@[simp] theorem Tq.type28 : Tq.prog.types[28]? = Option.some Go.Proofs.Try.t28 := by intros; kernel_rfl
@[simp] theorem Tq.typeInfo28 : ∀ (w : Go.World), Go.Sem.run Tq.prog (Go.typeInfo 28) w = Go.Result.ok Go.Proofs.Try.t28 w := by intros; kernel_rfl
@[simp] theorem Tq.underlying28 : Tq.prog.underlying 28 = Option.some (Go.TypeDesc.tuple #[27, 4]) := by intros; kernel_rfl
@[simp] theorem Tq.zeroValue28 : ∀ (w : Go.World), Go.Sem.run Tq.prog (Go.zeroValue 28) w = Go.Result.ok (Go.Value.tuple #[Go.Value.slice Option.none 0 0, Go.Value.bool Bool.false]) w := by intros; kernel_rfl
@[simp] theorem Tq.type48 : Tq.prog.types[48]? = Option.some Go.Proofs.Try.t48 := by intros; kernel_rfl
@[simp] theorem Tq.typeInfo48 : ∀ (w : Go.World), Go.Sem.run Tq.prog (Go.typeInfo 48) w = Go.Result.ok Go.Proofs.Try.t48 w := by intros; kernel_rfl
end Go.Proofs
namespace Go.Proofs.Ytgkakgibgfehaaa
open Go.RowKit
theorem piles_sub {a b : List Pl} (h : pilesB a = true) (hs : List.Sublist b a) : pilesB b = true := by
  obtain ⟨h1, h2, h3⟩ := (pilesB_iff a).1 h
  exact (pilesB_iff b).2 ⟨fun p hp => h1 p (hs.subset hp), List.Pairwise.sublist hs h2, by have := hs.length_le; omega⟩
theorem fits_sub {a b : List Pl} {n : Int} (h : fitsB a n = true) (hs : List.Sublist b a) : fitsB b n = true := by
  simp only [fitsB, Bool.and_eq_true, List.all_eq_true] at h ⊢
  exact ⟨piles_sub h.1 hs, h.2.1, fun p hp => h.2.2 p (hs.subset hp)⟩
theorem Small.take {ps : List Pl} (h : Small ps) (k : Nat) : Small (ps.take k) := Small.of fun q hq => by
  obtain ⟨i, hi, e⟩ := List.mem_iff_getElem.1 (List.mem_of_mem_take hq)
  have := h i
  unfold tAt at this
  rw [← e]
  simpa [hi] using this
end Go.Proofs.Ytgkakgibgfehaaa
