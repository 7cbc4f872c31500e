/-
  The program whose countsOfParts is stuck at once: its body asks a number whether it is true.
  MADE BY PROGRAM (gen_tq.sh): the program that differs from the given one in one function alone, and its functions.
  MADE BY PROGRAM (gen_tq.sh): facts of this program, part 0.
  MADE BY PROGRAM (gen_tq.sh): facts of this program, part 1.
  MADE BY PROGRAM (gen_tq.sh): all of them.
-/
import Derived.Test.YtgkakgibgfehaaaRows
import Derived.KernelRfl
namespace Go.Proofs
noncomputable def Tr.f52 : Func :=
  { name := "loop.example/tallyaudit/impl.countsOfParts", origin := "", params := #[23, 24], resultTypes := #[67], nfree := 0, ntmps := 48, results := #[.tmp 4], norace := false, tmpNames := #[],
    body := some (.cond (.const (.int .i64 0)) .skip .skip) }
end Go.Proofs

namespace Go.Proofs
noncomputable abbrev Tr.f83 : Func := Try.f83
noncomputable abbrev Tr.f84 : Func := Try.f84
noncomputable abbrev Tr.f104 : Func := Try.f104
noncomputable abbrev Tr.f105 : Func := Try.f105
noncomputable def Tr.prog : Program := { toTables := Try.progTables, funcs := Try.funcs.setIfInBounds 52 Tr.f52 }
end Go.Proofs

set_option maxRecDepth 100000
namespace Go.Proofs
@[simp] theorem Tr.isAgg3 : ∀ (w : Go.World), Go.Sem.run Tr.prog (Go.isAgg 3) w = Go.Result.ok Bool.false w := by intros; kernel_rfl
@[simp] theorem Tr.sizeOf3 : ∀ (w : Go.World), Go.Sem.run Tr.prog (Go.sizeOf 3) w = Go.Result.ok 1 w := by intros; kernel_rfl
@[simp] theorem Tr.isAgg23 : ∀ (w : Go.World), Go.Sem.run Tr.prog (Go.isAgg 23) w = Go.Result.ok Bool.false w := by intros; kernel_rfl
@[simp] theorem Tr.sizeOf23 : ∀ (w : Go.World), Go.Sem.run Tr.prog (Go.sizeOf 23) w = Go.Result.ok 1 w := by intros; kernel_rfl
@[simp] theorem Tr.underlying23 : Tr.prog.underlying 23 = Option.some (Go.TypeDesc.slice 48) := by intros; kernel_rfl
@[simp] theorem Tr.zeroValue23 : ∀ (w : Go.World), Go.Sem.run Tr.prog (Go.zeroValue 23) w = Go.Result.ok (Go.Value.slice Option.none 0 0) w := by intros; kernel_rfl
@[simp] theorem Tr.sizeOf48 : ∀ (w : Go.World), Go.Sem.run Tr.prog (Go.sizeOf 48) w = Go.Result.ok 2 w := by intros; kernel_rfl
@[simp] theorem Tr.func83 : Tr.prog.funcs[83]? = Option.some Tr.f83 := by intros; kernel_rfl
@[simp] theorem Tr.ntmps83 : Tr.f83.ntmps = 5 := by intros; kernel_rfl
@[simp] theorem Tr.func84 : Tr.prog.funcs[84]? = Option.some Tr.f84 := by intros; kernel_rfl
@[simp] theorem Tr.ntmps84 : Tr.f84.ntmps = 9 := by intros; kernel_rfl
@[simp] theorem Tr.isAgg96 : ∀ (w : Go.World), Go.Sem.run Tr.prog (Go.isAgg 96) w = Go.Result.ok Bool.false w := by intros; kernel_rfl
@[simp] theorem Tr.runUnderlying96 : ∀ (w : Go.World), Go.Sem.run Tr.prog (Go.underlying 96) w = Go.Result.ok (Go.TypeDesc.slice 23) w := by intros; kernel_rfl
@[simp] theorem Tr.sizeOf96 : ∀ (w : Go.World), Go.Sem.run Tr.prog (Go.sizeOf 96) w = Go.Result.ok 1 w := by intros; kernel_rfl
@[simp] theorem Tr.underlying96 : Tr.prog.underlying 96 = Option.some (Go.TypeDesc.slice 23) := by intros; kernel_rfl
@[simp] theorem Tr.call104 : ∀ (args : Array Go.Value) (w : Go.World), Go.Sem.run Tr.prog (Go.callFunc 104 args) w = Go.Result.ok (Go.Next.enter 104 args) w := by intros; kernel_rfl
@[simp] theorem Tr.func104 : Tr.prog.funcs[104]? = Option.some Tr.f104 := by intros; kernel_rfl
@[simp] theorem Tr.ntmps104 : Tr.f104.ntmps = 13 := by intros; kernel_rfl
@[simp] theorem Tr.func105 : Tr.prog.funcs[105]? = Option.some Tr.f105 := by intros; kernel_rfl
@[simp] theorem Tr.ntmps105 : Tr.f105.ntmps = 31 := by intros; kernel_rfl
end Go.Proofs

set_option maxRecDepth 100000
namespace Go.Proofs
end Go.Proofs


