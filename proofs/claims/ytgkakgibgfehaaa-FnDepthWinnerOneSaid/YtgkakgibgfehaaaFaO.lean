/-
  Facts of the program with our own function: of functions and types that a further statement names.
-/
import Derived.Test.YtgkakgibgfehaaaSh32
import Derived.KernelRfl
namespace Go.Proofs
set_option maxRecDepth 100000
noncomputable abbrev Tq.f9 : Func := Try.f9
noncomputable abbrev Tq.f21 : Func := Try.f21
noncomputable abbrev Tq.f28 : Func := Try.f28
noncomputable abbrev Tq.f30 : Func := Try.f30
noncomputable abbrev Tq.f31 : Func := Try.f31
noncomputable abbrev Tq.f32 : Func := Try.f32
noncomputable abbrev Tq.f56 : Func := Try.f56
noncomputable abbrev Tq.f57 : Func := Try.f57
noncomputable abbrev Tq.f58 : Func := Try.f58
noncomputable abbrev Tq.f59 : Func := Try.f59
noncomputable abbrev Tq.f62 : Func := Try.f62
noncomputable abbrev Tq.f64 : Func := Try.f64
noncomputable abbrev Tq.f65 : Func := Try.f65
noncomputable abbrev Tq.f66 : Func := Try.f66
noncomputable abbrev Tq.f67 : Func := Try.f67
noncomputable abbrev Tq.f68 : Func := Try.f68
noncomputable abbrev Tq.f69 : Func := Try.f69
noncomputable abbrev Tq.f70 : Func := Try.f70
noncomputable abbrev Tq.f71 : Func := Try.f71
noncomputable abbrev Tq.f95 : Func := Try.f95
noncomputable abbrev Tq.f96 : Func := Try.f96
noncomputable abbrev Tq.f98 : Func := Try.f98
noncomputable abbrev Tq.f126 : Func := Try.f126
noncomputable abbrev Tq.f127 : Func := Try.f127
noncomputable abbrev Tq.f128 : Func := Try.f128
noncomputable abbrev Tq.f129 : Func := Try.f129
noncomputable abbrev Tq.f130 : Func := Try.f130
@[simp] theorem Tq.func9 : Tq.prog.funcs[9]? = Option.some Tq.f9 := by intros; kernel_rfl
@[simp] theorem Tq.ntmps9 : Tq.f9.ntmps = 96 := by intros; kernel_rfl
@[simp] theorem Tq.call21 : ∀ (args : Array Go.Value) (w : Go.World), Go.Sem.run Tq.prog (Go.callFunc 21 args) w = Go.Result.ok (Go.Next.enter 21 args) w := by intros; kernel_rfl
@[simp] theorem Tq.func21 : Tq.prog.funcs[21]? = Option.some Tq.f21 := by intros; kernel_rfl
@[simp] theorem Tq.ntmps21 : Tq.f21.ntmps = 18 := by intros; kernel_rfl
@[simp] theorem Tq.call28 : ∀ (args : Array Go.Value) (w : Go.World), Go.Sem.run Tq.prog (Go.callFunc 28 args) w = Go.Result.ok (Go.Next.enter 28 args) w := by intros; kernel_rfl
@[simp] theorem Tq.func28 : Tq.prog.funcs[28]? = Option.some Tq.f28 := by intros; kernel_rfl
@[simp] theorem Tq.ntmps28 : Tq.f28.ntmps = 20 := by intros; kernel_rfl
@[simp] theorem Tq.call30 : ∀ (args : Array Go.Value) (w : Go.World), Go.Sem.run Tq.prog (Go.callFunc 30 args) w = Go.Result.ok (Go.Next.enter 30 args) w := by intros; kernel_rfl
@[simp] theorem Tq.func30 : Tq.prog.funcs[30]? = Option.some Tq.f30 := by intros; kernel_rfl
@[simp] theorem Tq.ntmps30 : Tq.f30.ntmps = 9 := by intros; kernel_rfl
@[simp] theorem Tq.call31 : ∀ (args : Array Go.Value) (w : Go.World), Go.Sem.run Tq.prog (Go.callFunc 31 args) w = Go.Result.ok (Go.Next.enter 31 args) w := by intros; kernel_rfl
@[simp] theorem Tq.func31 : Tq.prog.funcs[31]? = Option.some Tq.f31 := by intros; kernel_rfl
@[simp] theorem Tq.ntmps31 : Tq.f31.ntmps = 43 := by intros; kernel_rfl
@[simp] theorem Tq.call32 : ∀ (args : Array Go.Value) (w : Go.World), Go.Sem.run Tq.prog (Go.callFunc 32 args) w = Go.Result.ok (Go.Next.enter 32 args) w := by intros; kernel_rfl
@[simp] theorem Tq.func32 : Tq.prog.funcs[32]? = Option.some Tq.f32 := by intros; kernel_rfl
@[simp] theorem Tq.ntmps32 : Tq.f32.ntmps = 47 := by intros; kernel_rfl
@[simp] theorem Tq.call56 : ∀ (args : Array Go.Value) (w : Go.World), Go.Sem.run Tq.prog (Go.callFunc 56 args) w = Go.Result.ok (Go.Next.enter 56 args) w := by intros; kernel_rfl
@[simp] theorem Tq.func56 : Tq.prog.funcs[56]? = Option.some Tq.f56 := by intros; kernel_rfl
@[simp] theorem Tq.ntmps56 : Tq.f56.ntmps = 28 := by intros; kernel_rfl
@[simp] theorem Tq.call57 : ∀ (args : Array Go.Value) (w : Go.World), Go.Sem.run Tq.prog (Go.callFunc 57 args) w = Go.Result.ok (Go.Next.enter 57 args) w := by intros; kernel_rfl
@[simp] theorem Tq.func57 : Tq.prog.funcs[57]? = Option.some Tq.f57 := by intros; kernel_rfl
@[simp] theorem Tq.ntmps57 : Tq.f57.ntmps = 16 := by intros; kernel_rfl
@[simp] theorem Tq.call58 : ∀ (args : Array Go.Value) (w : Go.World), Go.Sem.run Tq.prog (Go.callFunc 58 args) w = Go.Result.ok (Go.Next.enter 58 args) w := by intros; kernel_rfl
@[simp] theorem Tq.func58 : Tq.prog.funcs[58]? = Option.some Tq.f58 := by intros; kernel_rfl
@[simp] theorem Tq.ntmps58 : Tq.f58.ntmps = 31 := by intros; kernel_rfl
@[simp] theorem Tq.call59 : ∀ (args : Array Go.Value) (w : Go.World), Go.Sem.run Tq.prog (Go.callFunc 59 args) w = Go.Result.ok (Go.Next.enter 59 args) w := by intros; kernel_rfl
@[simp] theorem Tq.func59 : Tq.prog.funcs[59]? = Option.some Tq.f59 := by intros; kernel_rfl
@[simp] theorem Tq.ntmps59 : Tq.f59.ntmps = 32 := by intros; kernel_rfl
@[simp] theorem Tq.call62 : ∀ (args : Array Go.Value) (w : Go.World), Go.Sem.run Tq.prog (Go.callFunc 62 args) w = Go.Result.ok (Go.Next.enter 62 args) w := by intros; kernel_rfl
@[simp] theorem Tq.func62 : Tq.prog.funcs[62]? = Option.some Tq.f62 := by intros; kernel_rfl
@[simp] theorem Tq.ntmps62 : Tq.f62.ntmps = 60 := by intros; kernel_rfl
@[simp] theorem Tq.call64 : ∀ (args : Array Go.Value) (w : Go.World), Go.Sem.run Tq.prog (Go.callFunc 64 args) w = Go.Result.ok (Go.Next.enter 64 args) w := by intros; kernel_rfl
@[simp] theorem Tq.func64 : Tq.prog.funcs[64]? = Option.some Tq.f64 := by intros; kernel_rfl
@[simp] theorem Tq.ntmps64 : Tq.f64.ntmps = 60 := by intros; kernel_rfl
@[simp] theorem Tq.call65 : ∀ (args : Array Go.Value) (w : Go.World), Go.Sem.run Tq.prog (Go.callFunc 65 args) w = Go.Result.ok (Go.Next.enter 65 args) w := by intros; kernel_rfl
@[simp] theorem Tq.func65 : Tq.prog.funcs[65]? = Option.some Tq.f65 := by intros; kernel_rfl
@[simp] theorem Tq.ntmps65 : Tq.f65.ntmps = 7 := by intros; kernel_rfl
@[simp] theorem Tq.call66 : ∀ (args : Array Go.Value) (w : Go.World), Go.Sem.run Tq.prog (Go.callFunc 66 args) w = Go.Result.ok (Go.Next.enter 66 args) w := by intros; kernel_rfl
@[simp] theorem Tq.func66 : Tq.prog.funcs[66]? = Option.some Tq.f66 := by intros; kernel_rfl
@[simp] theorem Tq.ntmps66 : Tq.f66.ntmps = 25 := by intros; kernel_rfl
@[simp] theorem Tq.call67 : ∀ (args : Array Go.Value) (w : Go.World), Go.Sem.run Tq.prog (Go.callFunc 67 args) w = Go.Result.ok (Go.Next.enter 67 args) w := by intros; kernel_rfl
@[simp] theorem Tq.func67 : Tq.prog.funcs[67]? = Option.some Tq.f67 := by intros; kernel_rfl
@[simp] theorem Tq.ntmps67 : Tq.f67.ntmps = 19 := by intros; kernel_rfl
@[simp] theorem Tq.call68 : ∀ (args : Array Go.Value) (w : Go.World), Go.Sem.run Tq.prog (Go.callFunc 68 args) w = Go.Result.ok (Go.Next.enter 68 args) w := by intros; kernel_rfl
@[simp] theorem Tq.func68 : Tq.prog.funcs[68]? = Option.some Tq.f68 := by intros; kernel_rfl
@[simp] theorem Tq.ntmps68 : Tq.f68.ntmps = 19 := by intros; kernel_rfl
@[simp] theorem Tq.call69 : ∀ (args : Array Go.Value) (w : Go.World), Go.Sem.run Tq.prog (Go.callFunc 69 args) w = Go.Result.ok (Go.Next.enter 69 args) w := by intros; kernel_rfl
@[simp] theorem Tq.func69 : Tq.prog.funcs[69]? = Option.some Tq.f69 := by intros; kernel_rfl
@[simp] theorem Tq.ntmps69 : Tq.f69.ntmps = 23 := by intros; kernel_rfl
@[simp] theorem Tq.call70 : ∀ (args : Array Go.Value) (w : Go.World), Go.Sem.run Tq.prog (Go.callFunc 70 args) w = Go.Result.ok (Go.Next.enter 70 args) w := by intros; kernel_rfl
@[simp] theorem Tq.func70 : Tq.prog.funcs[70]? = Option.some Tq.f70 := by intros; kernel_rfl
@[simp] theorem Tq.ntmps70 : Tq.f70.ntmps = 48 := by intros; kernel_rfl
@[simp] theorem Tq.call71 : ∀ (args : Array Go.Value) (w : Go.World), Go.Sem.run Tq.prog (Go.callFunc 71 args) w = Go.Result.ok (Go.Next.enter 71 args) w := by intros; kernel_rfl
@[simp] theorem Tq.func71 : Tq.prog.funcs[71]? = Option.some Tq.f71 := by intros; kernel_rfl
@[simp] theorem Tq.ntmps71 : Tq.f71.ntmps = 15 := by intros; kernel_rfl
@[simp] theorem Tq.call95 : ∀ (args : Array Go.Value) (w : Go.World), Go.Sem.run Tq.prog (Go.callFunc 95 args) w = Go.Result.ok (Go.Next.enter 95 args) w := by intros; kernel_rfl
@[simp] theorem Tq.func95 : Tq.prog.funcs[95]? = Option.some Tq.f95 := by intros; kernel_rfl
@[simp] theorem Tq.ntmps95 : Tq.f95.ntmps = 41 := by intros; kernel_rfl
@[simp] theorem Tq.call96 : ∀ (args : Array Go.Value) (w : Go.World), Go.Sem.run Tq.prog (Go.callFunc 96 args) w = Go.Result.ok (Go.Next.enter 96 args) w := by intros; kernel_rfl
@[simp] theorem Tq.func96 : Tq.prog.funcs[96]? = Option.some Tq.f96 := by intros; kernel_rfl
@[simp] theorem Tq.ntmps96 : Tq.f96.ntmps = 29 := by intros; kernel_rfl
@[simp] theorem Tq.call98 : ∀ (args : Array Go.Value) (w : Go.World), Go.Sem.run Tq.prog (Go.callFunc 98 args) w = Go.Result.ok (Go.Next.enter 98 args) w := by intros; kernel_rfl
@[simp] theorem Tq.func98 : Tq.prog.funcs[98]? = Option.some Tq.f98 := by intros; kernel_rfl
@[simp] theorem Tq.ntmps98 : Tq.f98.ntmps = 12 := by intros; kernel_rfl
@[simp] theorem Tq.isAgg115 : ∀ (w : Go.World), Go.Sem.run Tq.prog (Go.isAgg 115) w = Go.Result.ok Bool.false w := by intros; kernel_rfl
@[simp] theorem Tq.sizeOf115 : ∀ (w : Go.World), Go.Sem.run Tq.prog (Go.sizeOf 115) w = Go.Result.ok 1 w := by intros; kernel_rfl
@[simp] theorem Tq.isAgg116 : ∀ (w : Go.World), Go.Sem.run Tq.prog (Go.isAgg 116) w = Go.Result.ok Bool.true w := by intros; kernel_rfl
@[simp] theorem Tq.runUnderlying116 : ∀ (w : Go.World), Go.Sem.run Tq.prog (Go.underlying 116) w = Go.Result.ok (Go.TypeDesc.array 8 115) w := by intros; kernel_rfl
@[simp] theorem Tq.sizeOf116 : ∀ (w : Go.World), Go.Sem.run Tq.prog (Go.sizeOf 116) w = Go.Result.ok 8 w := by intros; kernel_rfl
@[simp] theorem Tq.underlying116 : Tq.prog.underlying 116 = Option.some (Go.TypeDesc.array 8 115) := by intros; kernel_rfl
@[simp] theorem Tq.zeroValue116 : ∀ (w : Go.World), Go.Sem.run Tq.prog (Go.zeroValue 116) w = Go.Result.ok (Go.Value.agg #[Go.Value.nilFunc, Go.Value.nilFunc, Go.Value.nilFunc, Go.Value.nilFunc, Go.Value.nilFunc, Go.Value.nilFunc, Go.Value.nilFunc, Go.Value.nilFunc]) w := by intros; kernel_rfl
@[simp] theorem Tq.call126 : ∀ (args : Array Go.Value) (w : Go.World), Go.Sem.run Tq.prog (Go.callFunc 126 args) w = Go.Result.ok (Go.Next.enter 126 args) w := by intros; kernel_rfl
@[simp] theorem Tq.func126 : Tq.prog.funcs[126]? = Option.some Tq.f126 := by intros; kernel_rfl
@[simp] theorem Tq.ntmps126 : Tq.f126.ntmps = 59 := by intros; kernel_rfl
@[simp] theorem Tq.func127 : Tq.prog.funcs[127]? = Option.some Tq.f127 := by intros; kernel_rfl
@[simp] theorem Tq.ntmps127 : Tq.f127.ntmps = 9 := by intros; kernel_rfl
@[simp] theorem Tq.func128 : Tq.prog.funcs[128]? = Option.some Tq.f128 := by intros; kernel_rfl
@[simp] theorem Tq.ntmps128 : Tq.f128.ntmps = 10 := by intros; kernel_rfl
@[simp] theorem Tq.call129 : ∀ (args : Array Go.Value) (w : Go.World), Go.Sem.run Tq.prog (Go.callFunc 129 args) w = Go.Result.ok (Go.Next.enter 129 args) w := by intros; kernel_rfl
@[simp] theorem Tq.func129 : Tq.prog.funcs[129]? = Option.some Tq.f129 := by intros; kernel_rfl
@[simp] theorem Tq.ntmps129 : Tq.f129.ntmps = 4 := by intros; kernel_rfl
@[simp] theorem Tq.func130 : Tq.prog.funcs[130]? = Option.some Tq.f130 := by intros; kernel_rfl
@[simp] theorem Tq.ntmps130 : Tq.f130.ntmps = 10 := by intros; kernel_rfl
end Go.Proofs
