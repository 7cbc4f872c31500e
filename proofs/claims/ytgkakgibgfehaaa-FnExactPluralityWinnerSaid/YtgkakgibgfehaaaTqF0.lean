/-
  MADE BY PROGRAM (gen_tq.sh): facts of this program, part 0.
-/
import Derived.Test.YtgkakgibgfehaaaSh1
import Derived.KernelRfl
set_option maxRecDepth 100000
namespace Go.Proofs
@[simp] theorem Tq.func3 : Tq.prog.funcs[3]? = Option.some Tq.f3 := by intros; kernel_rfl
@[simp] theorem Tq.isAgg3 : ∀ (w : Go.World), Go.Sem.run Tq.prog (Go.isAgg 3) w = Go.Result.ok Bool.false w := by intros; kernel_rfl
@[simp] theorem Tq.ntmps3 : Tq.f3.ntmps = 87 := by intros; kernel_rfl
@[simp] theorem Tq.sizeOf3 : ∀ (w : Go.World), Go.Sem.run Tq.prog (Go.sizeOf 3) w = Go.Result.ok 1 w := by intros; kernel_rfl
@[simp] theorem Tq.underlying3 : Tq.prog.underlying 3 = Option.some (Go.TypeDesc.int Go.IntKind.i64) := by intros; kernel_rfl
@[simp] theorem Tq.zeroValue3 : ∀ (w : Go.World), Go.Sem.run Tq.prog (Go.zeroValue 3) w = Go.Result.ok (Go.Value.int Go.IntKind.i64 0) w := by intros; kernel_rfl
@[simp] theorem Tq.isAgg4 : ∀ (w : Go.World), Go.Sem.run Tq.prog (Go.isAgg 4) w = Go.Result.ok Bool.false w := by intros; kernel_rfl
@[simp] theorem Tq.sizeOf4 : ∀ (w : Go.World), Go.Sem.run Tq.prog (Go.sizeOf 4) w = Go.Result.ok 1 w := by intros; kernel_rfl
@[simp] theorem Tq.underlying4 : Tq.prog.underlying 4 = Option.some Go.TypeDesc.bool := by intros; kernel_rfl
@[simp] theorem Tq.zeroValue4 : ∀ (w : Go.World), Go.Sem.run Tq.prog (Go.zeroValue 4) w = Go.Result.ok (Go.Value.bool Bool.false) w := by intros; kernel_rfl
@[simp] theorem Tq.isAgg5 : ∀ (w : Go.World), Go.Sem.run Tq.prog (Go.isAgg 5) w = Go.Result.ok Bool.false w := by intros; kernel_rfl
@[simp] theorem Tq.sizeOf5 : ∀ (w : Go.World), Go.Sem.run Tq.prog (Go.sizeOf 5) w = Go.Result.ok 1 w := by intros; kernel_rfl
@[simp] theorem Tq.underlying5 : Tq.prog.underlying 5 = Option.some (Go.TypeDesc.int Go.IntKind.u8) := by intros; kernel_rfl
@[simp] theorem Tq.isAgg9 : ∀ (w : Go.World), Go.Sem.run Tq.prog (Go.isAgg 9) w = Go.Result.ok Bool.false w := by intros; kernel_rfl
@[simp] theorem Tq.sizeOf9 : ∀ (w : Go.World), Go.Sem.run Tq.prog (Go.sizeOf 9) w = Go.Result.ok 1 w := by intros; kernel_rfl
@[simp] theorem Tq.underlying9 : Tq.prog.underlying 9 = Option.some Go.TypeDesc.string := by intros; kernel_rfl
@[simp] theorem Tq.zeroValue9 : ∀ (w : Go.World), Go.Sem.run Tq.prog (Go.zeroValue 9) w = Go.Result.ok (Go.Value.string { data := #[] }) w := by intros; kernel_rfl
@[simp] theorem Tq.call14 : ∀ (args : Array Go.Value) (w : Go.World), Go.Sem.run Tq.prog (Go.callFunc 14 args) w = Go.Result.ok (Go.Next.enter 14 args) w := by intros; kernel_rfl
@[simp] theorem Tq.func14 : Tq.prog.funcs[14]? = Option.some Tq.f14 := by intros; kernel_rfl
@[simp] theorem Tq.ntmps14 : Tq.f14.ntmps = 27 := by intros; kernel_rfl
@[simp] theorem Tq.call15 : ∀ (args : Array Go.Value) (w : Go.World), Go.Sem.run Tq.prog (Go.callFunc 15 args) w = Go.Result.ok (Go.Next.enter 15 args) w := by intros; kernel_rfl
@[simp] theorem Tq.func15 : Tq.prog.funcs[15]? = Option.some Tq.f15 := by intros; kernel_rfl
@[simp] theorem Tq.ntmps15 : Tq.f15.ntmps = 44 := by intros; kernel_rfl
@[simp] theorem Tq.call16 : ∀ (args : Array Go.Value) (w : Go.World), Go.Sem.run Tq.prog (Go.callFunc 16 args) w = Go.Result.ok (Go.Next.enter 16 args) w := by intros; kernel_rfl
@[simp] theorem Tq.func16 : Tq.prog.funcs[16]? = Option.some Tq.f16 := by intros; kernel_rfl
@[simp] theorem Tq.ntmps16 : Tq.f16.ntmps = 15 := by intros; kernel_rfl
@[simp] theorem Tq.call17 : ∀ (args : Array Go.Value) (w : Go.World), Go.Sem.run Tq.prog (Go.callFunc 17 args) w = Go.Result.ok (Go.Next.enter 17 args) w := by intros; kernel_rfl
@[simp] theorem Tq.func17 : Tq.prog.funcs[17]? = Option.some Tq.f17 := by intros; kernel_rfl
@[simp] theorem Tq.ntmps17 : Tq.f17.ntmps = 26 := by intros; kernel_rfl
@[simp] theorem Tq.call18 : ∀ (args : Array Go.Value) (w : Go.World), Go.Sem.run Tq.prog (Go.callFunc 18 args) w = Go.Result.ok (Go.Next.enter 18 args) w := by intros; kernel_rfl
@[simp] theorem Tq.func18 : Tq.prog.funcs[18]? = Option.some Tq.f18 := by intros; kernel_rfl
@[simp] theorem Tq.ntmps18 : Tq.f18.ntmps = 18 := by intros; kernel_rfl
@[simp] theorem Tq.call19 : ∀ (args : Array Go.Value) (w : Go.World), Go.Sem.run Tq.prog (Go.callFunc 19 args) w = Go.Result.ok (Go.Next.enter 19 args) w := by intros; kernel_rfl
@[simp] theorem Tq.func19 : Tq.prog.funcs[19]? = Option.some Tq.f19 := by intros; kernel_rfl
@[simp] theorem Tq.ntmps19 : Tq.f19.ntmps = 21 := by intros; kernel_rfl
@[simp] theorem Tq.isAgg22 : ∀ (w : Go.World), Go.Sem.run Tq.prog (Go.isAgg 22) w = Go.Result.ok Bool.false w := by intros; kernel_rfl
@[simp] theorem Tq.sizeOf22 : ∀ (w : Go.World), Go.Sem.run Tq.prog (Go.sizeOf 22) w = Go.Result.ok 1 w := by intros; kernel_rfl
@[simp] theorem Tq.underlying22 : Tq.prog.underlying 22 = Option.some (Go.TypeDesc.slice 5) := by intros; kernel_rfl
@[simp] theorem Tq.isAgg23 : ∀ (w : Go.World), Go.Sem.run Tq.prog (Go.isAgg 23) w = Go.Result.ok Bool.false w := by intros; kernel_rfl
@[simp] theorem Tq.runUnderlying23 : ∀ (w : Go.World), Go.Sem.run Tq.prog (Go.underlying 23) w = Go.Result.ok (Go.TypeDesc.slice 48) w := by intros; kernel_rfl
@[simp] theorem Tq.sizeOf23 : ∀ (w : Go.World), Go.Sem.run Tq.prog (Go.sizeOf 23) w = Go.Result.ok 1 w := by intros; kernel_rfl
@[simp] theorem Tq.underlying23 : Tq.prog.underlying 23 = Option.some (Go.TypeDesc.slice 48) := by intros; kernel_rfl
@[simp] theorem Tq.zeroValue23 : ∀ (w : Go.World), Go.Sem.run Tq.prog (Go.zeroValue 23) w = Go.Result.ok (Go.Value.slice Option.none 0 0) w := by intros; kernel_rfl
@[simp] theorem Tq.isAgg24 : ∀ (w : Go.World), Go.Sem.run Tq.prog (Go.isAgg 24) w = Go.Result.ok Bool.false w := by intros; kernel_rfl
@[simp] theorem Tq.runUnderlying24 : ∀ (w : Go.World), Go.Sem.run Tq.prog (Go.underlying 24) w = Go.Result.ok (Go.TypeDesc.slice 4) w := by intros; kernel_rfl
@[simp] theorem Tq.sizeOf24 : ∀ (w : Go.World), Go.Sem.run Tq.prog (Go.sizeOf 24) w = Go.Result.ok 1 w := by intros; kernel_rfl
@[simp] theorem Tq.underlying24 : Tq.prog.underlying 24 = Option.some (Go.TypeDesc.slice 4) := by intros; kernel_rfl
@[simp] theorem Tq.isAgg27 : ∀ (w : Go.World), Go.Sem.run Tq.prog (Go.isAgg 27) w = Go.Result.ok Bool.false w := by intros; kernel_rfl
@[simp] theorem Tq.runUnderlying27 : ∀ (w : Go.World), Go.Sem.run Tq.prog (Go.underlying 27) w = Go.Result.ok (Go.TypeDesc.slice 3) w := by intros; kernel_rfl
@[simp] theorem Tq.sizeOf27 : ∀ (w : Go.World), Go.Sem.run Tq.prog (Go.sizeOf 27) w = Go.Result.ok 1 w := by intros; kernel_rfl
@[simp] theorem Tq.underlying27 : Tq.prog.underlying 27 = Option.some (Go.TypeDesc.slice 3) := by intros; kernel_rfl
@[simp] theorem Tq.call47 : ∀ (args : Array Go.Value) (w : Go.World), Go.Sem.run Tq.prog (Go.callFunc 47 args) w = Go.Result.ok (Go.Next.enter 47 args) w := by intros; kernel_rfl
@[simp] theorem Tq.func47 : Tq.prog.funcs[47]? = Option.some Tq.f47 := by intros; kernel_rfl
@[simp] theorem Tq.ntmps47 : Tq.f47.ntmps = 11 := by intros; kernel_rfl
@[simp] theorem Tq.call48 : ∀ (args : Array Go.Value) (w : Go.World), Go.Sem.run Tq.prog (Go.callFunc 48 args) w = Go.Result.ok (Go.Next.enter 48 args) w := by intros; kernel_rfl
@[simp] theorem Tq.func48 : Tq.prog.funcs[48]? = Option.some Tq.f48 := by intros; kernel_rfl
@[simp] theorem Tq.isAgg48 : ∀ (w : Go.World), Go.Sem.run Tq.prog (Go.isAgg 48) w = Go.Result.ok Bool.true w := by intros; kernel_rfl
@[simp] theorem Tq.ntmps48 : Tq.f48.ntmps = 99 := by intros; kernel_rfl
@[simp] theorem Tq.runUnderlying48 : ∀ (w : Go.World), Go.Sem.run Tq.prog (Go.underlying 48) w = Go.Result.ok (Go.TypeDesc.struct #[{ name := "Text", type := 9, offset := 0, embedded := Bool.false, tag := "", pkgPath := "", byteOffset := 0 }, { name := "Many", type := 3, offset := 1, embedded := Bool.false, tag := "", pkgPath := "", byteOffset := 16 }]) w := by intros; kernel_rfl
@[simp] theorem Tq.sizeOf48 : ∀ (w : Go.World), Go.Sem.run Tq.prog (Go.sizeOf 48) w = Go.Result.ok 2 w := by intros; kernel_rfl
@[simp] theorem Tq.underlying48 : Tq.prog.underlying 48 = Option.some (Go.TypeDesc.struct #[{ name := "Text", type := 9, offset := 0, embedded := Bool.false, tag := "", pkgPath := "", byteOffset := 0 }, { name := "Many", type := 3, offset := 1, embedded := Bool.false, tag := "", pkgPath := "", byteOffset := 16 }]) := by intros; kernel_rfl
@[simp] theorem Tq.zeroValue48 : ∀ (w : Go.World), Go.Sem.run Tq.prog (Go.zeroValue 48) w = Go.Result.ok (Go.Value.agg #[Go.Value.string { data := #[] }, Go.Value.int Go.IntKind.i64 0]) w := by intros; kernel_rfl
@[simp] theorem Tq.call49 : ∀ (args : Array Go.Value) (w : Go.World), Go.Sem.run Tq.prog (Go.callFunc 49 args) w = Go.Result.ok (Go.Next.enter 49 args) w := by intros; kernel_rfl
@[simp] theorem Tq.func49 : Tq.prog.funcs[49]? = Option.some Tq.f49 := by intros; kernel_rfl
@[simp] theorem Tq.ntmps49 : Tq.f49.ntmps = 75 := by intros; kernel_rfl
@[simp] theorem Tq.call50 : ∀ (args : Array Go.Value) (w : Go.World), Go.Sem.run Tq.prog (Go.callFunc 50 args) w = Go.Result.ok (Go.Next.enter 50 args) w := by intros; kernel_rfl
@[simp] theorem Tq.func50 : Tq.prog.funcs[50]? = Option.some Tq.f50 := by intros; kernel_rfl
@[simp] theorem Tq.ntmps50 : Tq.f50.ntmps = 20 := by intros; kernel_rfl
@[simp] theorem Tq.call51 : ∀ (args : Array Go.Value) (w : Go.World), Go.Sem.run Tq.prog (Go.callFunc 51 args) w = Go.Result.ok (Go.Next.enter 51 args) w := by intros; kernel_rfl
@[simp] theorem Tq.func51 : Tq.prog.funcs[51]? = Option.some Tq.f51 := by intros; kernel_rfl
@[simp] theorem Tq.ntmps51 : Tq.f51.ntmps = 41 := by intros; kernel_rfl
@[simp] theorem Tq.call52 : ∀ (args : Array Go.Value) (w : Go.World), Go.Sem.run Tq.prog (Go.callFunc 52 args) w = Go.Result.ok (Go.Next.enter 52 args) w := by intros; kernel_rfl
@[simp] theorem Tq.func52 : Tq.prog.funcs[52]? = Option.some Tq.f52 := by intros; kernel_rfl
@[simp] theorem Tq.call53 : ∀ (args : Array Go.Value) (w : Go.World), Go.Sem.run Tq.prog (Go.callFunc 53 args) w = Go.Result.ok (Go.Next.enter 53 args) w := by intros; kernel_rfl
@[simp] theorem Tq.func53 : Tq.prog.funcs[53]? = Option.some Tq.f53 := by intros; kernel_rfl
@[simp] theorem Tq.ntmps53 : Tq.f53.ntmps = 33 := by intros; kernel_rfl
@[simp] theorem Tq.call54 : ∀ (args : Array Go.Value) (w : Go.World), Go.Sem.run Tq.prog (Go.callFunc 54 args) w = Go.Result.ok (Go.Next.enter 54 args) w := by intros; kernel_rfl
@[simp] theorem Tq.func54 : Tq.prog.funcs[54]? = Option.some Tq.f54 := by intros; kernel_rfl
@[simp] theorem Tq.ntmps54 : Tq.f54.ntmps = 47 := by intros; kernel_rfl
@[simp] theorem Tq.call55 : ∀ (args : Array Go.Value) (w : Go.World), Go.Sem.run Tq.prog (Go.callFunc 55 args) w = Go.Result.ok (Go.Next.enter 55 args) w := by intros; kernel_rfl
@[simp] theorem Tq.func55 : Tq.prog.funcs[55]? = Option.some Tq.f55 := by intros; kernel_rfl
@[simp] theorem Tq.ntmps55 : Tq.f55.ntmps = 33 := by intros; kernel_rfl
@[simp] theorem Tq.call63 : ∀ (args : Array Go.Value) (w : Go.World), Go.Sem.run Tq.prog (Go.callFunc 63 args) w = Go.Result.ok (Go.Next.enter 63 args) w := by intros; kernel_rfl
@[simp] theorem Tq.func63 : Tq.prog.funcs[63]? = Option.some Tq.f63 := by intros; kernel_rfl
@[simp] theorem Tq.ntmps63 : Tq.f63.ntmps = 15 := by intros; kernel_rfl
@[simp] theorem Tq.underlying67 : Tq.prog.underlying 67 = Option.some (Go.TypeDesc.slice 27) := by intros; kernel_rfl
@[simp] theorem Tq.call72 : ∀ (args : Array Go.Value) (w : Go.World), Go.Sem.run Tq.prog (Go.callFunc 72 args) w = Go.Result.ok (Go.Next.enter 72 args) w := by intros; kernel_rfl
@[simp] theorem Tq.func72 : Tq.prog.funcs[72]? = Option.some Tq.f72 := by intros; kernel_rfl
@[simp] theorem Tq.ntmps72 : Tq.f72.ntmps = 26 := by intros; kernel_rfl
@[simp] theorem Tq.call77 : ∀ (args : Array Go.Value) (w : Go.World), Go.Sem.run Tq.prog (Go.callFunc 77 args) w = Go.Result.ok (Go.Next.enter 77 args) w := by intros; kernel_rfl
@[simp] theorem Tq.func77 : Tq.prog.funcs[77]? = Option.some Tq.f77 := by intros; kernel_rfl
@[simp] theorem Tq.ntmps77 : Tq.f77.ntmps = 29 := by intros; kernel_rfl
@[simp] theorem Tq.call78 : ∀ (args : Array Go.Value) (w : Go.World), Go.Sem.run Tq.prog (Go.callFunc 78 args) w = Go.Result.ok (Go.Next.enter 78 args) w := by intros; kernel_rfl
@[simp] theorem Tq.func78 : Tq.prog.funcs[78]? = Option.some Tq.f78 := by intros; kernel_rfl
@[simp] theorem Tq.ntmps78 : Tq.f78.ntmps = 28 := by intros; kernel_rfl
@[simp] theorem Tq.call79 : ∀ (args : Array Go.Value) (w : Go.World), Go.Sem.run Tq.prog (Go.callFunc 79 args) w = Go.Result.ok (Go.Next.enter 79 args) w := by intros; kernel_rfl
@[simp] theorem Tq.func79 : Tq.prog.funcs[79]? = Option.some Tq.f79 := by intros; kernel_rfl
@[simp] theorem Tq.ntmps79 : Tq.f79.ntmps = 55 := by intros; kernel_rfl
@[simp] theorem Tq.call80 : ∀ (args : Array Go.Value) (w : Go.World), Go.Sem.run Tq.prog (Go.callFunc 80 args) w = Go.Result.ok (Go.Next.enter 80 args) w := by intros; kernel_rfl
@[simp] theorem Tq.func80 : Tq.prog.funcs[80]? = Option.some Tq.f80 := by intros; kernel_rfl
@[simp] theorem Tq.ntmps80 : Tq.f80.ntmps = 12 := by intros; kernel_rfl
@[simp] theorem Tq.call81 : ∀ (args : Array Go.Value) (w : Go.World), Go.Sem.run Tq.prog (Go.callFunc 81 args) w = Go.Result.ok (Go.Next.enter 81 args) w := by intros; kernel_rfl
@[simp] theorem Tq.func81 : Tq.prog.funcs[81]? = Option.some Tq.f81 := by intros; kernel_rfl
@[simp] theorem Tq.ntmps81 : Tq.f81.ntmps = 15 := by intros; kernel_rfl
@[simp] theorem Tq.call82 : ∀ (args : Array Go.Value) (w : Go.World), Go.Sem.run Tq.prog (Go.callFunc 82 args) w = Go.Result.ok (Go.Next.enter 82 args) w := by intros; kernel_rfl
@[simp] theorem Tq.func82 : Tq.prog.funcs[82]? = Option.some Tq.f82 := by intros; kernel_rfl
@[simp] theorem Tq.ntmps82 : Tq.f82.ntmps = 30 := by intros; kernel_rfl
@[simp] theorem Tq.call83 : ∀ (args : Array Go.Value) (w : Go.World), Go.Sem.run Tq.prog (Go.callFunc 83 args) w = Go.Result.ok (Go.Next.enter 83 args) w := by intros; kernel_rfl
@[simp] theorem Tq.func83 : Tq.prog.funcs[83]? = Option.some Tq.f83 := by intros; kernel_rfl
@[simp] theorem Tq.ntmps83 : Tq.f83.ntmps = 5 := by intros; kernel_rfl
@[simp] theorem Tq.call84 : ∀ (args : Array Go.Value) (w : Go.World), Go.Sem.run Tq.prog (Go.callFunc 84 args) w = Go.Result.ok (Go.Next.enter 84 args) w := by intros; kernel_rfl
@[simp] theorem Tq.func84 : Tq.prog.funcs[84]? = Option.some Tq.f84 := by intros; kernel_rfl
@[simp] theorem Tq.ntmps84 : Tq.f84.ntmps = 9 := by intros; kernel_rfl
@[simp] theorem Tq.call88 : ∀ (args : Array Go.Value) (w : Go.World), Go.Sem.run Tq.prog (Go.callFunc 88 args) w = Go.Result.ok (Go.Next.enter 88 args) w := by intros; kernel_rfl
@[simp] theorem Tq.func88 : Tq.prog.funcs[88]? = Option.some Tq.f88 := by intros; kernel_rfl
@[simp] theorem Tq.ntmps88 : Tq.f88.ntmps = 41 := by intros; kernel_rfl
@[simp] theorem Tq.runUnderlying89 : ∀ (w : Go.World), Go.Sem.run Tq.prog (Go.underlying 89) w = Go.Result.ok (Go.TypeDesc.struct #[{ name := "b", type := 22, offset := 0, embedded := Bool.false, tag := "", pkgPath := "loop.example/tallyaudit/spec", byteOffset := 0 }, { name := "p", type := 3, offset := 1, embedded := Bool.false, tag := "", pkgPath := "loop.example/tallyaudit/spec", byteOffset := 24 }]) w := by intros; kernel_rfl
@[simp] theorem Tq.zeroValue89 : ∀ (w : Go.World), Go.Sem.run Tq.prog (Go.zeroValue 89) w = Go.Result.ok (Go.Value.agg #[Go.Value.slice Option.none 0 0, Go.Value.int Go.IntKind.i64 0]) w := by intros; kernel_rfl
@[simp] theorem Tq.call90 : ∀ (args : Array Go.Value) (w : Go.World), Go.Sem.run Tq.prog (Go.callFunc 90 args) w = Go.Result.ok (Go.Next.enter 90 args) w := by intros; kernel_rfl
@[simp] theorem Tq.func90 : Tq.prog.funcs[90]? = Option.some Tq.f90 := by intros; kernel_rfl
@[simp] theorem Tq.ntmps90 : Tq.f90.ntmps = 32 := by intros; kernel_rfl
@[simp] theorem Tq.call91 : ∀ (args : Array Go.Value) (w : Go.World), Go.Sem.run Tq.prog (Go.callFunc 91 args) w = Go.Result.ok (Go.Next.enter 91 args) w := by intros; kernel_rfl
@[simp] theorem Tq.func91 : Tq.prog.funcs[91]? = Option.some Tq.f91 := by intros; kernel_rfl
@[simp] theorem Tq.ntmps91 : Tq.f91.ntmps = 37 := by intros; kernel_rfl
@[simp] theorem Tq.call92 : ∀ (args : Array Go.Value) (w : Go.World), Go.Sem.run Tq.prog (Go.callFunc 92 args) w = Go.Result.ok (Go.Next.enter 92 args) w := by intros; kernel_rfl
@[simp] theorem Tq.func92 : Tq.prog.funcs[92]? = Option.some Tq.f92 := by intros; kernel_rfl
@[simp] theorem Tq.ntmps92 : Tq.f92.ntmps = 24 := by intros; kernel_rfl
@[simp] theorem Tq.call93 : ∀ (args : Array Go.Value) (w : Go.World), Go.Sem.run Tq.prog (Go.callFunc 93 args) w = Go.Result.ok (Go.Next.enter 93 args) w := by intros; kernel_rfl
@[simp] theorem Tq.func93 : Tq.prog.funcs[93]? = Option.some Tq.f93 := by intros; kernel_rfl
@[simp] theorem Tq.ntmps93 : Tq.f93.ntmps = 22 := by intros; kernel_rfl
@[simp] theorem Tq.call94 : ∀ (args : Array Go.Value) (w : Go.World), Go.Sem.run Tq.prog (Go.callFunc 94 args) w = Go.Result.ok (Go.Next.enter 94 args) w := by intros; kernel_rfl
@[simp] theorem Tq.func94 : Tq.prog.funcs[94]? = Option.some Tq.f94 := by intros; kernel_rfl
@[simp] theorem Tq.ntmps94 : Tq.f94.ntmps = 10 := by intros; kernel_rfl
@[simp] theorem Tq.runUnderlying95 : ∀ (w : Go.World), Go.Sem.run Tq.prog (Go.underlying 95) w = Go.Result.ok (Go.TypeDesc.slice 9) w := by intros; kernel_rfl
@[simp] theorem Tq.underlying95 : Tq.prog.underlying 95 = Option.some (Go.TypeDesc.slice 9) := by intros; kernel_rfl
@[simp] theorem Tq.isAgg96 : ∀ (w : Go.World), Go.Sem.run Tq.prog (Go.isAgg 96) w = Go.Result.ok Bool.false w := by intros; kernel_rfl
@[simp] theorem Tq.runUnderlying96 : ∀ (w : Go.World), Go.Sem.run Tq.prog (Go.underlying 96) w = Go.Result.ok (Go.TypeDesc.slice 23) w := by intros; kernel_rfl
@[simp] theorem Tq.sizeOf96 : ∀ (w : Go.World), Go.Sem.run Tq.prog (Go.sizeOf 96) w = Go.Result.ok 1 w := by intros; kernel_rfl
@[simp] theorem Tq.underlying96 : Tq.prog.underlying 96 = Option.some (Go.TypeDesc.slice 23) := by intros; kernel_rfl
@[simp] theorem Tq.call97 : ∀ (args : Array Go.Value) (w : Go.World), Go.Sem.run Tq.prog (Go.callFunc 97 args) w = Go.Result.ok (Go.Next.enter 97 args) w := by intros; kernel_rfl
@[simp] theorem Tq.func97 : Tq.prog.funcs[97]? = Option.some Tq.f97 := by intros; kernel_rfl
@[simp] theorem Tq.ntmps97 : Tq.f97.ntmps = 18 := by intros; kernel_rfl
@[simp] theorem Tq.call99 : ∀ (args : Array Go.Value) (w : Go.World), Go.Sem.run Tq.prog (Go.callFunc 99 args) w = Go.Result.ok (Go.Next.enter 99 args) w := by intros; kernel_rfl
@[simp] theorem Tq.func99 : Tq.prog.funcs[99]? = Option.some Tq.f99 := by intros; kernel_rfl
@[simp] theorem Tq.ntmps99 : Tq.f99.ntmps = 17 := by intros; kernel_rfl
@[simp] theorem Tq.call100 : ∀ (args : Array Go.Value) (w : Go.World), Go.Sem.run Tq.prog (Go.callFunc 100 args) w = Go.Result.ok (Go.Next.enter 100 args) w := by intros; kernel_rfl
@[simp] theorem Tq.func100 : Tq.prog.funcs[100]? = Option.some Tq.f100 := by intros; kernel_rfl
@[simp] theorem Tq.ntmps100 : Tq.f100.ntmps = 66 := by intros; kernel_rfl
@[simp] theorem Tq.call101 : ∀ (args : Array Go.Value) (w : Go.World), Go.Sem.run Tq.prog (Go.callFunc 101 args) w = Go.Result.ok (Go.Next.enter 101 args) w := by intros; kernel_rfl
@[simp] theorem Tq.func101 : Tq.prog.funcs[101]? = Option.some Tq.f101 := by intros; kernel_rfl
@[simp] theorem Tq.ntmps101 : Tq.f101.ntmps = 5 := by intros; kernel_rfl
@[simp] theorem Tq.call102 : ∀ (args : Array Go.Value) (w : Go.World), Go.Sem.run Tq.prog (Go.callFunc 102 args) w = Go.Result.ok (Go.Next.enter 102 args) w := by intros; kernel_rfl
@[simp] theorem Tq.func102 : Tq.prog.funcs[102]? = Option.some Tq.f102 := by intros; kernel_rfl
@[simp] theorem Tq.ntmps102 : Tq.f102.ntmps = 4 := by intros; kernel_rfl
@[simp] theorem Tq.call103 : ∀ (args : Array Go.Value) (w : Go.World), Go.Sem.run Tq.prog (Go.callFunc 103 args) w = Go.Result.ok (Go.Next.enter 103 args) w := by intros; kernel_rfl
@[simp] theorem Tq.func103 : Tq.prog.funcs[103]? = Option.some Tq.f103 := by intros; kernel_rfl
@[simp] theorem Tq.ntmps103 : Tq.f103.ntmps = 5 := by intros; kernel_rfl
@[simp] theorem Tq.call104 : ∀ (args : Array Go.Value) (w : Go.World), Go.Sem.run Tq.prog (Go.callFunc 104 args) w = Go.Result.ok (Go.Next.enter 104 args) w := by intros; kernel_rfl
@[simp] theorem Tq.func104 : Tq.prog.funcs[104]? = Option.some Tq.f104 := by intros; kernel_rfl
@[simp] theorem Tq.ntmps104 : Tq.f104.ntmps = 13 := by intros; kernel_rfl
@[simp] theorem Tq.func105 : Tq.prog.funcs[105]? = Option.some Tq.f105 := by intros; kernel_rfl
@[simp] theorem Tq.ntmps105 : Tq.f105.ntmps = 31 := by intros; kernel_rfl
@[simp] theorem Tq.call119 : ∀ (args : Array Go.Value) (w : Go.World), Go.Sem.run Tq.prog (Go.callFunc 119 args) w = Go.Result.ok (Go.Next.enter 119 args) w := by intros; kernel_rfl
@[simp] theorem Tq.func119 : Tq.prog.funcs[119]? = Option.some Tq.f119 := by intros; kernel_rfl
@[simp] theorem Tq.ntmps119 : Tq.f119.ntmps = 20 := by intros; kernel_rfl
end Go.Proofs
