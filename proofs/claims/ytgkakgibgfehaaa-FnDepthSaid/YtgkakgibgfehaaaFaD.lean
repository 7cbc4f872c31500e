/-
  Facts of the program with our own function: of functions and types that a further statement names.
-/
import Derived.Test.YtgkakgibgfehaaaSh32
import Derived.KernelRfl
namespace Go.Proofs
set_option maxRecDepth 100000
noncomputable abbrev Tq.f8 : Func := Try.f8
noncomputable abbrev Tq.f27 : Func := Try.f27
noncomputable abbrev Tq.f28 : Func := Try.f28
noncomputable abbrev Tq.f29 : Func := Try.f29
noncomputable abbrev Tq.f61 : Func := Try.f61
noncomputable abbrev Tq.f62 : Func := Try.f62
noncomputable abbrev Tq.f64 : Func := Try.f64
noncomputable abbrev Tq.f98 : Func := Try.f98
noncomputable abbrev Tq.f127 : Func := Try.f127
noncomputable abbrev Tq.f128 : Func := Try.f128
noncomputable abbrev Tq.f129 : Func := Try.f129
noncomputable abbrev Tq.f130 : Func := Try.f130
@[simp] theorem Tq.runUnderlying3 : ∀ (w : Go.World), Go.Sem.run Tq.prog (Go.underlying 3) w = Go.Result.ok (Go.TypeDesc.int Go.IntKind.i64) w := by intros; kernel_rfl
@[simp] theorem Tq.type3 : Tq.prog.types[3]? = Option.some Go.Proofs.Try.t3 := by intros; kernel_rfl
@[simp] theorem Tq.typeInfo3 : ∀ (w : Go.World), Go.Sem.run Tq.prog (Go.typeInfo 3) w = Go.Result.ok Go.Proofs.Try.t3 w := by intros; kernel_rfl
@[simp] theorem Tq.runUnderlying4 : ∀ (w : Go.World), Go.Sem.run Tq.prog (Go.underlying 4) w = Go.Result.ok Go.TypeDesc.bool w := by intros; kernel_rfl
@[simp] theorem Tq.type4 : Tq.prog.types[4]? = Option.some Go.Proofs.Try.t4 := by intros; kernel_rfl
@[simp] theorem Tq.typeInfo4 : ∀ (w : Go.World), Go.Sem.run Tq.prog (Go.typeInfo 4) w = Go.Result.ok Go.Proofs.Try.t4 w := by intros; kernel_rfl
@[simp] theorem Tq.runUnderlying5 : ∀ (w : Go.World), Go.Sem.run Tq.prog (Go.underlying 5) w = Go.Result.ok (Go.TypeDesc.int Go.IntKind.u8) w := by intros; kernel_rfl
@[simp] theorem Tq.type5 : Tq.prog.types[5]? = Option.some Go.Proofs.Try.t5 := by intros; kernel_rfl
@[simp] theorem Tq.typeInfo5 : ∀ (w : Go.World), Go.Sem.run Tq.prog (Go.typeInfo 5) w = Go.Result.ok Go.Proofs.Try.t5 w := by intros; kernel_rfl
@[simp] theorem Tq.zeroValue5 : ∀ (w : Go.World), Go.Sem.run Tq.prog (Go.zeroValue 5) w = Go.Result.ok (Go.Value.int Go.IntKind.u8 0) w := by intros; kernel_rfl
@[simp] theorem Tq.call8 : ∀ (args : Array Go.Value) (w : Go.World), Go.Sem.run Tq.prog (Go.callFunc 8 args) w = Go.Result.ok (Go.Next.enter 8 args) w := by intros; kernel_rfl
@[simp] theorem Tq.func8 : Tq.prog.funcs[8]? = Option.some Tq.f8 := by intros; kernel_rfl
@[simp] theorem Tq.isAgg8 : ∀ (w : Go.World), Go.Sem.run Tq.prog (Go.isAgg 8) w = Go.Result.ok Bool.true w := by intros; kernel_rfl
@[simp] theorem Tq.nfree8 : Tq.f8.nfree = 0 := by intros; kernel_rfl
@[simp] theorem Tq.ntmps8 : Tq.f8.ntmps = 144 := by intros; kernel_rfl
@[simp] theorem Tq.params8 : Tq.f8.params = #[22] := by intros; kernel_rfl
@[simp] theorem Tq.results8 : Tq.f8.results = #[Go.ResultVar.tmp 2] := by intros; kernel_rfl
@[simp] theorem Tq.runUnderlying8 : ∀ (w : Go.World), Go.Sem.run Tq.prog (Go.underlying 8) w = Go.Result.ok (Go.TypeDesc.struct #[{ name := "x", type := 2, offset := 0, embedded := Bool.false, tag := "", pkgPath := "runtime", byteOffset := 0 }, { name := "y", type := 3, offset := 1, embedded := Bool.false, tag := "", pkgPath := "runtime", byteOffset := 8 }, { name := "signed", type := 4, offset := 2, embedded := Bool.false, tag := "", pkgPath := "runtime", byteOffset := 16 }, { name := "code", type := 6, offset := 3, embedded := Bool.false, tag := "", pkgPath := "runtime", byteOffset := 17 }]) w := by intros; kernel_rfl
@[simp] theorem Tq.sizeOf8 : ∀ (w : Go.World), Go.Sem.run Tq.prog (Go.sizeOf 8) w = Go.Result.ok 4 w := by intros; kernel_rfl
@[simp] theorem Tq.type8 : Tq.prog.types[8]? = Option.some Go.Proofs.Try.t8 := by intros; kernel_rfl
@[simp] theorem Tq.typeInfo8 : ∀ (w : Go.World), Go.Sem.run Tq.prog (Go.typeInfo 8) w = Go.Result.ok Go.Proofs.Try.t8 w := by intros; kernel_rfl
@[simp] theorem Tq.underlying8 : Tq.prog.underlying 8 = Option.some (Go.TypeDesc.struct #[{ name := "x", type := 2, offset := 0, embedded := Bool.false, tag := "", pkgPath := "runtime", byteOffset := 0 }, { name := "y", type := 3, offset := 1, embedded := Bool.false, tag := "", pkgPath := "runtime", byteOffset := 8 }, { name := "signed", type := 4, offset := 2, embedded := Bool.false, tag := "", pkgPath := "runtime", byteOffset := 16 }, { name := "code", type := 6, offset := 3, embedded := Bool.false, tag := "", pkgPath := "runtime", byteOffset := 17 }]) := by intros; kernel_rfl
@[simp] theorem Tq.zeroValue8 : ∀ (w : Go.World), Go.Sem.run Tq.prog (Go.zeroValue 8) w = Go.Result.ok (Go.Value.agg #[Go.Value.int Go.IntKind.i64 0, Go.Value.int Go.IntKind.i64 0, Go.Value.bool Bool.false, Go.Value.int Go.IntKind.u8 0]) w := by intros; kernel_rfl
@[simp] theorem Tq.runUnderlying9 : ∀ (w : Go.World), Go.Sem.run Tq.prog (Go.underlying 9) w = Go.Result.ok Go.TypeDesc.string w := by intros; kernel_rfl
@[simp] theorem Tq.type9 : Tq.prog.types[9]? = Option.some Go.Proofs.Try.t9 := by intros; kernel_rfl
@[simp] theorem Tq.typeInfo9 : ∀ (w : Go.World), Go.Sem.run Tq.prog (Go.typeInfo 9) w = Go.Result.ok Go.Proofs.Try.t9 w := by intros; kernel_rfl
@[simp] theorem Tq.nfree18 : Tq.f18.nfree = 0 := by intros; kernel_rfl
@[simp] theorem Tq.params18 : Tq.f18.params = #[27] := by intros; kernel_rfl
@[simp] theorem Tq.results18 : Tq.f18.results = #[Go.ResultVar.tmp 2] := by intros; kernel_rfl
@[simp] theorem Tq.nfree19 : Tq.f19.nfree = 0 := by intros; kernel_rfl
@[simp] theorem Tq.params19 : Tq.f19.params = #[23] := by intros; kernel_rfl
@[simp] theorem Tq.results19 : Tq.f19.results = #[Go.ResultVar.tmp 2] := by intros; kernel_rfl
@[simp] theorem Tq.runUnderlying22 : ∀ (w : Go.World), Go.Sem.run Tq.prog (Go.underlying 22) w = Go.Result.ok (Go.TypeDesc.slice 5) w := by intros; kernel_rfl
@[simp] theorem Tq.type22 : Tq.prog.types[22]? = Option.some Go.Proofs.Try.t22 := by intros; kernel_rfl
@[simp] theorem Tq.typeInfo22 : ∀ (w : Go.World), Go.Sem.run Tq.prog (Go.typeInfo 22) w = Go.Result.ok Go.Proofs.Try.t22 w := by intros; kernel_rfl
@[simp] theorem Tq.zeroValue22 : ∀ (w : Go.World), Go.Sem.run Tq.prog (Go.zeroValue 22) w = Go.Result.ok (Go.Value.slice Option.none 0 0) w := by intros; kernel_rfl
@[simp] theorem Tq.type23 : Tq.prog.types[23]? = Option.some Go.Proofs.Try.t23 := by intros; kernel_rfl
@[simp] theorem Tq.typeInfo23 : ∀ (w : Go.World), Go.Sem.run Tq.prog (Go.typeInfo 23) w = Go.Result.ok Go.Proofs.Try.t23 w := by intros; kernel_rfl
@[simp] theorem Tq.type24 : Tq.prog.types[24]? = Option.some Go.Proofs.Try.t24 := by intros; kernel_rfl
@[simp] theorem Tq.typeInfo24 : ∀ (w : Go.World), Go.Sem.run Tq.prog (Go.typeInfo 24) w = Go.Result.ok Go.Proofs.Try.t24 w := by intros; kernel_rfl
@[simp] theorem Tq.zeroValue24 : ∀ (w : Go.World), Go.Sem.run Tq.prog (Go.zeroValue 24) w = Go.Result.ok (Go.Value.slice Option.none 0 0) w := by intros; kernel_rfl
@[simp] theorem Tq.call27 : ∀ (args : Array Go.Value) (w : Go.World), Go.Sem.run Tq.prog (Go.callFunc 27 args) w = Go.Result.ok (Go.Next.enter 27 args) w := by intros; kernel_rfl
@[simp] theorem Tq.func27 : Tq.prog.funcs[27]? = Option.some Tq.f27 := by intros; kernel_rfl
@[simp] theorem Tq.nfree27 : Tq.f27.nfree = 0 := by intros; kernel_rfl
@[simp] theorem Tq.ntmps27 : Tq.f27.ntmps = 29 := by intros; kernel_rfl
@[simp] theorem Tq.params27 : Tq.f27.params = #[22] := by intros; kernel_rfl
@[simp] theorem Tq.results27 : Tq.f27.results = #[Go.ResultVar.tmp 2, Go.ResultVar.tmp 3, Go.ResultVar.tmp 4] := by intros; kernel_rfl
@[simp] theorem Tq.type27 : Tq.prog.types[27]? = Option.some Go.Proofs.Try.t27 := by intros; kernel_rfl
@[simp] theorem Tq.typeInfo27 : ∀ (w : Go.World), Go.Sem.run Tq.prog (Go.typeInfo 27) w = Go.Result.ok Go.Proofs.Try.t27 w := by intros; kernel_rfl
@[simp] theorem Tq.zeroValue27 : ∀ (w : Go.World), Go.Sem.run Tq.prog (Go.zeroValue 27) w = Go.Result.ok (Go.Value.slice Option.none 0 0) w := by intros; kernel_rfl
@[simp] theorem Tq.call28 : ∀ (args : Array Go.Value) (w : Go.World), Go.Sem.run Tq.prog (Go.callFunc 28 args) w = Go.Result.ok (Go.Next.enter 28 args) w := by intros; kernel_rfl
@[simp] theorem Tq.func28 : Tq.prog.funcs[28]? = Option.some Tq.f28 := by intros; kernel_rfl
@[simp] theorem Tq.nfree28 : Tq.f28.nfree = 0 := by intros; kernel_rfl
@[simp] theorem Tq.ntmps28 : Tq.f28.ntmps = 20 := by intros; kernel_rfl
@[simp] theorem Tq.params28 : Tq.f28.params = #[23, 3, 3] := by intros; kernel_rfl
@[simp] theorem Tq.results28 : Tq.f28.results = #[Go.ResultVar.tmp 6, Go.ResultVar.tmp 7] := by intros; kernel_rfl
@[simp] theorem Tq.call29 : ∀ (args : Array Go.Value) (w : Go.World), Go.Sem.run Tq.prog (Go.callFunc 29 args) w = Go.Result.ok (Go.Next.enter 29 args) w := by intros; kernel_rfl
@[simp] theorem Tq.func29 : Tq.prog.funcs[29]? = Option.some Tq.f29 := by intros; kernel_rfl
@[simp] theorem Tq.nfree29 : Tq.f29.nfree = 0 := by intros; kernel_rfl
@[simp] theorem Tq.ntmps29 : Tq.f29.ntmps = 22 := by intros; kernel_rfl
@[simp] theorem Tq.params29 : Tq.f29.params = #[23, 3, 3] := by intros; kernel_rfl
@[simp] theorem Tq.results29 : Tq.f29.results = #[Go.ResultVar.tmp 6, Go.ResultVar.tmp 7] := by intros; kernel_rfl
@[simp] theorem Tq.nfree48 : Tq.f48.nfree = 0 := by intros; kernel_rfl
@[simp] theorem Tq.params48 : Tq.f48.params = #[61, 3] := by intros; kernel_rfl
@[simp] theorem Tq.results48 : Tq.f48.results = #[Go.ResultVar.tmp 4] := by intros; kernel_rfl
@[simp] theorem Tq.type48 : Tq.prog.types[48]? = Option.some Go.Proofs.Try.t48 := by intros; kernel_rfl
@[simp] theorem Tq.typeInfo48 : ∀ (w : Go.World), Go.Sem.run Tq.prog (Go.typeInfo 48) w = Go.Result.ok Go.Proofs.Try.t48 w := by intros; kernel_rfl
@[simp] theorem Tq.call61 : ∀ (args : Array Go.Value) (w : Go.World), Go.Sem.run Tq.prog (Go.callFunc 61 args) w = Go.Result.ok (Go.Next.enter 61 args) w := by intros; kernel_rfl
@[simp] theorem Tq.func61 : Tq.prog.funcs[61]? = Option.some Tq.f61 := by intros; kernel_rfl
@[simp] theorem Tq.isAgg61 : ∀ (w : Go.World), Go.Sem.run Tq.prog (Go.isAgg 61) w = Go.Result.ok Bool.false w := by intros; kernel_rfl
@[simp] theorem Tq.nfree61 : Tq.f61.nfree = 0 := by intros; kernel_rfl
@[simp] theorem Tq.ntmps61 : Tq.f61.ntmps = 21 := by intros; kernel_rfl
@[simp] theorem Tq.params61 : Tq.f61.params = #[61] := by intros; kernel_rfl
@[simp] theorem Tq.results61 : Tq.f61.results = #[Go.ResultVar.tmp 2, Go.ResultVar.tmp 3] := by intros; kernel_rfl
@[simp] theorem Tq.runUnderlying61 : ∀ (w : Go.World), Go.Sem.run Tq.prog (Go.underlying 61) w = Go.Result.ok (Go.TypeDesc.pointer 89) w := by intros; kernel_rfl
@[simp] theorem Tq.sizeOf61 : ∀ (w : Go.World), Go.Sem.run Tq.prog (Go.sizeOf 61) w = Go.Result.ok 1 w := by intros; kernel_rfl
@[simp] theorem Tq.type61 : Tq.prog.types[61]? = Option.some Go.Proofs.Try.t61 := by intros; kernel_rfl
@[simp] theorem Tq.typeInfo61 : ∀ (w : Go.World), Go.Sem.run Tq.prog (Go.typeInfo 61) w = Go.Result.ok Go.Proofs.Try.t61 w := by intros; kernel_rfl
@[simp] theorem Tq.underlying61 : Tq.prog.underlying 61 = Option.some (Go.TypeDesc.pointer 89) := by intros; kernel_rfl
@[simp] theorem Tq.zeroValue61 : ∀ (w : Go.World), Go.Sem.run Tq.prog (Go.zeroValue 61) w = Go.Result.ok (Go.Value.pointer Option.none) w := by intros; kernel_rfl
@[simp] theorem Tq.call62 : ∀ (args : Array Go.Value) (w : Go.World), Go.Sem.run Tq.prog (Go.callFunc 62 args) w = Go.Result.ok (Go.Next.enter 62 args) w := by intros; kernel_rfl
@[simp] theorem Tq.func62 : Tq.prog.funcs[62]? = Option.some Tq.f62 := by intros; kernel_rfl
@[simp] theorem Tq.nfree62 : Tq.f62.nfree = 0 := by intros; kernel_rfl
@[simp] theorem Tq.ntmps62 : Tq.f62.ntmps = 60 := by intros; kernel_rfl
@[simp] theorem Tq.params62 : Tq.f62.params = #[23, 3, 3] := by intros; kernel_rfl
@[simp] theorem Tq.results62 : Tq.f62.results = #[Go.ResultVar.tmp 6, Go.ResultVar.tmp 7] := by intros; kernel_rfl
@[simp] theorem Tq.call64 : ∀ (args : Array Go.Value) (w : Go.World), Go.Sem.run Tq.prog (Go.callFunc 64 args) w = Go.Result.ok (Go.Next.enter 64 args) w := by intros; kernel_rfl
@[simp] theorem Tq.func64 : Tq.prog.funcs[64]? = Option.some Tq.f64 := by intros; kernel_rfl
@[simp] theorem Tq.nfree64 : Tq.f64.nfree = 0 := by intros; kernel_rfl
@[simp] theorem Tq.ntmps64 : Tq.f64.ntmps = 60 := by intros; kernel_rfl
@[simp] theorem Tq.params64 : Tq.f64.params = #[23, 3, 3] := by intros; kernel_rfl
@[simp] theorem Tq.results64 : Tq.f64.results = #[Go.ResultVar.tmp 6] := by intros; kernel_rfl
@[simp] theorem Tq.isAgg89 : ∀ (w : Go.World), Go.Sem.run Tq.prog (Go.isAgg 89) w = Go.Result.ok Bool.true w := by intros; kernel_rfl
@[simp] theorem Tq.sizeOf89 : ∀ (w : Go.World), Go.Sem.run Tq.prog (Go.sizeOf 89) w = Go.Result.ok 2 w := by intros; kernel_rfl
@[simp] theorem Tq.type89 : Tq.prog.types[89]? = Option.some Go.Proofs.Try.t89 := by intros; kernel_rfl
@[simp] theorem Tq.typeInfo89 : ∀ (w : Go.World), Go.Sem.run Tq.prog (Go.typeInfo 89) w = Go.Result.ok Go.Proofs.Try.t89 w := by intros; kernel_rfl
@[simp] theorem Tq.underlying89 : Tq.prog.underlying 89 = Option.some (Go.TypeDesc.struct #[{ name := "b", type := 22, offset := 0, embedded := Bool.false, tag := "", pkgPath := "loop.example/tallyaudit/spec", byteOffset := 0 }, { name := "p", type := 3, offset := 1, embedded := Bool.false, tag := "", pkgPath := "loop.example/tallyaudit/spec", byteOffset := 24 }]) := by intros; kernel_rfl
@[simp] theorem Tq.call98 : ∀ (args : Array Go.Value) (w : Go.World), Go.Sem.run Tq.prog (Go.callFunc 98 args) w = Go.Result.ok (Go.Next.enter 98 args) w := by intros; kernel_rfl
@[simp] theorem Tq.func98 : Tq.prog.funcs[98]? = Option.some Tq.f98 := by intros; kernel_rfl
@[simp] theorem Tq.nfree98 : Tq.f98.nfree = 0 := by intros; kernel_rfl
@[simp] theorem Tq.ntmps98 : Tq.f98.ntmps = 12 := by intros; kernel_rfl
@[simp] theorem Tq.params98 : Tq.f98.params = #[] := by intros; kernel_rfl
@[simp] theorem Tq.results98 : Tq.f98.results = #[Go.ResultVar.cell 0 116] := by intros; kernel_rfl
@[simp] theorem Tq.isAgg115 : ∀ (w : Go.World), Go.Sem.run Tq.prog (Go.isAgg 115) w = Go.Result.ok Bool.false w := by intros; kernel_rfl
@[simp] theorem Tq.runUnderlying115 : ∀ (w : Go.World), Go.Sem.run Tq.prog (Go.underlying 115) w = Go.Result.ok (Go.TypeDesc.func #[3, 3] #[3] Bool.false) w := by intros; kernel_rfl
@[simp] theorem Tq.sizeOf115 : ∀ (w : Go.World), Go.Sem.run Tq.prog (Go.sizeOf 115) w = Go.Result.ok 1 w := by intros; kernel_rfl
@[simp] theorem Tq.type115 : Tq.prog.types[115]? = Option.some Go.Proofs.Try.t115 := by intros; kernel_rfl
@[simp] theorem Tq.typeInfo115 : ∀ (w : Go.World), Go.Sem.run Tq.prog (Go.typeInfo 115) w = Go.Result.ok Go.Proofs.Try.t115 w := by intros; kernel_rfl
@[simp] theorem Tq.underlying115 : Tq.prog.underlying 115 = Option.some (Go.TypeDesc.func #[3, 3] #[3] Bool.false) := by intros; kernel_rfl
@[simp] theorem Tq.zeroValue115 : ∀ (w : Go.World), Go.Sem.run Tq.prog (Go.zeroValue 115) w = Go.Result.ok Go.Value.nilFunc w := by intros; kernel_rfl
@[simp] theorem Tq.isAgg116 : ∀ (w : Go.World), Go.Sem.run Tq.prog (Go.isAgg 116) w = Go.Result.ok Bool.true w := by intros; kernel_rfl
@[simp] theorem Tq.runUnderlying116 : ∀ (w : Go.World), Go.Sem.run Tq.prog (Go.underlying 116) w = Go.Result.ok (Go.TypeDesc.array 8 115) w := by intros; kernel_rfl
@[simp] theorem Tq.sizeOf116 : ∀ (w : Go.World), Go.Sem.run Tq.prog (Go.sizeOf 116) w = Go.Result.ok 8 w := by intros; kernel_rfl
@[simp] theorem Tq.type116 : Tq.prog.types[116]? = Option.some Go.Proofs.Try.t116 := by intros; kernel_rfl
@[simp] theorem Tq.typeInfo116 : ∀ (w : Go.World), Go.Sem.run Tq.prog (Go.typeInfo 116) w = Go.Result.ok Go.Proofs.Try.t116 w := by intros; kernel_rfl
@[simp] theorem Tq.underlying116 : Tq.prog.underlying 116 = Option.some (Go.TypeDesc.array 8 115) := by intros; kernel_rfl
@[simp] theorem Tq.zeroValue116 : ∀ (w : Go.World), Go.Sem.run Tq.prog (Go.zeroValue 116) w = Go.Result.ok (Go.Value.agg #[Go.Value.nilFunc, Go.Value.nilFunc, Go.Value.nilFunc, Go.Value.nilFunc, Go.Value.nilFunc, Go.Value.nilFunc, Go.Value.nilFunc, Go.Value.nilFunc]) w := by intros; kernel_rfl
@[simp] theorem Tq.call127 : ∀ (args : Array Go.Value) (w : Go.World), Go.Sem.run Tq.prog (Go.callFunc 127 args) w = Go.Result.ok (Go.Next.enter 127 args) w := by intros; kernel_rfl
@[simp] theorem Tq.func127 : Tq.prog.funcs[127]? = Option.some Tq.f127 := by intros; kernel_rfl
@[simp] theorem Tq.nfree127 : Tq.f127.nfree = 0 := by intros; kernel_rfl
@[simp] theorem Tq.ntmps127 : Tq.f127.ntmps = 9 := by intros; kernel_rfl
@[simp] theorem Tq.params127 : Tq.f127.params = #[3, 3] := by intros; kernel_rfl
@[simp] theorem Tq.results127 : Tq.f127.results = #[Go.ResultVar.tmp 4] := by intros; kernel_rfl
@[simp] theorem Tq.call128 : ∀ (args : Array Go.Value) (w : Go.World), Go.Sem.run Tq.prog (Go.callFunc 128 args) w = Go.Result.ok (Go.Next.enter 128 args) w := by intros; kernel_rfl
@[simp] theorem Tq.func128 : Tq.prog.funcs[128]? = Option.some Tq.f128 := by intros; kernel_rfl
@[simp] theorem Tq.nfree128 : Tq.f128.nfree = 0 := by intros; kernel_rfl
@[simp] theorem Tq.ntmps128 : Tq.f128.ntmps = 10 := by intros; kernel_rfl
@[simp] theorem Tq.params128 : Tq.f128.params = #[3, 3] := by intros; kernel_rfl
@[simp] theorem Tq.results128 : Tq.f128.results = #[Go.ResultVar.tmp 4] := by intros; kernel_rfl
@[simp] theorem Tq.call129 : ∀ (args : Array Go.Value) (w : Go.World), Go.Sem.run Tq.prog (Go.callFunc 129 args) w = Go.Result.ok (Go.Next.enter 129 args) w := by intros; kernel_rfl
@[simp] theorem Tq.func129 : Tq.prog.funcs[129]? = Option.some Tq.f129 := by intros; kernel_rfl
@[simp] theorem Tq.nfree129 : Tq.f129.nfree = 0 := by intros; kernel_rfl
@[simp] theorem Tq.ntmps129 : Tq.f129.ntmps = 4 := by intros; kernel_rfl
@[simp] theorem Tq.params129 : Tq.f129.params = #[4] := by intros; kernel_rfl
@[simp] theorem Tq.results129 : Tq.f129.results = #[Go.ResultVar.tmp 2] := by intros; kernel_rfl
@[simp] theorem Tq.call130 : ∀ (args : Array Go.Value) (w : Go.World), Go.Sem.run Tq.prog (Go.callFunc 130 args) w = Go.Result.ok (Go.Next.enter 130 args) w := by intros; kernel_rfl
@[simp] theorem Tq.func130 : Tq.prog.funcs[130]? = Option.some Tq.f130 := by intros; kernel_rfl
@[simp] theorem Tq.nfree130 : Tq.f130.nfree = 1 := by intros; kernel_rfl
@[simp] theorem Tq.ntmps130 : Tq.f130.ntmps = 10 := by intros; kernel_rfl
@[simp] theorem Tq.params130 : Tq.f130.params = #[3, 3] := by intros; kernel_rfl
@[simp] theorem Tq.results130 : Tq.f130.results = #[Go.ResultVar.tmp 5] := by intros; kernel_rfl
end Go.Proofs
