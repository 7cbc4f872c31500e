/-
  Facts of the program with our own function: of functions and types that a further statement names.
-/
import Derived.Test.YtgkakgibgfehaaaSh32
import Derived.KernelRfl
namespace Go.Proofs
set_option maxRecDepth 100000
noncomputable abbrev Tq.f7 : Func := Try.f7
noncomputable abbrev Tq.f21 : Func := Try.f21
noncomputable abbrev Tq.f24 : Func := Try.f24
noncomputable abbrev Tq.f25 : Func := Try.f25
noncomputable abbrev Tq.f26 : Func := Try.f26
noncomputable abbrev Tq.f56 : Func := Try.f56
noncomputable abbrev Tq.f57 : Func := Try.f57
noncomputable abbrev Tq.f58 : Func := Try.f58
noncomputable abbrev Tq.f59 : Func := Try.f59
noncomputable abbrev Tq.f60 : Func := Try.f60
noncomputable abbrev Tq.f65 : Func := Try.f65
noncomputable abbrev Tq.f66 : Func := Try.f66
noncomputable abbrev Tq.f69 : Func := Try.f69
noncomputable abbrev Tq.f70 : Func := Try.f70
noncomputable abbrev Tq.f71 : Func := Try.f71
noncomputable abbrev Tq.f95 : Func := Try.f95
noncomputable abbrev Tq.f96 : Func := Try.f96
noncomputable abbrev Tq.f126 : Func := Try.f126
@[simp] theorem Tq.runUnderlying3 : ∀ (w : Go.World), Go.Sem.run Tq.prog (Go.underlying 3) w = Go.Result.ok (Go.TypeDesc.int Go.IntKind.i64) w := by intros; kernel_rfl
@[simp] theorem Tq.type3 : Tq.prog.types[3]? = Option.some Go.Proofs.Try.t3 := by intros; kernel_rfl
@[simp] theorem Tq.typeInfo3 : ∀ (w : Go.World), Go.Sem.run Tq.prog (Go.typeInfo 3) w = Go.Result.ok Go.Proofs.Try.t3 w := by intros; kernel_rfl
@[simp] theorem Tq.runUnderlying4 : ∀ (w : Go.World), Go.Sem.run Tq.prog (Go.underlying 4) w = Go.Result.ok Go.TypeDesc.bool w := by intros; kernel_rfl
@[simp] theorem Tq.type4 : Tq.prog.types[4]? = Option.some Go.Proofs.Try.t4 := by intros; kernel_rfl
@[simp] theorem Tq.typeInfo4 : ∀ (w : Go.World), Go.Sem.run Tq.prog (Go.typeInfo 4) w = Go.Result.ok Go.Proofs.Try.t4 w := by intros; kernel_rfl
@[simp] theorem Tq.runUnderlying5 : ∀ (w : Go.World), Go.Sem.run Tq.prog (Go.underlying 5) w = Go.Result.ok (Go.TypeDesc.int Go.IntKind.u8) w := by intros; kernel_rfl
@[simp] theorem Tq.type5 : Tq.prog.types[5]? = Option.some Go.Proofs.Try.t5 := by intros; kernel_rfl
@[simp] theorem Tq.typeInfo5 : ∀ (w : Go.World), Go.Sem.run Tq.prog (Go.typeInfo 5) w = Go.Result.ok Go.Proofs.Try.t5 w := by intros; kernel_rfl
@[simp] theorem Tq.zeroValue5 : ∀ (w : Go.World), Go.Sem.run Tq.prog (Go.zeroValue 5) w = Go.Result.ok (Go.Value.int Go.IntKind.u8 0) w := by intros; kernel_rfl
@[simp] theorem Tq.call7 : ∀ (args : Array Go.Value) (w : Go.World), Go.Sem.run Tq.prog (Go.callFunc 7 args) w = Go.Result.ok (Go.Next.enter 7 args) w := by intros; kernel_rfl
@[simp] theorem Tq.func7 : Tq.prog.funcs[7]? = Option.some Tq.f7 := by intros; kernel_rfl
@[simp] theorem Tq.nfree7 : Tq.f7.nfree = 0 := by intros; kernel_rfl
@[simp] theorem Tq.ntmps7 : Tq.f7.ntmps = 116 := by intros; kernel_rfl
@[simp] theorem Tq.params7 : Tq.f7.params = #[22] := by intros; kernel_rfl
@[simp] theorem Tq.results7 : Tq.f7.results = #[Go.ResultVar.tmp 2] := by intros; kernel_rfl
@[simp] theorem Tq.call21 : ∀ (args : Array Go.Value) (w : Go.World), Go.Sem.run Tq.prog (Go.callFunc 21 args) w = Go.Result.ok (Go.Next.enter 21 args) w := by intros; kernel_rfl
@[simp] theorem Tq.func21 : Tq.prog.funcs[21]? = Option.some Tq.f21 := by intros; kernel_rfl
@[simp] theorem Tq.nfree21 : Tq.f21.nfree = 0 := by intros; kernel_rfl
@[simp] theorem Tq.ntmps21 : Tq.f21.ntmps = 18 := by intros; kernel_rfl
@[simp] theorem Tq.params21 : Tq.f21.params = #[23, 27] := by intros; kernel_rfl
@[simp] theorem Tq.results21 : Tq.f21.results = #[Go.ResultVar.tmp 4] := by intros; kernel_rfl
@[simp] theorem Tq.runUnderlying22 : ∀ (w : Go.World), Go.Sem.run Tq.prog (Go.underlying 22) w = Go.Result.ok (Go.TypeDesc.slice 5) w := by intros; kernel_rfl
@[simp] theorem Tq.type22 : Tq.prog.types[22]? = Option.some Go.Proofs.Try.t22 := by intros; kernel_rfl
@[simp] theorem Tq.typeInfo22 : ∀ (w : Go.World), Go.Sem.run Tq.prog (Go.typeInfo 22) w = Go.Result.ok Go.Proofs.Try.t22 w := by intros; kernel_rfl
@[simp] theorem Tq.zeroValue22 : ∀ (w : Go.World), Go.Sem.run Tq.prog (Go.zeroValue 22) w = Go.Result.ok (Go.Value.slice Option.none 0 0) w := by intros; kernel_rfl
@[simp] theorem Tq.type23 : Tq.prog.types[23]? = Option.some Go.Proofs.Try.t23 := by intros; kernel_rfl
@[simp] theorem Tq.typeInfo23 : ∀ (w : Go.World), Go.Sem.run Tq.prog (Go.typeInfo 23) w = Go.Result.ok Go.Proofs.Try.t23 w := by intros; kernel_rfl
@[simp] theorem Tq.call24 : ∀ (args : Array Go.Value) (w : Go.World), Go.Sem.run Tq.prog (Go.callFunc 24 args) w = Go.Result.ok (Go.Next.enter 24 args) w := by intros; kernel_rfl
@[simp] theorem Tq.func24 : Tq.prog.funcs[24]? = Option.some Tq.f24 := by intros; kernel_rfl
@[simp] theorem Tq.nfree24 : Tq.f24.nfree = 0 := by intros; kernel_rfl
@[simp] theorem Tq.ntmps24 : Tq.f24.ntmps = 9 := by intros; kernel_rfl
@[simp] theorem Tq.params24 : Tq.f24.params = #[22] := by intros; kernel_rfl
@[simp] theorem Tq.results24 : Tq.f24.results = #[Go.ResultVar.tmp 2, Go.ResultVar.tmp 3] := by intros; kernel_rfl
@[simp] theorem Tq.type24 : Tq.prog.types[24]? = Option.some Go.Proofs.Try.t24 := by intros; kernel_rfl
@[simp] theorem Tq.typeInfo24 : ∀ (w : Go.World), Go.Sem.run Tq.prog (Go.typeInfo 24) w = Go.Result.ok Go.Proofs.Try.t24 w := by intros; kernel_rfl
@[simp] theorem Tq.zeroValue24 : ∀ (w : Go.World), Go.Sem.run Tq.prog (Go.zeroValue 24) w = Go.Result.ok (Go.Value.slice Option.none 0 0) w := by intros; kernel_rfl
@[simp] theorem Tq.call25 : ∀ (args : Array Go.Value) (w : Go.World), Go.Sem.run Tq.prog (Go.callFunc 25 args) w = Go.Result.ok (Go.Next.enter 25 args) w := by intros; kernel_rfl
@[simp] theorem Tq.func25 : Tq.prog.funcs[25]? = Option.some Tq.f25 := by intros; kernel_rfl
@[simp] theorem Tq.nfree25 : Tq.f25.nfree = 0 := by intros; kernel_rfl
@[simp] theorem Tq.ntmps25 : Tq.f25.ntmps = 42 := by intros; kernel_rfl
@[simp] theorem Tq.params25 : Tq.f25.params = #[23, 27] := by intros; kernel_rfl
@[simp] theorem Tq.results25 : Tq.f25.results = #[Go.ResultVar.tmp 4] := by intros; kernel_rfl
@[simp] theorem Tq.call26 : ∀ (args : Array Go.Value) (w : Go.World), Go.Sem.run Tq.prog (Go.callFunc 26 args) w = Go.Result.ok (Go.Next.enter 26 args) w := by intros; kernel_rfl
@[simp] theorem Tq.func26 : Tq.prog.funcs[26]? = Option.some Tq.f26 := by intros; kernel_rfl
@[simp] theorem Tq.nfree26 : Tq.f26.nfree = 0 := by intros; kernel_rfl
@[simp] theorem Tq.ntmps26 : Tq.f26.ntmps = 48 := by intros; kernel_rfl
@[simp] theorem Tq.params26 : Tq.f26.params = #[23, 27] := by intros; kernel_rfl
@[simp] theorem Tq.results26 : Tq.f26.results = #[Go.ResultVar.tmp 4] := by intros; kernel_rfl
@[simp] theorem Tq.type27 : Tq.prog.types[27]? = Option.some Go.Proofs.Try.t27 := by intros; kernel_rfl
@[simp] theorem Tq.typeInfo27 : ∀ (w : Go.World), Go.Sem.run Tq.prog (Go.typeInfo 27) w = Go.Result.ok Go.Proofs.Try.t27 w := by intros; kernel_rfl
@[simp] theorem Tq.zeroValue27 : ∀ (w : Go.World), Go.Sem.run Tq.prog (Go.zeroValue 27) w = Go.Result.ok (Go.Value.slice Option.none 0 0) w := by intros; kernel_rfl
@[simp] theorem Tq.type48 : Tq.prog.types[48]? = Option.some Go.Proofs.Try.t48 := by intros; kernel_rfl
@[simp] theorem Tq.typeInfo48 : ∀ (w : Go.World), Go.Sem.run Tq.prog (Go.typeInfo 48) w = Go.Result.ok Go.Proofs.Try.t48 w := by intros; kernel_rfl
@[simp] theorem Tq.call56 : ∀ (args : Array Go.Value) (w : Go.World), Go.Sem.run Tq.prog (Go.callFunc 56 args) w = Go.Result.ok (Go.Next.enter 56 args) w := by intros; kernel_rfl
@[simp] theorem Tq.func56 : Tq.prog.funcs[56]? = Option.some Tq.f56 := by intros; kernel_rfl
@[simp] theorem Tq.nfree56 : Tq.f56.nfree = 0 := by intros; kernel_rfl
@[simp] theorem Tq.ntmps56 : Tq.f56.ntmps = 28 := by intros; kernel_rfl
@[simp] theorem Tq.params56 : Tq.f56.params = #[61] := by intros; kernel_rfl
@[simp] theorem Tq.results56 : Tq.f56.results = #[Go.ResultVar.tmp 2, Go.ResultVar.tmp 3] := by intros; kernel_rfl
@[simp] theorem Tq.call57 : ∀ (args : Array Go.Value) (w : Go.World), Go.Sem.run Tq.prog (Go.callFunc 57 args) w = Go.Result.ok (Go.Next.enter 57 args) w := by intros; kernel_rfl
@[simp] theorem Tq.func57 : Tq.prog.funcs[57]? = Option.some Tq.f57 := by intros; kernel_rfl
@[simp] theorem Tq.nfree57 : Tq.f57.nfree = 0 := by intros; kernel_rfl
@[simp] theorem Tq.ntmps57 : Tq.f57.ntmps = 16 := by intros; kernel_rfl
@[simp] theorem Tq.params57 : Tq.f57.params = #[23, 27] := by intros; kernel_rfl
@[simp] theorem Tq.results57 : Tq.f57.results = #[Go.ResultVar.tmp 4, Go.ResultVar.tmp 5] := by intros; kernel_rfl
@[simp] theorem Tq.call58 : ∀ (args : Array Go.Value) (w : Go.World), Go.Sem.run Tq.prog (Go.callFunc 58 args) w = Go.Result.ok (Go.Next.enter 58 args) w := by intros; kernel_rfl
@[simp] theorem Tq.func58 : Tq.prog.funcs[58]? = Option.some Tq.f58 := by intros; kernel_rfl
@[simp] theorem Tq.nfree58 : Tq.f58.nfree = 0 := by intros; kernel_rfl
@[simp] theorem Tq.ntmps58 : Tq.f58.ntmps = 31 := by intros; kernel_rfl
@[simp] theorem Tq.params58 : Tq.f58.params = #[27, 27] := by intros; kernel_rfl
@[simp] theorem Tq.results58 : Tq.f58.results = #[Go.ResultVar.tmp 4] := by intros; kernel_rfl
@[simp] theorem Tq.call59 : ∀ (args : Array Go.Value) (w : Go.World), Go.Sem.run Tq.prog (Go.callFunc 59 args) w = Go.Result.ok (Go.Next.enter 59 args) w := by intros; kernel_rfl
@[simp] theorem Tq.func59 : Tq.prog.funcs[59]? = Option.some Tq.f59 := by intros; kernel_rfl
@[simp] theorem Tq.nfree59 : Tq.f59.nfree = 0 := by intros; kernel_rfl
@[simp] theorem Tq.ntmps59 : Tq.f59.ntmps = 32 := by intros; kernel_rfl
@[simp] theorem Tq.params59 : Tq.f59.params = #[27] := by intros; kernel_rfl
@[simp] theorem Tq.results59 : Tq.f59.results = #[Go.ResultVar.tmp 2] := by intros; kernel_rfl
@[simp] theorem Tq.call60 : ∀ (args : Array Go.Value) (w : Go.World), Go.Sem.run Tq.prog (Go.callFunc 60 args) w = Go.Result.ok (Go.Next.enter 60 args) w := by intros; kernel_rfl
@[simp] theorem Tq.func60 : Tq.prog.funcs[60]? = Option.some Tq.f60 := by intros; kernel_rfl
@[simp] theorem Tq.nfree60 : Tq.f60.nfree = 0 := by intros; kernel_rfl
@[simp] theorem Tq.ntmps60 : Tq.f60.ntmps = 18 := by intros; kernel_rfl
@[simp] theorem Tq.params60 : Tq.f60.params = #[23, 27] := by intros; kernel_rfl
@[simp] theorem Tq.results60 : Tq.f60.results = #[Go.ResultVar.tmp 4] := by intros; kernel_rfl
@[simp] theorem Tq.isAgg61 : ∀ (w : Go.World), Go.Sem.run Tq.prog (Go.isAgg 61) w = Go.Result.ok Bool.false w := by intros; kernel_rfl
@[simp] theorem Tq.runUnderlying61 : ∀ (w : Go.World), Go.Sem.run Tq.prog (Go.underlying 61) w = Go.Result.ok (Go.TypeDesc.pointer 89) w := by intros; kernel_rfl
@[simp] theorem Tq.sizeOf61 : ∀ (w : Go.World), Go.Sem.run Tq.prog (Go.sizeOf 61) w = Go.Result.ok 1 w := by intros; kernel_rfl
@[simp] theorem Tq.type61 : Tq.prog.types[61]? = Option.some Go.Proofs.Try.t61 := by intros; kernel_rfl
@[simp] theorem Tq.typeInfo61 : ∀ (w : Go.World), Go.Sem.run Tq.prog (Go.typeInfo 61) w = Go.Result.ok Go.Proofs.Try.t61 w := by intros; kernel_rfl
@[simp] theorem Tq.underlying61 : Tq.prog.underlying 61 = Option.some (Go.TypeDesc.pointer 89) := by intros; kernel_rfl
@[simp] theorem Tq.zeroValue61 : ∀ (w : Go.World), Go.Sem.run Tq.prog (Go.zeroValue 61) w = Go.Result.ok (Go.Value.pointer Option.none) w := by intros; kernel_rfl
@[simp] theorem Tq.nfree63 : Tq.f63.nfree = 0 := by intros; kernel_rfl
@[simp] theorem Tq.params63 : Tq.f63.params = #[3, 3, 3] := by intros; kernel_rfl
@[simp] theorem Tq.results63 : Tq.f63.results = #[Go.ResultVar.tmp 6] := by intros; kernel_rfl
@[simp] theorem Tq.call65 : ∀ (args : Array Go.Value) (w : Go.World), Go.Sem.run Tq.prog (Go.callFunc 65 args) w = Go.Result.ok (Go.Next.enter 65 args) w := by intros; kernel_rfl
@[simp] theorem Tq.func65 : Tq.prog.funcs[65]? = Option.some Tq.f65 := by intros; kernel_rfl
@[simp] theorem Tq.nfree65 : Tq.f65.nfree = 0 := by intros; kernel_rfl
@[simp] theorem Tq.ntmps65 : Tq.f65.ntmps = 7 := by intros; kernel_rfl
@[simp] theorem Tq.params65 : Tq.f65.params = #[27] := by intros; kernel_rfl
@[simp] theorem Tq.results65 : Tq.f65.results = #[Go.ResultVar.tmp 2] := by intros; kernel_rfl
@[simp] theorem Tq.call66 : ∀ (args : Array Go.Value) (w : Go.World), Go.Sem.run Tq.prog (Go.callFunc 66 args) w = Go.Result.ok (Go.Next.enter 66 args) w := by intros; kernel_rfl
@[simp] theorem Tq.func66 : Tq.prog.funcs[66]? = Option.some Tq.f66 := by intros; kernel_rfl
@[simp] theorem Tq.nfree66 : Tq.f66.nfree = 0 := by intros; kernel_rfl
@[simp] theorem Tq.ntmps66 : Tq.f66.ntmps = 25 := by intros; kernel_rfl
@[simp] theorem Tq.params66 : Tq.f66.params = #[27] := by intros; kernel_rfl
@[simp] theorem Tq.results66 : Tq.f66.results = #[Go.ResultVar.tmp 2] := by intros; kernel_rfl
@[simp] theorem Tq.call69 : ∀ (args : Array Go.Value) (w : Go.World), Go.Sem.run Tq.prog (Go.callFunc 69 args) w = Go.Result.ok (Go.Next.enter 69 args) w := by intros; kernel_rfl
@[simp] theorem Tq.func69 : Tq.prog.funcs[69]? = Option.some Tq.f69 := by intros; kernel_rfl
@[simp] theorem Tq.nfree69 : Tq.f69.nfree = 0 := by intros; kernel_rfl
@[simp] theorem Tq.ntmps69 : Tq.f69.ntmps = 23 := by intros; kernel_rfl
@[simp] theorem Tq.params69 : Tq.f69.params = #[27, 24] := by intros; kernel_rfl
@[simp] theorem Tq.results69 : Tq.f69.results = #[Go.ResultVar.tmp 4] := by intros; kernel_rfl
@[simp] theorem Tq.call70 : ∀ (args : Array Go.Value) (w : Go.World), Go.Sem.run Tq.prog (Go.callFunc 70 args) w = Go.Result.ok (Go.Next.enter 70 args) w := by intros; kernel_rfl
@[simp] theorem Tq.func70 : Tq.prog.funcs[70]? = Option.some Tq.f70 := by intros; kernel_rfl
@[simp] theorem Tq.nfree70 : Tq.f70.nfree = 0 := by intros; kernel_rfl
@[simp] theorem Tq.ntmps70 : Tq.f70.ntmps = 48 := by intros; kernel_rfl
@[simp] theorem Tq.params70 : Tq.f70.params = #[27, 24] := by intros; kernel_rfl
@[simp] theorem Tq.results70 : Tq.f70.results = #[Go.ResultVar.tmp 4] := by intros; kernel_rfl
@[simp] theorem Tq.call71 : ∀ (args : Array Go.Value) (w : Go.World), Go.Sem.run Tq.prog (Go.callFunc 71 args) w = Go.Result.ok (Go.Next.enter 71 args) w := by intros; kernel_rfl
@[simp] theorem Tq.func71 : Tq.prog.funcs[71]? = Option.some Tq.f71 := by intros; kernel_rfl
@[simp] theorem Tq.nfree71 : Tq.f71.nfree = 0 := by intros; kernel_rfl
@[simp] theorem Tq.ntmps71 : Tq.f71.ntmps = 15 := by intros; kernel_rfl
@[simp] theorem Tq.params71 : Tq.f71.params = #[3] := by intros; kernel_rfl
@[simp] theorem Tq.results71 : Tq.f71.results = #[Go.ResultVar.tmp 2] := by intros; kernel_rfl
@[simp] theorem Tq.isAgg89 : ∀ (w : Go.World), Go.Sem.run Tq.prog (Go.isAgg 89) w = Go.Result.ok Bool.true w := by intros; kernel_rfl
@[simp] theorem Tq.sizeOf89 : ∀ (w : Go.World), Go.Sem.run Tq.prog (Go.sizeOf 89) w = Go.Result.ok 2 w := by intros; kernel_rfl
@[simp] theorem Tq.type89 : Tq.prog.types[89]? = Option.some Go.Proofs.Try.t89 := by intros; kernel_rfl
@[simp] theorem Tq.typeInfo89 : ∀ (w : Go.World), Go.Sem.run Tq.prog (Go.typeInfo 89) w = Go.Result.ok Go.Proofs.Try.t89 w := by intros; kernel_rfl
@[simp] theorem Tq.underlying89 : Tq.prog.underlying 89 = Option.some (Go.TypeDesc.struct #[{ name := "b", type := 22, offset := 0, embedded := Bool.false, tag := "", pkgPath := "loop.example/tallyaudit/spec", byteOffset := 0 }, { name := "p", type := 3, offset := 1, embedded := Bool.false, tag := "", pkgPath := "loop.example/tallyaudit/spec", byteOffset := 24 }]) := by intros; kernel_rfl
@[simp] theorem Tq.call95 : ∀ (args : Array Go.Value) (w : Go.World), Go.Sem.run Tq.prog (Go.callFunc 95 args) w = Go.Result.ok (Go.Next.enter 95 args) w := by intros; kernel_rfl
@[simp] theorem Tq.func95 : Tq.prog.funcs[95]? = Option.some Tq.f95 := by intros; kernel_rfl
@[simp] theorem Tq.nfree95 : Tq.f95.nfree = 0 := by intros; kernel_rfl
@[simp] theorem Tq.ntmps95 : Tq.f95.ntmps = 41 := by intros; kernel_rfl
@[simp] theorem Tq.params95 : Tq.f95.params = #[61, 3] := by intros; kernel_rfl
@[simp] theorem Tq.results95 : Tq.f95.results = #[Go.ResultVar.tmp 4] := by intros; kernel_rfl
@[simp] theorem Tq.call96 : ∀ (args : Array Go.Value) (w : Go.World), Go.Sem.run Tq.prog (Go.callFunc 96 args) w = Go.Result.ok (Go.Next.enter 96 args) w := by intros; kernel_rfl
@[simp] theorem Tq.func96 : Tq.prog.funcs[96]? = Option.some Tq.f96 := by intros; kernel_rfl
@[simp] theorem Tq.nfree96 : Tq.f96.nfree = 0 := by intros; kernel_rfl
@[simp] theorem Tq.ntmps96 : Tq.f96.ntmps = 29 := by intros; kernel_rfl
@[simp] theorem Tq.params96 : Tq.f96.params = #[27, 24] := by intros; kernel_rfl
@[simp] theorem Tq.results96 : Tq.f96.results = #[Go.ResultVar.tmp 4] := by intros; kernel_rfl
@[simp] theorem Tq.nfree97 : Tq.f97.nfree = 0 := by intros; kernel_rfl
@[simp] theorem Tq.params97 : Tq.f97.params = #[27, 3] := by intros; kernel_rfl
@[simp] theorem Tq.results97 : Tq.f97.results = #[Go.ResultVar.tmp 4] := by intros; kernel_rfl
@[simp] theorem Tq.call126 : ∀ (args : Array Go.Value) (w : Go.World), Go.Sem.run Tq.prog (Go.callFunc 126 args) w = Go.Result.ok (Go.Next.enter 126 args) w := by intros; kernel_rfl
@[simp] theorem Tq.func126 : Tq.prog.funcs[126]? = Option.some Tq.f126 := by intros; kernel_rfl
@[simp] theorem Tq.nfree126 : Tq.f126.nfree = 0 := by intros; kernel_rfl
@[simp] theorem Tq.ntmps126 : Tq.f126.ntmps = 59 := by intros; kernel_rfl
@[simp] theorem Tq.params126 : Tq.f126.params = #[3, 3] := by intros; kernel_rfl
@[simp] theorem Tq.results126 : Tq.f126.results = #[Go.ResultVar.tmp 4, Go.ResultVar.tmp 5] := by intros; kernel_rfl
end Go.Proofs
