/-
  Facts of the program with our own function: of functions and types that a further statement names.
-/
import Derived.Test.YtgkakgibgfehaaaSh32
import Derived.KernelRfl
namespace Go.Proofs
set_option maxRecDepth 100000
noncomputable abbrev Tq.f11 : Func := Try.f11
noncomputable abbrev Tq.f36 : Func := Try.f36
noncomputable abbrev Tq.f37 : Func := Try.f37
noncomputable abbrev Tq.f38 : Func := Try.f38
noncomputable abbrev Tq.f39 : Func := Try.f39
noncomputable abbrev Tq.f40 : Func := Try.f40
noncomputable abbrev Tq.f41 : Func := Try.f41
noncomputable abbrev Tq.f42 : Func := Try.f42
noncomputable abbrev Tq.f43 : Func := Try.f43
noncomputable abbrev Tq.f44 : Func := Try.f44
noncomputable abbrev Tq.f45 : Func := Try.f45
noncomputable abbrev Tq.f73 : Func := Try.f73
noncomputable abbrev Tq.f74 : Func := Try.f74
noncomputable abbrev Tq.f75 : Func := Try.f75
noncomputable abbrev Tq.f76 : Func := Try.f76
@[simp] theorem Tq.runUnderlying3 : ∀ (w : Go.World), Go.Sem.run Tq.prog (Go.underlying 3) w = Go.Result.ok (Go.TypeDesc.int Go.IntKind.i64) w := by intros; kernel_rfl
@[simp] theorem Tq.type3 : Tq.prog.types[3]? = Option.some Go.Proofs.Try.t3 := by intros; kernel_rfl
@[simp] theorem Tq.typeInfo3 : ∀ (w : Go.World), Go.Sem.run Tq.prog (Go.typeInfo 3) w = Go.Result.ok Go.Proofs.Try.t3 w := by intros; kernel_rfl
@[simp] theorem Tq.runUnderlying4 : ∀ (w : Go.World), Go.Sem.run Tq.prog (Go.underlying 4) w = Go.Result.ok Go.TypeDesc.bool w := by intros; kernel_rfl
@[simp] theorem Tq.type4 : Tq.prog.types[4]? = Option.some Go.Proofs.Try.t4 := by intros; kernel_rfl
@[simp] theorem Tq.typeInfo4 : ∀ (w : Go.World), Go.Sem.run Tq.prog (Go.typeInfo 4) w = Go.Result.ok Go.Proofs.Try.t4 w := by intros; kernel_rfl
@[simp] theorem Tq.runUnderlying5 : ∀ (w : Go.World), Go.Sem.run Tq.prog (Go.underlying 5) w = Go.Result.ok (Go.TypeDesc.int Go.IntKind.u8) w := by intros; kernel_rfl
@[simp] theorem Tq.type5 : Tq.prog.types[5]? = Option.some Go.Proofs.Try.t5 := by intros; kernel_rfl
@[simp] theorem Tq.typeInfo5 : ∀ (w : Go.World), Go.Sem.run Tq.prog (Go.typeInfo 5) w = Go.Result.ok Go.Proofs.Try.t5 w := by intros; kernel_rfl
@[simp] theorem Tq.zeroValue5 : ∀ (w : Go.World), Go.Sem.run Tq.prog (Go.zeroValue 5) w = Go.Result.ok (Go.Value.int Go.IntKind.u8 0) w := by intros; kernel_rfl
@[simp] theorem Tq.runUnderlying9 : ∀ (w : Go.World), Go.Sem.run Tq.prog (Go.underlying 9) w = Go.Result.ok Go.TypeDesc.string w := by intros; kernel_rfl
@[simp] theorem Tq.type9 : Tq.prog.types[9]? = Option.some Go.Proofs.Try.t9 := by intros; kernel_rfl
@[simp] theorem Tq.typeInfo9 : ∀ (w : Go.World), Go.Sem.run Tq.prog (Go.typeInfo 9) w = Go.Result.ok Go.Proofs.Try.t9 w := by intros; kernel_rfl
@[simp] theorem Tq.call11 : ∀ (args : Array Go.Value) (w : Go.World), Go.Sem.run Tq.prog (Go.callFunc 11 args) w = Go.Result.ok (Go.Next.enter 11 args) w := by intros; kernel_rfl
@[simp] theorem Tq.func11 : Tq.prog.funcs[11]? = Option.some Tq.f11 := by intros; kernel_rfl
@[simp] theorem Tq.nfree11 : Tq.f11.nfree = 0 := by intros; kernel_rfl
@[simp] theorem Tq.ntmps11 : Tq.f11.ntmps = 117 := by intros; kernel_rfl
@[simp] theorem Tq.params11 : Tq.f11.params = #[49, 24] := by intros; kernel_rfl
@[simp] theorem Tq.results11 : Tq.f11.results = #[Go.ResultVar.tmp 4] := by intros; kernel_rfl
@[simp] theorem Tq.nfree15 : Tq.f15.nfree = 0 := by intros; kernel_rfl
@[simp] theorem Tq.params15 : Tq.f15.params = #[23, 24] := by intros; kernel_rfl
@[simp] theorem Tq.results15 : Tq.f15.results = #[Go.ResultVar.tmp 4, Go.ResultVar.tmp 5] := by intros; kernel_rfl
@[simp] theorem Tq.runUnderlying22 : ∀ (w : Go.World), Go.Sem.run Tq.prog (Go.underlying 22) w = Go.Result.ok (Go.TypeDesc.slice 5) w := by intros; kernel_rfl
@[simp] theorem Tq.type22 : Tq.prog.types[22]? = Option.some Go.Proofs.Try.t22 := by intros; kernel_rfl
@[simp] theorem Tq.typeInfo22 : ∀ (w : Go.World), Go.Sem.run Tq.prog (Go.typeInfo 22) w = Go.Result.ok Go.Proofs.Try.t22 w := by intros; kernel_rfl
@[simp] theorem Tq.zeroValue22 : ∀ (w : Go.World), Go.Sem.run Tq.prog (Go.zeroValue 22) w = Go.Result.ok (Go.Value.slice Option.none 0 0) w := by intros; kernel_rfl
@[simp] theorem Tq.type23 : Tq.prog.types[23]? = Option.some Go.Proofs.Try.t23 := by intros; kernel_rfl
@[simp] theorem Tq.typeInfo23 : ∀ (w : Go.World), Go.Sem.run Tq.prog (Go.typeInfo 23) w = Go.Result.ok Go.Proofs.Try.t23 w := by intros; kernel_rfl
@[simp] theorem Tq.type24 : Tq.prog.types[24]? = Option.some Go.Proofs.Try.t24 := by intros; kernel_rfl
@[simp] theorem Tq.typeInfo24 : ∀ (w : Go.World), Go.Sem.run Tq.prog (Go.typeInfo 24) w = Go.Result.ok Go.Proofs.Try.t24 w := by intros; kernel_rfl
@[simp] theorem Tq.zeroValue24 : ∀ (w : Go.World), Go.Sem.run Tq.prog (Go.zeroValue 24) w = Go.Result.ok (Go.Value.slice Option.none 0 0) w := by intros; kernel_rfl
@[simp] theorem Tq.type27 : Tq.prog.types[27]? = Option.some Go.Proofs.Try.t27 := by intros; kernel_rfl
@[simp] theorem Tq.typeInfo27 : ∀ (w : Go.World), Go.Sem.run Tq.prog (Go.typeInfo 27) w = Go.Result.ok Go.Proofs.Try.t27 w := by intros; kernel_rfl
@[simp] theorem Tq.zeroValue27 : ∀ (w : Go.World), Go.Sem.run Tq.prog (Go.zeroValue 27) w = Go.Result.ok (Go.Value.slice Option.none 0 0) w := by intros; kernel_rfl
@[simp] theorem Tq.call36 : ∀ (args : Array Go.Value) (w : Go.World), Go.Sem.run Tq.prog (Go.callFunc 36 args) w = Go.Result.ok (Go.Next.enter 36 args) w := by intros; kernel_rfl
@[simp] theorem Tq.func36 : Tq.prog.funcs[36]? = Option.some Tq.f36 := by intros; kernel_rfl
@[simp] theorem Tq.nfree36 : Tq.f36.nfree = 0 := by intros; kernel_rfl
@[simp] theorem Tq.ntmps36 : Tq.f36.ntmps = 27 := by intros; kernel_rfl
@[simp] theorem Tq.params36 : Tq.f36.params = #[49, 3] := by intros; kernel_rfl
@[simp] theorem Tq.results36 : Tq.f36.results = #[Go.ResultVar.tmp 4] := by intros; kernel_rfl
@[simp] theorem Tq.call37 : ∀ (args : Array Go.Value) (w : Go.World), Go.Sem.run Tq.prog (Go.callFunc 37 args) w = Go.Result.ok (Go.Next.enter 37 args) w := by intros; kernel_rfl
@[simp] theorem Tq.func37 : Tq.prog.funcs[37]? = Option.some Tq.f37 := by intros; kernel_rfl
@[simp] theorem Tq.nfree37 : Tq.f37.nfree = 0 := by intros; kernel_rfl
@[simp] theorem Tq.ntmps37 : Tq.f37.ntmps = 23 := by intros; kernel_rfl
@[simp] theorem Tq.params37 : Tq.f37.params = #[49] := by intros; kernel_rfl
@[simp] theorem Tq.results37 : Tq.f37.results = #[Go.ResultVar.tmp 2] := by intros; kernel_rfl
@[simp] theorem Tq.call38 : ∀ (args : Array Go.Value) (w : Go.World), Go.Sem.run Tq.prog (Go.callFunc 38 args) w = Go.Result.ok (Go.Next.enter 38 args) w := by intros; kernel_rfl
@[simp] theorem Tq.func38 : Tq.prog.funcs[38]? = Option.some Tq.f38 := by intros; kernel_rfl
@[simp] theorem Tq.nfree38 : Tq.f38.nfree = 0 := by intros; kernel_rfl
@[simp] theorem Tq.ntmps38 : Tq.f38.ntmps = 22 := by intros; kernel_rfl
@[simp] theorem Tq.params38 : Tq.f38.params = #[24] := by intros; kernel_rfl
@[simp] theorem Tq.results38 : Tq.f38.results = #[Go.ResultVar.tmp 2] := by intros; kernel_rfl
@[simp] theorem Tq.call39 : ∀ (args : Array Go.Value) (w : Go.World), Go.Sem.run Tq.prog (Go.callFunc 39 args) w = Go.Result.ok (Go.Next.enter 39 args) w := by intros; kernel_rfl
@[simp] theorem Tq.func39 : Tq.prog.funcs[39]? = Option.some Tq.f39 := by intros; kernel_rfl
@[simp] theorem Tq.nfree39 : Tq.f39.nfree = 0 := by intros; kernel_rfl
@[simp] theorem Tq.ntmps39 : Tq.f39.ntmps = 26 := by intros; kernel_rfl
@[simp] theorem Tq.params39 : Tq.f39.params = #[27, 27] := by intros; kernel_rfl
@[simp] theorem Tq.results39 : Tq.f39.results = #[Go.ResultVar.tmp 4] := by intros; kernel_rfl
@[simp] theorem Tq.call40 : ∀ (args : Array Go.Value) (w : Go.World), Go.Sem.run Tq.prog (Go.callFunc 40 args) w = Go.Result.ok (Go.Next.enter 40 args) w := by intros; kernel_rfl
@[simp] theorem Tq.func40 : Tq.prog.funcs[40]? = Option.some Tq.f40 := by intros; kernel_rfl
@[simp] theorem Tq.nfree40 : Tq.f40.nfree = 0 := by intros; kernel_rfl
@[simp] theorem Tq.ntmps40 : Tq.f40.ntmps = 27 := by intros; kernel_rfl
@[simp] theorem Tq.params40 : Tq.f40.params = #[23, 23] := by intros; kernel_rfl
@[simp] theorem Tq.results40 : Tq.f40.results = #[Go.ResultVar.tmp 4] := by intros; kernel_rfl
@[simp] theorem Tq.call41 : ∀ (args : Array Go.Value) (w : Go.World), Go.Sem.run Tq.prog (Go.callFunc 41 args) w = Go.Result.ok (Go.Next.enter 41 args) w := by intros; kernel_rfl
@[simp] theorem Tq.func41 : Tq.prog.funcs[41]? = Option.some Tq.f41 := by intros; kernel_rfl
@[simp] theorem Tq.nfree41 : Tq.f41.nfree = 0 := by intros; kernel_rfl
@[simp] theorem Tq.ntmps41 : Tq.f41.ntmps = 26 := by intros; kernel_rfl
@[simp] theorem Tq.params41 : Tq.f41.params = #[24, 24] := by intros; kernel_rfl
@[simp] theorem Tq.results41 : Tq.f41.results = #[Go.ResultVar.tmp 4] := by intros; kernel_rfl
@[simp] theorem Tq.call42 : ∀ (args : Array Go.Value) (w : Go.World), Go.Sem.run Tq.prog (Go.callFunc 42 args) w = Go.Result.ok (Go.Next.enter 42 args) w := by intros; kernel_rfl
@[simp] theorem Tq.func42 : Tq.prog.funcs[42]? = Option.some Tq.f42 := by intros; kernel_rfl
@[simp] theorem Tq.nfree42 : Tq.f42.nfree = 0 := by intros; kernel_rfl
@[simp] theorem Tq.ntmps42 : Tq.f42.ntmps = 28 := by intros; kernel_rfl
@[simp] theorem Tq.params42 : Tq.f42.params = #[23, 3] := by intros; kernel_rfl
@[simp] theorem Tq.results42 : Tq.f42.results = #[Go.ResultVar.tmp 4] := by intros; kernel_rfl
@[simp] theorem Tq.call43 : ∀ (args : Array Go.Value) (w : Go.World), Go.Sem.run Tq.prog (Go.callFunc 43 args) w = Go.Result.ok (Go.Next.enter 43 args) w := by intros; kernel_rfl
@[simp] theorem Tq.func43 : Tq.prog.funcs[43]? = Option.some Tq.f43 := by intros; kernel_rfl
@[simp] theorem Tq.nfree43 : Tq.f43.nfree = 0 := by intros; kernel_rfl
@[simp] theorem Tq.ntmps43 : Tq.f43.ntmps = 21 := by intros; kernel_rfl
@[simp] theorem Tq.params43 : Tq.f43.params = #[24, 3] := by intros; kernel_rfl
@[simp] theorem Tq.results43 : Tq.f43.results = #[Go.ResultVar.tmp 4] := by intros; kernel_rfl
@[simp] theorem Tq.call44 : ∀ (args : Array Go.Value) (w : Go.World), Go.Sem.run Tq.prog (Go.callFunc 44 args) w = Go.Result.ok (Go.Next.enter 44 args) w := by intros; kernel_rfl
@[simp] theorem Tq.func44 : Tq.prog.funcs[44]? = Option.some Tq.f44 := by intros; kernel_rfl
@[simp] theorem Tq.nfree44 : Tq.f44.nfree = 0 := by intros; kernel_rfl
@[simp] theorem Tq.ntmps44 : Tq.f44.ntmps = 19 := by intros; kernel_rfl
@[simp] theorem Tq.params44 : Tq.f44.params = #[27, 3] := by intros; kernel_rfl
@[simp] theorem Tq.results44 : Tq.f44.results = #[Go.ResultVar.tmp 4] := by intros; kernel_rfl
@[simp] theorem Tq.call45 : ∀ (args : Array Go.Value) (w : Go.World), Go.Sem.run Tq.prog (Go.callFunc 45 args) w = Go.Result.ok (Go.Next.enter 45 args) w := by intros; kernel_rfl
@[simp] theorem Tq.func45 : Tq.prog.funcs[45]? = Option.some Tq.f45 := by intros; kernel_rfl
@[simp] theorem Tq.nfree45 : Tq.f45.nfree = 0 := by intros; kernel_rfl
@[simp] theorem Tq.ntmps45 : Tq.f45.ntmps = 21 := by intros; kernel_rfl
@[simp] theorem Tq.params45 : Tq.f45.params = #[27, 3] := by intros; kernel_rfl
@[simp] theorem Tq.results45 : Tq.f45.results = #[Go.ResultVar.tmp 4] := by intros; kernel_rfl
@[simp] theorem Tq.type48 : Tq.prog.types[48]? = Option.some Go.Proofs.Try.t48 := by intros; kernel_rfl
@[simp] theorem Tq.typeInfo48 : ∀ (w : Go.World), Go.Sem.run Tq.prog (Go.typeInfo 48) w = Go.Result.ok Go.Proofs.Try.t48 w := by intros; kernel_rfl
@[simp] theorem Tq.isAgg49 : ∀ (w : Go.World), Go.Sem.run Tq.prog (Go.isAgg 49) w = Go.Result.ok Bool.false w := by intros; kernel_rfl
@[simp] theorem Tq.runUnderlying49 : ∀ (w : Go.World), Go.Sem.run Tq.prog (Go.underlying 49) w = Go.Result.ok (Go.TypeDesc.slice 84) w := by intros; kernel_rfl
@[simp] theorem Tq.sizeOf49 : ∀ (w : Go.World), Go.Sem.run Tq.prog (Go.sizeOf 49) w = Go.Result.ok 1 w := by intros; kernel_rfl
@[simp] theorem Tq.type49 : Tq.prog.types[49]? = Option.some Go.Proofs.Try.t49 := by intros; kernel_rfl
@[simp] theorem Tq.typeInfo49 : ∀ (w : Go.World), Go.Sem.run Tq.prog (Go.typeInfo 49) w = Go.Result.ok Go.Proofs.Try.t49 w := by intros; kernel_rfl
@[simp] theorem Tq.underlying49 : Tq.prog.underlying 49 = Option.some (Go.TypeDesc.slice 84) := by intros; kernel_rfl
@[simp] theorem Tq.zeroValue49 : ∀ (w : Go.World), Go.Sem.run Tq.prog (Go.zeroValue 49) w = Go.Result.ok (Go.Value.slice Option.none 0 0) w := by intros; kernel_rfl
@[simp] theorem Tq.isAgg67 : ∀ (w : Go.World), Go.Sem.run Tq.prog (Go.isAgg 67) w = Go.Result.ok Bool.false w := by intros; kernel_rfl
@[simp] theorem Tq.runUnderlying67 : ∀ (w : Go.World), Go.Sem.run Tq.prog (Go.underlying 67) w = Go.Result.ok (Go.TypeDesc.slice 27) w := by intros; kernel_rfl
@[simp] theorem Tq.sizeOf67 : ∀ (w : Go.World), Go.Sem.run Tq.prog (Go.sizeOf 67) w = Go.Result.ok 1 w := by intros; kernel_rfl
@[simp] theorem Tq.type67 : Tq.prog.types[67]? = Option.some Go.Proofs.Try.t67 := by intros; kernel_rfl
@[simp] theorem Tq.typeInfo67 : ∀ (w : Go.World), Go.Sem.run Tq.prog (Go.typeInfo 67) w = Go.Result.ok Go.Proofs.Try.t67 w := by intros; kernel_rfl
@[simp] theorem Tq.zeroValue67 : ∀ (w : Go.World), Go.Sem.run Tq.prog (Go.zeroValue 67) w = Go.Result.ok (Go.Value.slice Option.none 0 0) w := by intros; kernel_rfl
@[simp] theorem Tq.call73 : ∀ (args : Array Go.Value) (w : Go.World), Go.Sem.run Tq.prog (Go.callFunc 73 args) w = Go.Result.ok (Go.Next.enter 73 args) w := by intros; kernel_rfl
@[simp] theorem Tq.func73 : Tq.prog.funcs[73]? = Option.some Tq.f73 := by intros; kernel_rfl
@[simp] theorem Tq.nfree73 : Tq.f73.nfree = 0 := by intros; kernel_rfl
@[simp] theorem Tq.ntmps73 : Tq.f73.ntmps = 13 := by intros; kernel_rfl
@[simp] theorem Tq.params73 : Tq.f73.params = #[84, 3] := by intros; kernel_rfl
@[simp] theorem Tq.results73 : Tq.f73.results = #[Go.ResultVar.tmp 4] := by intros; kernel_rfl
@[simp] theorem Tq.call74 : ∀ (args : Array Go.Value) (w : Go.World), Go.Sem.run Tq.prog (Go.callFunc 74 args) w = Go.Result.ok (Go.Next.enter 74 args) w := by intros; kernel_rfl
@[simp] theorem Tq.func74 : Tq.prog.funcs[74]? = Option.some Tq.f74 := by intros; kernel_rfl
@[simp] theorem Tq.nfree74 : Tq.f74.nfree = 0 := by intros; kernel_rfl
@[simp] theorem Tq.ntmps74 : Tq.f74.ntmps = 11 := by intros; kernel_rfl
@[simp] theorem Tq.params74 : Tq.f74.params = #[84] := by intros; kernel_rfl
@[simp] theorem Tq.results74 : Tq.f74.results = #[Go.ResultVar.cell 2 48] := by intros; kernel_rfl
@[simp] theorem Tq.call75 : ∀ (args : Array Go.Value) (w : Go.World), Go.Sem.run Tq.prog (Go.callFunc 75 args) w = Go.Result.ok (Go.Next.enter 75 args) w := by intros; kernel_rfl
@[simp] theorem Tq.func75 : Tq.prog.funcs[75]? = Option.some Tq.f75 := by intros; kernel_rfl
@[simp] theorem Tq.nfree75 : Tq.f75.nfree = 0 := by intros; kernel_rfl
@[simp] theorem Tq.ntmps75 : Tq.f75.ntmps = 15 := by intros; kernel_rfl
@[simp] theorem Tq.params75 : Tq.f75.params = #[48, 48] := by intros; kernel_rfl
@[simp] theorem Tq.results75 : Tq.f75.results = #[Go.ResultVar.tmp 4] := by intros; kernel_rfl
@[simp] theorem Tq.call76 : ∀ (args : Array Go.Value) (w : Go.World), Go.Sem.run Tq.prog (Go.callFunc 76 args) w = Go.Result.ok (Go.Next.enter 76 args) w := by intros; kernel_rfl
@[simp] theorem Tq.func76 : Tq.prog.funcs[76]? = Option.some Tq.f76 := by intros; kernel_rfl
@[simp] theorem Tq.nfree76 : Tq.f76.nfree = 0 := by intros; kernel_rfl
@[simp] theorem Tq.ntmps76 : Tq.f76.ntmps = 20 := by intros; kernel_rfl
@[simp] theorem Tq.params76 : Tq.f76.params = #[3] := by intros; kernel_rfl
@[simp] theorem Tq.results76 : Tq.f76.results = #[Go.ResultVar.tmp 2] := by intros; kernel_rfl
@[simp] theorem Tq.isAgg84 : ∀ (w : Go.World), Go.Sem.run Tq.prog (Go.isAgg 84) w = Go.Result.ok Bool.true w := by intros; kernel_rfl
@[simp] theorem Tq.runUnderlying84 : ∀ (w : Go.World), Go.Sem.run Tq.prog (Go.underlying 84) w = Go.Result.ok (Go.TypeDesc.struct #[{ name := "Text", type := 9, offset := 0, embedded := Bool.false, tag := "", pkgPath := "", byteOffset := 0 }, { name := "Many", type := 3, offset := 1, embedded := Bool.false, tag := "", pkgPath := "", byteOffset := 16 }]) w := by intros; kernel_rfl
@[simp] theorem Tq.sizeOf84 : ∀ (w : Go.World), Go.Sem.run Tq.prog (Go.sizeOf 84) w = Go.Result.ok 2 w := by intros; kernel_rfl
@[simp] theorem Tq.type84 : Tq.prog.types[84]? = Option.some Go.Proofs.Try.t84 := by intros; kernel_rfl
@[simp] theorem Tq.typeInfo84 : ∀ (w : Go.World), Go.Sem.run Tq.prog (Go.typeInfo 84) w = Go.Result.ok Go.Proofs.Try.t84 w := by intros; kernel_rfl
@[simp] theorem Tq.underlying84 : Tq.prog.underlying 84 = Option.some (Go.TypeDesc.struct #[{ name := "Text", type := 9, offset := 0, embedded := Bool.false, tag := "", pkgPath := "", byteOffset := 0 }, { name := "Many", type := 3, offset := 1, embedded := Bool.false, tag := "", pkgPath := "", byteOffset := 16 }]) := by intros; kernel_rfl
@[simp] theorem Tq.zeroValue84 : ∀ (w : Go.World), Go.Sem.run Tq.prog (Go.zeroValue 84) w = Go.Result.ok (Go.Value.agg #[Go.Value.string { data := #[] }, Go.Value.int Go.IntKind.i64 0]) w := by intros; kernel_rfl
end Go.Proofs
