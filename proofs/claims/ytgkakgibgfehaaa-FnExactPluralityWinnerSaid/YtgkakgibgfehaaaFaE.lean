/-
  Facts of the program with our own function: of functions and types that a further statement names.
-/
import Derived.Test.YtgkakgibgfehaaaSh32
import Derived.KernelRfl
namespace Go.Proofs
set_option maxRecDepth 100000
noncomputable abbrev Tq.f12 : Func := Try.f12
noncomputable abbrev Tq.f13 : Func := Try.f13
noncomputable abbrev Tq.f21 : Func := Try.f21
noncomputable abbrev Tq.f22 : Func := Try.f22
noncomputable abbrev Tq.f25 : Func := Try.f25
noncomputable abbrev Tq.f26 : Func := Try.f26
noncomputable abbrev Tq.f36 : Func := Try.f36
noncomputable abbrev Tq.f37 : Func := Try.f37
noncomputable abbrev Tq.f39 : Func := Try.f39
noncomputable abbrev Tq.f40 : Func := Try.f40
noncomputable abbrev Tq.f46 : Func := Try.f46
noncomputable abbrev Tq.f57 : Func := Try.f57
noncomputable abbrev Tq.f58 : Func := Try.f58
noncomputable abbrev Tq.f59 : Func := Try.f59
noncomputable abbrev Tq.f60 : Func := Try.f60
noncomputable abbrev Tq.f65 : Func := Try.f65
noncomputable abbrev Tq.f66 : Func := Try.f66
noncomputable abbrev Tq.f69 : Func := Try.f69
noncomputable abbrev Tq.f70 : Func := Try.f70
noncomputable abbrev Tq.f71 : Func := Try.f71
noncomputable abbrev Tq.f73 : Func := Try.f73
noncomputable abbrev Tq.f74 : Func := Try.f74
noncomputable abbrev Tq.f75 : Func := Try.f75
noncomputable abbrev Tq.f96 : Func := Try.f96
@[simp] theorem Tq.runUnderlying3 : ∀ (w : Go.World), Go.Sem.run Tq.prog (Go.underlying 3) w = Go.Result.ok (Go.TypeDesc.int Go.IntKind.i64) w := by intros; kernel_rfl
@[simp] theorem Tq.type3 : Tq.prog.types[3]? = Option.some Go.Proofs.Try.t3 := by intros; kernel_rfl
@[simp] theorem Tq.typeInfo3 : ∀ (w : Go.World), Go.Sem.run Tq.prog (Go.typeInfo 3) w = Go.Result.ok Go.Proofs.Try.t3 w := by intros; kernel_rfl
@[simp] theorem Tq.runUnderlying4 : ∀ (w : Go.World), Go.Sem.run Tq.prog (Go.underlying 4) w = Go.Result.ok Go.TypeDesc.bool w := by intros; kernel_rfl
@[simp] theorem Tq.type4 : Tq.prog.types[4]? = Option.some Go.Proofs.Try.t4 := by intros; kernel_rfl
@[simp] theorem Tq.typeInfo4 : ∀ (w : Go.World), Go.Sem.run Tq.prog (Go.typeInfo 4) w = Go.Result.ok Go.Proofs.Try.t4 w := by intros; kernel_rfl
@[simp] theorem Tq.runUnderlying9 : ∀ (w : Go.World), Go.Sem.run Tq.prog (Go.underlying 9) w = Go.Result.ok Go.TypeDesc.string w := by intros; kernel_rfl
@[simp] theorem Tq.type9 : Tq.prog.types[9]? = Option.some Go.Proofs.Try.t9 := by intros; kernel_rfl
@[simp] theorem Tq.typeInfo9 : ∀ (w : Go.World), Go.Sem.run Tq.prog (Go.typeInfo 9) w = Go.Result.ok Go.Proofs.Try.t9 w := by intros; kernel_rfl
@[simp] theorem Tq.call12 : ∀ (args : Array Go.Value) (w : Go.World), Go.Sem.run Tq.prog (Go.callFunc 12 args) w = Go.Result.ok (Go.Next.enter 12 args) w := by intros; kernel_rfl
@[simp] theorem Tq.func12 : Tq.prog.funcs[12]? = Option.some Tq.f12 := by intros; kernel_rfl
@[simp] theorem Tq.nfree12 : Tq.f12.nfree = 0 := by intros; kernel_rfl
@[simp] theorem Tq.ntmps12 : Tq.f12.ntmps = 43 := by intros; kernel_rfl
@[simp] theorem Tq.params12 : Tq.f12.params = #[49, 27] := by intros; kernel_rfl
@[simp] theorem Tq.results12 : Tq.f12.results = #[Go.ResultVar.tmp 4] := by intros; kernel_rfl
@[simp] theorem Tq.call13 : ∀ (args : Array Go.Value) (w : Go.World), Go.Sem.run Tq.prog (Go.callFunc 13 args) w = Go.Result.ok (Go.Next.enter 13 args) w := by intros; kernel_rfl
@[simp] theorem Tq.func13 : Tq.prog.funcs[13]? = Option.some Tq.f13 := by intros; kernel_rfl
@[simp] theorem Tq.nfree13 : Tq.f13.nfree = 0 := by intros; kernel_rfl
@[simp] theorem Tq.ntmps13 : Tq.f13.ntmps = 43 := by intros; kernel_rfl
@[simp] theorem Tq.params13 : Tq.f13.params = #[49, 27] := by intros; kernel_rfl
@[simp] theorem Tq.results13 : Tq.f13.results = #[Go.ResultVar.tmp 4] := by intros; kernel_rfl
@[simp] theorem Tq.call21 : ∀ (args : Array Go.Value) (w : Go.World), Go.Sem.run Tq.prog (Go.callFunc 21 args) w = Go.Result.ok (Go.Next.enter 21 args) w := by intros; kernel_rfl
@[simp] theorem Tq.func21 : Tq.prog.funcs[21]? = Option.some Tq.f21 := by intros; kernel_rfl
@[simp] theorem Tq.nfree21 : Tq.f21.nfree = 0 := by intros; kernel_rfl
@[simp] theorem Tq.ntmps21 : Tq.f21.ntmps = 18 := by intros; kernel_rfl
@[simp] theorem Tq.params21 : Tq.f21.params = #[23, 27] := by intros; kernel_rfl
@[simp] theorem Tq.results21 : Tq.f21.results = #[Go.ResultVar.tmp 4] := by intros; kernel_rfl
@[simp] theorem Tq.call22 : ∀ (args : Array Go.Value) (w : Go.World), Go.Sem.run Tq.prog (Go.callFunc 22 args) w = Go.Result.ok (Go.Next.enter 22 args) w := by intros; kernel_rfl
@[simp] theorem Tq.func22 : Tq.prog.funcs[22]? = Option.some Tq.f22 := by intros; kernel_rfl
@[simp] theorem Tq.nfree22 : Tq.f22.nfree = 0 := by intros; kernel_rfl
@[simp] theorem Tq.ntmps22 : Tq.f22.ntmps = 18 := by intros; kernel_rfl
@[simp] theorem Tq.params22 : Tq.f22.params = #[23, 27] := by intros; kernel_rfl
@[simp] theorem Tq.results22 : Tq.f22.results = #[Go.ResultVar.tmp 4] := by intros; kernel_rfl
@[simp] theorem Tq.type23 : Tq.prog.types[23]? = Option.some Go.Proofs.Try.t23 := by intros; kernel_rfl
@[simp] theorem Tq.typeInfo23 : ∀ (w : Go.World), Go.Sem.run Tq.prog (Go.typeInfo 23) w = Go.Result.ok Go.Proofs.Try.t23 w := by intros; kernel_rfl
@[simp] theorem Tq.type24 : Tq.prog.types[24]? = Option.some Go.Proofs.Try.t24 := by intros; kernel_rfl
@[simp] theorem Tq.typeInfo24 : ∀ (w : Go.World), Go.Sem.run Tq.prog (Go.typeInfo 24) w = Go.Result.ok Go.Proofs.Try.t24 w := by intros; kernel_rfl
@[simp] theorem Tq.zeroValue24 : ∀ (w : Go.World), Go.Sem.run Tq.prog (Go.zeroValue 24) w = Go.Result.ok (Go.Value.slice Option.none 0 0) w := by intros; kernel_rfl
@[simp] theorem Tq.call25 : ∀ (args : Array Go.Value) (w : Go.World), Go.Sem.run Tq.prog (Go.callFunc 25 args) w = Go.Result.ok (Go.Next.enter 25 args) w := by intros; kernel_rfl
@[simp] theorem Tq.func25 : Tq.prog.funcs[25]? = Option.some Tq.f25 := by intros; kernel_rfl
@[simp] theorem Tq.nfree25 : Tq.f25.nfree = 0 := by intros; kernel_rfl
@[simp] theorem Tq.ntmps25 : Tq.f25.ntmps = 42 := by intros; kernel_rfl
@[simp] theorem Tq.params25 : Tq.f25.params = #[23, 27] := by intros; kernel_rfl
@[simp] theorem Tq.results25 : Tq.f25.results = #[Go.ResultVar.tmp 4] := by intros; kernel_rfl
@[simp] theorem Tq.call26 : ∀ (args : Array Go.Value) (w : Go.World), Go.Sem.run Tq.prog (Go.callFunc 26 args) w = Go.Result.ok (Go.Next.enter 26 args) w := by intros; kernel_rfl
@[simp] theorem Tq.func26 : Tq.prog.funcs[26]? = Option.some Tq.f26 := by intros; kernel_rfl
@[simp] theorem Tq.nfree26 : Tq.f26.nfree = 0 := by intros; kernel_rfl
@[simp] theorem Tq.ntmps26 : Tq.f26.ntmps = 48 := by intros; kernel_rfl
@[simp] theorem Tq.params26 : Tq.f26.params = #[23, 27] := by intros; kernel_rfl
@[simp] theorem Tq.results26 : Tq.f26.results = #[Go.ResultVar.tmp 4] := by intros; kernel_rfl
@[simp] theorem Tq.type27 : Tq.prog.types[27]? = Option.some Go.Proofs.Try.t27 := by intros; kernel_rfl
@[simp] theorem Tq.typeInfo27 : ∀ (w : Go.World), Go.Sem.run Tq.prog (Go.typeInfo 27) w = Go.Result.ok Go.Proofs.Try.t27 w := by intros; kernel_rfl
@[simp] theorem Tq.zeroValue27 : ∀ (w : Go.World), Go.Sem.run Tq.prog (Go.zeroValue 27) w = Go.Result.ok (Go.Value.slice Option.none 0 0) w := by intros; kernel_rfl
@[simp] theorem Tq.call36 : ∀ (args : Array Go.Value) (w : Go.World), Go.Sem.run Tq.prog (Go.callFunc 36 args) w = Go.Result.ok (Go.Next.enter 36 args) w := by intros; kernel_rfl
@[simp] theorem Tq.func36 : Tq.prog.funcs[36]? = Option.some Tq.f36 := by intros; kernel_rfl
@[simp] theorem Tq.nfree36 : Tq.f36.nfree = 0 := by intros; kernel_rfl
@[simp] theorem Tq.ntmps36 : Tq.f36.ntmps = 27 := by intros; kernel_rfl
@[simp] theorem Tq.params36 : Tq.f36.params = #[49, 3] := by intros; kernel_rfl
@[simp] theorem Tq.results36 : Tq.f36.results = #[Go.ResultVar.tmp 4] := by intros; kernel_rfl
@[simp] theorem Tq.call37 : ∀ (args : Array Go.Value) (w : Go.World), Go.Sem.run Tq.prog (Go.callFunc 37 args) w = Go.Result.ok (Go.Next.enter 37 args) w := by intros; kernel_rfl
@[simp] theorem Tq.func37 : Tq.prog.funcs[37]? = Option.some Tq.f37 := by intros; kernel_rfl
@[simp] theorem Tq.nfree37 : Tq.f37.nfree = 0 := by intros; kernel_rfl
@[simp] theorem Tq.ntmps37 : Tq.f37.ntmps = 23 := by intros; kernel_rfl
@[simp] theorem Tq.params37 : Tq.f37.params = #[49] := by intros; kernel_rfl
@[simp] theorem Tq.results37 : Tq.f37.results = #[Go.ResultVar.tmp 2] := by intros; kernel_rfl
@[simp] theorem Tq.call39 : ∀ (args : Array Go.Value) (w : Go.World), Go.Sem.run Tq.prog (Go.callFunc 39 args) w = Go.Result.ok (Go.Next.enter 39 args) w := by intros; kernel_rfl
@[simp] theorem Tq.func39 : Tq.prog.funcs[39]? = Option.some Tq.f39 := by intros; kernel_rfl
@[simp] theorem Tq.nfree39 : Tq.f39.nfree = 0 := by intros; kernel_rfl
@[simp] theorem Tq.ntmps39 : Tq.f39.ntmps = 26 := by intros; kernel_rfl
@[simp] theorem Tq.params39 : Tq.f39.params = #[27, 27] := by intros; kernel_rfl
@[simp] theorem Tq.results39 : Tq.f39.results = #[Go.ResultVar.tmp 4] := by intros; kernel_rfl
@[simp] theorem Tq.call40 : ∀ (args : Array Go.Value) (w : Go.World), Go.Sem.run Tq.prog (Go.callFunc 40 args) w = Go.Result.ok (Go.Next.enter 40 args) w := by intros; kernel_rfl
@[simp] theorem Tq.func40 : Tq.prog.funcs[40]? = Option.some Tq.f40 := by intros; kernel_rfl
@[simp] theorem Tq.nfree40 : Tq.f40.nfree = 0 := by intros; kernel_rfl
@[simp] theorem Tq.ntmps40 : Tq.f40.ntmps = 27 := by intros; kernel_rfl
@[simp] theorem Tq.params40 : Tq.f40.params = #[23, 23] := by intros; kernel_rfl
@[simp] theorem Tq.results40 : Tq.f40.results = #[Go.ResultVar.tmp 4] := by intros; kernel_rfl
@[simp] theorem Tq.call46 : ∀ (args : Array Go.Value) (w : Go.World), Go.Sem.run Tq.prog (Go.callFunc 46 args) w = Go.Result.ok (Go.Next.enter 46 args) w := by intros; kernel_rfl
@[simp] theorem Tq.func46 : Tq.prog.funcs[46]? = Option.some Tq.f46 := by intros; kernel_rfl
@[simp] theorem Tq.nfree46 : Tq.f46.nfree = 0 := by intros; kernel_rfl
@[simp] theorem Tq.ntmps46 : Tq.f46.ntmps = 22 := by intros; kernel_rfl
@[simp] theorem Tq.params46 : Tq.f46.params = #[27] := by intros; kernel_rfl
@[simp] theorem Tq.results46 : Tq.f46.results = #[Go.ResultVar.tmp 2] := by intros; kernel_rfl
@[simp] theorem Tq.type48 : Tq.prog.types[48]? = Option.some Go.Proofs.Try.t48 := by intros; kernel_rfl
@[simp] theorem Tq.typeInfo48 : ∀ (w : Go.World), Go.Sem.run Tq.prog (Go.typeInfo 48) w = Go.Result.ok Go.Proofs.Try.t48 w := by intros; kernel_rfl
@[simp] theorem Tq.isAgg49 : ∀ (w : Go.World), Go.Sem.run Tq.prog (Go.isAgg 49) w = Go.Result.ok Bool.false w := by intros; kernel_rfl
@[simp] theorem Tq.runUnderlying49 : ∀ (w : Go.World), Go.Sem.run Tq.prog (Go.underlying 49) w = Go.Result.ok (Go.TypeDesc.slice 84) w := by intros; kernel_rfl
@[simp] theorem Tq.sizeOf49 : ∀ (w : Go.World), Go.Sem.run Tq.prog (Go.sizeOf 49) w = Go.Result.ok 1 w := by intros; kernel_rfl
@[simp] theorem Tq.type49 : Tq.prog.types[49]? = Option.some Go.Proofs.Try.t49 := by intros; kernel_rfl
@[simp] theorem Tq.typeInfo49 : ∀ (w : Go.World), Go.Sem.run Tq.prog (Go.typeInfo 49) w = Go.Result.ok Go.Proofs.Try.t49 w := by intros; kernel_rfl
@[simp] theorem Tq.underlying49 : Tq.prog.underlying 49 = Option.some (Go.TypeDesc.slice 84) := by intros; kernel_rfl
@[simp] theorem Tq.zeroValue49 : ∀ (w : Go.World), Go.Sem.run Tq.prog (Go.zeroValue 49) w = Go.Result.ok (Go.Value.slice Option.none 0 0) w := by intros; kernel_rfl
@[simp] theorem Tq.call57 : ∀ (args : Array Go.Value) (w : Go.World), Go.Sem.run Tq.prog (Go.callFunc 57 args) w = Go.Result.ok (Go.Next.enter 57 args) w := by intros; kernel_rfl
@[simp] theorem Tq.func57 : Tq.prog.funcs[57]? = Option.some Tq.f57 := by intros; kernel_rfl
@[simp] theorem Tq.nfree57 : Tq.f57.nfree = 0 := by intros; kernel_rfl
@[simp] theorem Tq.ntmps57 : Tq.f57.ntmps = 16 := by intros; kernel_rfl
@[simp] theorem Tq.params57 : Tq.f57.params = #[23, 27] := by intros; kernel_rfl
@[simp] theorem Tq.results57 : Tq.f57.results = #[Go.ResultVar.tmp 4, Go.ResultVar.tmp 5] := by intros; kernel_rfl
@[simp] theorem Tq.call58 : ∀ (args : Array Go.Value) (w : Go.World), Go.Sem.run Tq.prog (Go.callFunc 58 args) w = Go.Result.ok (Go.Next.enter 58 args) w := by intros; kernel_rfl
@[simp] theorem Tq.func58 : Tq.prog.funcs[58]? = Option.some Tq.f58 := by intros; kernel_rfl
@[simp] theorem Tq.nfree58 : Tq.f58.nfree = 0 := by intros; kernel_rfl
@[simp] theorem Tq.ntmps58 : Tq.f58.ntmps = 31 := by intros; kernel_rfl
@[simp] theorem Tq.params58 : Tq.f58.params = #[27, 27] := by intros; kernel_rfl
@[simp] theorem Tq.results58 : Tq.f58.results = #[Go.ResultVar.tmp 4] := by intros; kernel_rfl
@[simp] theorem Tq.call59 : ∀ (args : Array Go.Value) (w : Go.World), Go.Sem.run Tq.prog (Go.callFunc 59 args) w = Go.Result.ok (Go.Next.enter 59 args) w := by intros; kernel_rfl
@[simp] theorem Tq.func59 : Tq.prog.funcs[59]? = Option.some Tq.f59 := by intros; kernel_rfl
@[simp] theorem Tq.nfree59 : Tq.f59.nfree = 0 := by intros; kernel_rfl
@[simp] theorem Tq.ntmps59 : Tq.f59.ntmps = 32 := by intros; kernel_rfl
@[simp] theorem Tq.params59 : Tq.f59.params = #[27] := by intros; kernel_rfl
@[simp] theorem Tq.results59 : Tq.f59.results = #[Go.ResultVar.tmp 2] := by intros; kernel_rfl
@[simp] theorem Tq.call60 : ∀ (args : Array Go.Value) (w : Go.World), Go.Sem.run Tq.prog (Go.callFunc 60 args) w = Go.Result.ok (Go.Next.enter 60 args) w := by intros; kernel_rfl
@[simp] theorem Tq.func60 : Tq.prog.funcs[60]? = Option.some Tq.f60 := by intros; kernel_rfl
@[simp] theorem Tq.nfree60 : Tq.f60.nfree = 0 := by intros; kernel_rfl
@[simp] theorem Tq.ntmps60 : Tq.f60.ntmps = 18 := by intros; kernel_rfl
@[simp] theorem Tq.params60 : Tq.f60.params = #[23, 27] := by intros; kernel_rfl
@[simp] theorem Tq.results60 : Tq.f60.results = #[Go.ResultVar.tmp 4] := by intros; kernel_rfl
@[simp] theorem Tq.nfree63 : Tq.f63.nfree = 0 := by intros; kernel_rfl
@[simp] theorem Tq.params63 : Tq.f63.params = #[3, 3, 3] := by intros; kernel_rfl
@[simp] theorem Tq.results63 : Tq.f63.results = #[Go.ResultVar.tmp 6] := by intros; kernel_rfl
@[simp] theorem Tq.call65 : ∀ (args : Array Go.Value) (w : Go.World), Go.Sem.run Tq.prog (Go.callFunc 65 args) w = Go.Result.ok (Go.Next.enter 65 args) w := by intros; kernel_rfl
@[simp] theorem Tq.func65 : Tq.prog.funcs[65]? = Option.some Tq.f65 := by intros; kernel_rfl
@[simp] theorem Tq.nfree65 : Tq.f65.nfree = 0 := by intros; kernel_rfl
@[simp] theorem Tq.ntmps65 : Tq.f65.ntmps = 7 := by intros; kernel_rfl
@[simp] theorem Tq.params65 : Tq.f65.params = #[27] := by intros; kernel_rfl
@[simp] theorem Tq.results65 : Tq.f65.results = #[Go.ResultVar.tmp 2] := by intros; kernel_rfl
@[simp] theorem Tq.call66 : ∀ (args : Array Go.Value) (w : Go.World), Go.Sem.run Tq.prog (Go.callFunc 66 args) w = Go.Result.ok (Go.Next.enter 66 args) w := by intros; kernel_rfl
@[simp] theorem Tq.func66 : Tq.prog.funcs[66]? = Option.some Tq.f66 := by intros; kernel_rfl
@[simp] theorem Tq.nfree66 : Tq.f66.nfree = 0 := by intros; kernel_rfl
@[simp] theorem Tq.ntmps66 : Tq.f66.ntmps = 25 := by intros; kernel_rfl
@[simp] theorem Tq.params66 : Tq.f66.params = #[27] := by intros; kernel_rfl
@[simp] theorem Tq.results66 : Tq.f66.results = #[Go.ResultVar.tmp 2] := by intros; kernel_rfl
@[simp] theorem Tq.call69 : ∀ (args : Array Go.Value) (w : Go.World), Go.Sem.run Tq.prog (Go.callFunc 69 args) w = Go.Result.ok (Go.Next.enter 69 args) w := by intros; kernel_rfl
@[simp] theorem Tq.func69 : Tq.prog.funcs[69]? = Option.some Tq.f69 := by intros; kernel_rfl
@[simp] theorem Tq.nfree69 : Tq.f69.nfree = 0 := by intros; kernel_rfl
@[simp] theorem Tq.ntmps69 : Tq.f69.ntmps = 23 := by intros; kernel_rfl
@[simp] theorem Tq.params69 : Tq.f69.params = #[27, 24] := by intros; kernel_rfl
@[simp] theorem Tq.results69 : Tq.f69.results = #[Go.ResultVar.tmp 4] := by intros; kernel_rfl
@[simp] theorem Tq.call70 : ∀ (args : Array Go.Value) (w : Go.World), Go.Sem.run Tq.prog (Go.callFunc 70 args) w = Go.Result.ok (Go.Next.enter 70 args) w := by intros; kernel_rfl
@[simp] theorem Tq.func70 : Tq.prog.funcs[70]? = Option.some Tq.f70 := by intros; kernel_rfl
@[simp] theorem Tq.nfree70 : Tq.f70.nfree = 0 := by intros; kernel_rfl
@[simp] theorem Tq.ntmps70 : Tq.f70.ntmps = 48 := by intros; kernel_rfl
@[simp] theorem Tq.params70 : Tq.f70.params = #[27, 24] := by intros; kernel_rfl
@[simp] theorem Tq.results70 : Tq.f70.results = #[Go.ResultVar.tmp 4] := by intros; kernel_rfl
@[simp] theorem Tq.call71 : ∀ (args : Array Go.Value) (w : Go.World), Go.Sem.run Tq.prog (Go.callFunc 71 args) w = Go.Result.ok (Go.Next.enter 71 args) w := by intros; kernel_rfl
@[simp] theorem Tq.func71 : Tq.prog.funcs[71]? = Option.some Tq.f71 := by intros; kernel_rfl
@[simp] theorem Tq.nfree71 : Tq.f71.nfree = 0 := by intros; kernel_rfl
@[simp] theorem Tq.ntmps71 : Tq.f71.ntmps = 15 := by intros; kernel_rfl
@[simp] theorem Tq.params71 : Tq.f71.params = #[3] := by intros; kernel_rfl
@[simp] theorem Tq.results71 : Tq.f71.results = #[Go.ResultVar.tmp 2] := by intros; kernel_rfl
@[simp] theorem Tq.call73 : ∀ (args : Array Go.Value) (w : Go.World), Go.Sem.run Tq.prog (Go.callFunc 73 args) w = Go.Result.ok (Go.Next.enter 73 args) w := by intros; kernel_rfl
@[simp] theorem Tq.func73 : Tq.prog.funcs[73]? = Option.some Tq.f73 := by intros; kernel_rfl
@[simp] theorem Tq.nfree73 : Tq.f73.nfree = 0 := by intros; kernel_rfl
@[simp] theorem Tq.ntmps73 : Tq.f73.ntmps = 13 := by intros; kernel_rfl
@[simp] theorem Tq.params73 : Tq.f73.params = #[84, 3] := by intros; kernel_rfl
@[simp] theorem Tq.results73 : Tq.f73.results = #[Go.ResultVar.tmp 4] := by intros; kernel_rfl
@[simp] theorem Tq.call74 : ∀ (args : Array Go.Value) (w : Go.World), Go.Sem.run Tq.prog (Go.callFunc 74 args) w = Go.Result.ok (Go.Next.enter 74 args) w := by intros; kernel_rfl
@[simp] theorem Tq.func74 : Tq.prog.funcs[74]? = Option.some Tq.f74 := by intros; kernel_rfl
@[simp] theorem Tq.nfree74 : Tq.f74.nfree = 0 := by intros; kernel_rfl
@[simp] theorem Tq.ntmps74 : Tq.f74.ntmps = 11 := by intros; kernel_rfl
@[simp] theorem Tq.params74 : Tq.f74.params = #[84] := by intros; kernel_rfl
@[simp] theorem Tq.results74 : Tq.f74.results = #[Go.ResultVar.cell 2 48] := by intros; kernel_rfl
@[simp] theorem Tq.call75 : ∀ (args : Array Go.Value) (w : Go.World), Go.Sem.run Tq.prog (Go.callFunc 75 args) w = Go.Result.ok (Go.Next.enter 75 args) w := by intros; kernel_rfl
@[simp] theorem Tq.func75 : Tq.prog.funcs[75]? = Option.some Tq.f75 := by intros; kernel_rfl
@[simp] theorem Tq.nfree75 : Tq.f75.nfree = 0 := by intros; kernel_rfl
@[simp] theorem Tq.ntmps75 : Tq.f75.ntmps = 15 := by intros; kernel_rfl
@[simp] theorem Tq.params75 : Tq.f75.params = #[48, 48] := by intros; kernel_rfl
@[simp] theorem Tq.results75 : Tq.f75.results = #[Go.ResultVar.tmp 4] := by intros; kernel_rfl
@[simp] theorem Tq.isAgg84 : ∀ (w : Go.World), Go.Sem.run Tq.prog (Go.isAgg 84) w = Go.Result.ok Bool.true w := by intros; kernel_rfl
@[simp] theorem Tq.runUnderlying84 : ∀ (w : Go.World), Go.Sem.run Tq.prog (Go.underlying 84) w = Go.Result.ok (Go.TypeDesc.struct #[{ name := "Text", type := 9, offset := 0, embedded := Bool.false, tag := "", pkgPath := "", byteOffset := 0 }, { name := "Many", type := 3, offset := 1, embedded := Bool.false, tag := "", pkgPath := "", byteOffset := 16 }]) w := by intros; kernel_rfl
@[simp] theorem Tq.sizeOf84 : ∀ (w : Go.World), Go.Sem.run Tq.prog (Go.sizeOf 84) w = Go.Result.ok 2 w := by intros; kernel_rfl
@[simp] theorem Tq.type84 : Tq.prog.types[84]? = Option.some Go.Proofs.Try.t84 := by intros; kernel_rfl
@[simp] theorem Tq.typeInfo84 : ∀ (w : Go.World), Go.Sem.run Tq.prog (Go.typeInfo 84) w = Go.Result.ok Go.Proofs.Try.t84 w := by intros; kernel_rfl
@[simp] theorem Tq.underlying84 : Tq.prog.underlying 84 = Option.some (Go.TypeDesc.struct #[{ name := "Text", type := 9, offset := 0, embedded := Bool.false, tag := "", pkgPath := "", byteOffset := 0 }, { name := "Many", type := 3, offset := 1, embedded := Bool.false, tag := "", pkgPath := "", byteOffset := 16 }]) := by intros; kernel_rfl
@[simp] theorem Tq.zeroValue84 : ∀ (w : Go.World), Go.Sem.run Tq.prog (Go.zeroValue 84) w = Go.Result.ok (Go.Value.agg #[Go.Value.string { data := #[] }, Go.Value.int Go.IntKind.i64 0]) w := by intros; kernel_rfl
@[simp] theorem Tq.call96 : ∀ (args : Array Go.Value) (w : Go.World), Go.Sem.run Tq.prog (Go.callFunc 96 args) w = Go.Result.ok (Go.Next.enter 96 args) w := by intros; kernel_rfl
@[simp] theorem Tq.func96 : Tq.prog.funcs[96]? = Option.some Tq.f96 := by intros; kernel_rfl
@[simp] theorem Tq.nfree96 : Tq.f96.nfree = 0 := by intros; kernel_rfl
@[simp] theorem Tq.ntmps96 : Tq.f96.ntmps = 29 := by intros; kernel_rfl
@[simp] theorem Tq.params96 : Tq.f96.params = #[27, 24] := by intros; kernel_rfl
@[simp] theorem Tq.results96 : Tq.f96.results = #[Go.ResultVar.tmp 4] := by intros; kernel_rfl
@[simp] theorem Tq.nfree97 : Tq.f97.nfree = 0 := by intros; kernel_rfl
@[simp] theorem Tq.params97 : Tq.f97.params = #[27, 3] := by intros; kernel_rfl
@[simp] theorem Tq.results97 : Tq.f97.results = #[Go.ResultVar.tmp 4] := by intros; kernel_rfl
end Go.Proofs
