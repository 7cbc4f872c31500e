/-
  MADE BY PROGRAM (gen_own.py): A FUNCTION OF OUR OWN, which does alone what impl.countsOfParts does with goroutines. It looks at every pile and at every bool first (lengths below a bound; each text a string, each number an int, each bool a bool: where one is not, it does not go on), then counts part by part.
  MADE BY PROGRAM (gen_tq.sh): the program that differs from the given one in one function alone, and its functions.
  MADE BY PROGRAM (gen_tq.sh): facts of this program, part 1.
-/
import Derived.Test.YtgkakgibgfehaaaRows
import Derived.KernelRfl
namespace Go.Proofs
noncomputable def Tq.f52 : Func :=
  { name := "loop.example/tallyaudit/impl.countsOfParts", origin := "", params := #[23, 24], resultTypes := #[67], nfree := 0, ntmps := 48, results := #[.tmp 4], norace := false, tmpNames := #[],
    body := some (.seq (.region 0 #[{ dst := some 4, op := .assign (.const (.slice none 0 0)), type := 67, pos := "", after := #[], guard := none },
      { dst := some 5, op := .call { callee := .builtin .len, args := #[.tmp 0], argTypes := #[23] }, type := 3, pos := "", after := #[], guard := none },
      { dst := some 6, op := .call { callee := .builtin .len, args := #[.tmp 1], argTypes := #[24] }, type := 3, pos := "", after := #[], guard := none },
      { dst := some 7, op := .binOp .lss 3 (.tmp 5) (.const (.int .i64 1048601)) 3, type := 0, pos := "", after := #[], guard := none },
      { dst := some 8, op := .binOp .lss 3 (.tmp 6) (.const (.int .i64 1048601)) 3, type := 0, pos := "", after := #[], guard := none },
      { dst := some 9, op := .call { callee := .builtin .cap, args := #[.tmp 0], argTypes := #[23] }, type := 3, pos := "", after := #[], guard := none },
      { dst := some 10, op := .call { callee := .builtin .cap, args := #[.tmp 1], argTypes := #[24] }, type := 3, pos := "", after := #[], guard := none },
      { dst := some 11, op := .binOp .leq 3 (.tmp 5) (.tmp 9) 3, type := 0, pos := "", after := #[], guard := none },
      { dst := some 12, op := .binOp .leq 3 (.tmp 6) (.tmp 10) 3, type := 0, pos := "", after := #[], guard := none },
      { dst := some 13, op := .move (.const (.int .i64 0)), type := 3, pos := "", after := #[], guard := none },
      { dst := some 39, op := .binOp .eql 23 (.tmp 0) (.const (.slice none 0 0)) 23, type := 0, pos := "", after := #[], guard := none },
      { dst := some 40, op := .binOp .eql 24 (.tmp 1) (.const (.slice none 0 0)) 24, type := 0, pos := "", after := #[], guard := none },
      { dst := some 41, op := .binOp .lss 3 (.const (.int .i64 0)) (.tmp 5) 3, type := 0, pos := "", after := #[], guard := none },
      { dst := some 42, op := .binOp .lss 3 (.const (.int .i64 0)) (.tmp 6) 3, type := 0, pos := "", after := #[], guard := none }] false)
    (.seq (.cond (.tmp 7) .skip (.cond (.const (.int .i64 0)) .skip .skip))
    (.seq (.cond (.tmp 8) .skip (.cond (.const (.int .i64 0)) .skip .skip))
    (.seq (.cond (.tmp 11) .skip (.cond (.const (.int .i64 0)) .skip .skip))
    (.seq (.cond (.tmp 12) .skip (.cond (.const (.int .i64 0)) .skip .skip))
    (.seq (.cond (.tmp 42) .skip (.cond (.const (.int .i64 0)) .skip .skip))
    (.seq (.cond (.tmp 39) (.cond (.tmp 41) (.cond (.const (.int .i64 0)) .skip .skip) .skip) .skip)
    (.seq (.cond (.tmp 40) (.cond (.const (.int .i64 0)) .skip .skip) .skip)
    (.seq (.block 0 (.loop (.seq (.region 1 #[{ dst := some 14, op := .binOp .lss 3 (.tmp 13) (.tmp 5) 3, type := 0, pos := "", after := #[], guard := none }] false)
    (.seq (.cond (.tmp 14) .skip (.exit 0))
    (.seq (.region 2 #[{ dst := some 15, op := .indexAddr 23 (.tmp 0) (.tmp 13), type := 0, pos := "", after := #[], guard := none },
      { dst := some 16, op := .fieldAddr 48 (.tmp 15) 0, type := 0, pos := "", after := #[], guard := none },
      { dst := some 17, op := .load 9 (.tmp 16), type := 9, pos := "", after := #[], guard := none },
      { dst := some 18, op := .call { callee := .builtin .len, args := #[.tmp 17], argTypes := #[9] }, type := 3, pos := "", after := #[], guard := none },
      { dst := some 19, op := .binOp .lss 3 (.tmp 18) (.const (.int .i64 1048601)) 3, type := 0, pos := "", after := #[], guard := none },
      { dst := some 20, op := .fieldAddr 48 (.tmp 15) 1, type := 0, pos := "", after := #[], guard := none },
      { dst := some 21, op := .load 3 (.tmp 20), type := 3, pos := "", after := #[], guard := none },
      { dst := some 22, op := .binOp .lss 3 (.tmp 21) (.const (.int .i64 0)) 3, type := 0, pos := "", after := #[], guard := none }] false)
    (.seq (.cond (.tmp 19) .skip (.cond (.const (.int .i64 0)) .skip .skip))
    (.region 3 #[{ dst := some 23, op := .binOp .add 3 (.tmp 13) (.const (.int .i64 1)) 3, type := 3, pos := "", after := #[], guard := none },
      { dst := some 13, op := .move (.tmp 23), type := 3, pos := "", after := #[], guard := none }] false)))))))
    (.seq (.region 4 #[{ dst := some 43, op := .move (.const (.int .i64 0)), type := 3, pos := "", after := #[], guard := none }] false)
    (.seq (.block 1 (.loop (.seq (.region 5 #[{ dst := some 44, op := .binOp .lss 3 (.tmp 43) (.tmp 6) 3, type := 0, pos := "", after := #[], guard := none }] false)
    (.seq (.cond (.tmp 44) .skip (.exit 1))
    (.seq (.region 6 #[{ dst := some 45, op := .indexAddr 24 (.tmp 1) (.tmp 43), type := 0, pos := "", after := #[], guard := none },
      { dst := some 46, op := .load 4 (.tmp 45), type := 4, pos := "", after := #[], guard := none }] false)
    (.seq (.cond (.tmp 46) .skip .skip)
    (.region 7 #[{ dst := some 47, op := .binOp .add 3 (.tmp 43) (.const (.int .i64 1)) 3, type := 3, pos := "", after := #[], guard := none },
      { dst := some 43, op := .move (.tmp 47), type := 3, pos := "", after := #[], guard := none }] false)))))))
    (.seq (.region 8 #[{ dst := some 28, op := .call { callee := .value (.func 84), args := #[.tmp 0, .const (.int .i64 4)], argTypes := #[23, 3] }, type := 99, pos := "", after := #[], guard := none },
      { dst := some 29, op := .call { callee := .value (.func 83), args := #[.tmp 28], argTypes := #[99] }, type := 96, pos := "", after := #[], guard := none },
      { dst := some 30, op := .call { callee := .builtin .len, args := #[.tmp 29], argTypes := #[96] }, type := 3, pos := "", after := #[], guard := none },
      { dst := some 31, op := .makeSlice 67 (.tmp 30) (.tmp 30), type := 67, pos := "", after := #[], guard := none },
      { dst := some 32, op := .move (.const (.int .i64 0)), type := 3, pos := "", after := #[], guard := none }] false)
    (.seq (.block 2 (.loop (.seq (.region 9 #[{ dst := some 33, op := .binOp .lss 3 (.tmp 32) (.tmp 30) 3, type := 0, pos := "", after := #[], guard := none }] false)
    (.seq (.cond (.tmp 33) .skip (.exit 2))
    (.seq (.region 10 #[{ dst := some 34, op := .indexAddr 96 (.tmp 29) (.tmp 32), type := 0, pos := "", after := #[], guard := none },
      { dst := some 35, op := .load 23 (.tmp 34), type := 23, pos := "", after := #[], guard := none }] false)
    (.seq (.region 11 #[{ dst := some 36, op := .call { callee := .value (.func 88), args := #[.tmp 35, .tmp 1], argTypes := #[23, 24] }, type := 27, pos := "", after := #[], guard := none }] false)
    (.seq (.region 12 #[{ dst := some 37, op := .indexAddr 67 (.tmp 31) (.tmp 32), type := 0, pos := "", after := #[], guard := none },
      { dst := none, op := .store 27 (.tmp 37) (.tmp 36), type := 0, pos := "", after := #[], guard := none }] false)
    (.region 13 #[{ dst := some 38, op := .binOp .add 3 (.tmp 32) (.const (.int .i64 1)) 3, type := 3, pos := "", after := #[], guard := none },
      { dst := some 32, op := .move (.tmp 38), type := 3, pos := "", after := #[], guard := none }] false))))))))
    (.seq (.region 14 #[{ dst := some 4, op := .assign (.tmp 31), type := 67, pos := "", after := #[], guard := none }] false)
    .ret)))))))))))))) }
@[simp] theorem Tq.results52 : Tq.f52.results = #[.tmp 4] := by kernel_rfl
@[simp] theorem Tq.ntmps52 : Tq.f52.ntmps = 48 := by kernel_rfl
end Go.Proofs

namespace Go.Proofs
noncomputable abbrev Tq.f3 : Func := Try.f3
noncomputable abbrev Tq.f14 : Func := Try.f14
noncomputable abbrev Tq.f15 : Func := Try.f15
noncomputable abbrev Tq.f16 : Func := Try.f16
noncomputable abbrev Tq.f17 : Func := Try.f17
noncomputable abbrev Tq.f18 : Func := Try.f18
noncomputable abbrev Tq.f19 : Func := Try.f19
noncomputable abbrev Tq.f47 : Func := Try.f47
noncomputable abbrev Tq.f48 : Func := Try.f48
noncomputable abbrev Tq.f49 : Func := Try.f49
noncomputable abbrev Tq.f50 : Func := Try.f50
noncomputable abbrev Tq.f51 : Func := Try.f51
noncomputable abbrev Tq.f53 : Func := Try.f53
noncomputable abbrev Tq.f54 : Func := Try.f54
noncomputable abbrev Tq.f55 : Func := Try.f55
noncomputable abbrev Tq.f63 : Func := Try.f63
noncomputable abbrev Tq.f72 : Func := Try.f72
noncomputable abbrev Tq.f77 : Func := Try.f77
noncomputable abbrev Tq.f78 : Func := Try.f78
noncomputable abbrev Tq.f79 : Func := Try.f79
noncomputable abbrev Tq.f80 : Func := Try.f80
noncomputable abbrev Tq.f81 : Func := Try.f81
noncomputable abbrev Tq.f82 : Func := Try.f82
noncomputable abbrev Tq.f83 : Func := Try.f83
noncomputable abbrev Tq.f84 : Func := Try.f84
noncomputable abbrev Tq.f88 : Func := Try.f88
noncomputable abbrev Tq.f90 : Func := Try.f90
noncomputable abbrev Tq.f91 : Func := Try.f91
noncomputable abbrev Tq.f92 : Func := Try.f92
noncomputable abbrev Tq.f93 : Func := Try.f93
noncomputable abbrev Tq.f94 : Func := Try.f94
noncomputable abbrev Tq.f97 : Func := Try.f97
noncomputable abbrev Tq.f99 : Func := Try.f99
noncomputable abbrev Tq.f100 : Func := Try.f100
noncomputable abbrev Tq.f101 : Func := Try.f101
noncomputable abbrev Tq.f102 : Func := Try.f102
noncomputable abbrev Tq.f103 : Func := Try.f103
noncomputable abbrev Tq.f104 : Func := Try.f104
noncomputable abbrev Tq.f105 : Func := Try.f105
noncomputable abbrev Tq.f119 : Func := Try.f119
noncomputable abbrev Tq.f125 : Func := Try.f125
noncomputable abbrev Tq.f131 : Func := Try.f131
noncomputable abbrev Tq.f132 : Func := Try.f132
noncomputable abbrev Tq.f133 : Func := Try.f133
noncomputable abbrev Tq.f139 : Func := Try.f139
noncomputable abbrev Tq.f140 : Func := Try.f140
noncomputable abbrev Tq.f141 : Func := Try.f141
noncomputable def Tq.prog : Program := { toTables := Try.progTables, funcs := Try.funcs.setIfInBounds 52 Tq.f52 }
end Go.Proofs

set_option maxRecDepth 100000
namespace Go.Proofs
@[simp] theorem Tq.underlying124 : Tq.prog.underlying 124 = Option.some (Go.TypeDesc.array 5 4) := by intros; kernel_rfl
@[simp] theorem Tq.zeroValue124 : ∀ (w : Go.World), Go.Sem.run Tq.prog (Go.zeroValue 124) w = Go.Result.ok (Go.Value.agg #[Go.Value.bool Bool.false, Go.Value.bool Bool.false, Go.Value.bool Bool.false, Go.Value.bool Bool.false, Go.Value.bool Bool.false]) w := by intros; kernel_rfl
@[simp] theorem Tq.call125 : ∀ (args : Array Go.Value) (w : Go.World), Go.Sem.run Tq.prog (Go.callFunc 125 args) w = Go.Result.ok (Go.Next.enter 125 args) w := by intros; kernel_rfl
@[simp] theorem Tq.func125 : Tq.prog.funcs[125]? = Option.some Tq.f125 := by intros; kernel_rfl
@[simp] theorem Tq.call131 : ∀ (args : Array Go.Value) (w : Go.World), Go.Sem.run Tq.prog (Go.callFunc 131 args) w = Go.Result.ok (Go.Next.enter 131 args) w := by intros; kernel_rfl
@[simp] theorem Tq.func131 : Tq.prog.funcs[131]? = Option.some Tq.f131 := by intros; kernel_rfl
@[simp] theorem Tq.ntmps131 : Tq.f131.ntmps = 13 := by intros; kernel_rfl
@[simp] theorem Tq.func132 : Tq.prog.funcs[132]? = Option.some Tq.f132 := by intros; kernel_rfl
@[simp] theorem Tq.ntmps132 : Tq.f132.ntmps = 18 := by intros; kernel_rfl
@[simp] theorem Tq.call133 : ∀ (args : Array Go.Value) (w : Go.World), Go.Sem.run Tq.prog (Go.callFunc 133 args) w = Go.Result.ok (Go.Next.enter 133 args) w := by intros; kernel_rfl
@[simp] theorem Tq.func133 : Tq.prog.funcs[133]? = Option.some Tq.f133 := by intros; kernel_rfl
@[simp] theorem Tq.ntmps133 : Tq.f133.ntmps = 4 := by intros; kernel_rfl
@[simp] theorem Tq.func139 : Tq.prog.funcs[139]? = Option.some Tq.f139 := by intros; kernel_rfl
@[simp] theorem Tq.func140 : Tq.prog.funcs[140]? = Option.some Tq.f140 := by intros; kernel_rfl
@[simp] theorem Tq.ntmps140 : Tq.f140.ntmps = 16 := by intros; kernel_rfl
@[simp] theorem Tq.func141 : Tq.prog.funcs[141]? = Option.some Tq.f141 := by intros; kernel_rfl
end Go.Proofs
