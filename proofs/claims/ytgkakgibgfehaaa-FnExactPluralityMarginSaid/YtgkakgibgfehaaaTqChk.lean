/-
  MADE BY PROGRAM (gen_ok.py): THE FUNCTIONS OF THIS SEAT THAT THE SIMULATION SERVES; the two programs, held against the checks.
-/
import Derived.Test.YtgkakgibgfehaaaSh14
import Derived.Test.YtgkakgibgfehaaaSh1
import Derived.KernelRfl
namespace Go.Proofs.Ytgkakgibgfehaaa.Sim
def goodL : List Nat := [3, 4, 5, 6, 7, 8, 9, 10, 11, 12, 13, 14, 15, 16, 17, 18, 19, 20, 21, 22, 23, 24, 25, 26, 27, 28, 29, 30, 31, 32, 33, 34, 35, 36, 37, 38, 39, 40, 41, 42, 43, 44, 45, 46, 47, 48, 49, 50, 51, 52, 53, 54, 55, 56, 57, 58, 59, 60, 61, 62, 63, 64, 65, 66, 67, 68, 69, 70, 71, 72, 73, 74, 75, 76, 77, 78, 79, 80, 81, 82, 83, 84, 88, 90, 91, 92, 93, 94, 95, 96, 97, 98, 99, 100, 101, 102, 103, 104, 105, 119, 125, 126, 127, 128, 129, 130, 131, 132, 133, 139, 140, 141]
/-- Between the two programs: function 52 has two bodies. -/
def okS (sh : Nat → Nat) : Cx := ⟨fun f => goodL.contains f, fun f => f == 141, fun f => f != 52, sh, true⟩
/-- Of the one program alone. -/
def okT : Cx := ⟨fun f => goodL.contains f, fun f => f == 141, fun _ => true, fun _ => 0, true⟩
noncomputable def tabs : Tables := Try.progTables
noncomputable def fsL : Array Func := Try.funcs.setIfInBounds 52 Tq.f52
noncomputable def fsC : Array Func := Try.funcs
def chkP (ok : Cx) (T : Tables) (F F' : Array Func) (f : Nat) : Bool := match F[f]?, F'[f]? with
  | some fn, some fn' => fn.body.isSome && fn'.body.isSome && !(fn.name == "runtime.NumGoroutine") && !(fn'.name == "runtime.NumGoroutine") && (match fn.body with | some b => okCode ok T b | none => false)
  | _, _ => false
theorem allS (sh : Nat → Nat) : goodL.all (fun f => f == 141 || chkP (okS sh) tabs fsL fsC f) = true := by kernel_rfl
theorem allT : goodL.all (fun f => f == 141 || chkP okT tabs fsL fsL f) = true := by kernel_rfl
theorem allI : goodL.all (fun f => (tabs.inits.idxOf? f).isNone) = true := by kernel_rfl
end Go.Proofs.Ytgkakgibgfehaaa.Sim
