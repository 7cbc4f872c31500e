/-
  impl.overAllOthers: of whom a row is true for each other one. For every function value whose rows are closures over two variables.
-/
import Derived.Test.YtaaamidkfhabnaaGrp7
import Derived.Test.YtaaamidkfhabnaaGrp8
import Derived.Test.YtaaamidkfhabnaaGrp6
namespace Go.Proofs.Ytaaamidkfhabnaa
open Go.RowKit

attribute [local go_sem] Oper.semAt_some

/-- A call of function k enters it. -/
def Ent (k : Nat) : Prop := ∀ (args : Array Value) (w : World), (callFunc k args).run Try.prog w = .ok (.enter k args) w
/-- What lies below base, and from lo to hi, has not turned. -/
structure Near (base lo hi : Nat) (w w' : World) : Prop where
  size : w.heap.size ≤ w'.heap.size
  block : ∀ b, b < base ∨ (lo ≤ b ∧ b < hi) → w'.heap[b]? = w.heap[b]?
theorem Near.cell {base lo hi : Nat} {w w' : World} (h : Near base lo hi w w') {b : Nat} (o : Nat) (hb : b < base ∨ (lo ≤ b ∧ b < hi)) : w'.cell? ⟨b, o, none⟩ = w.cell? ⟨b, o, none⟩ := World.cell?_of_block (a := ⟨b, o, none⟩) (h.block b hb)
theorem Near.trans {base lo hi : Nat} {a b c : World} (h : Near base lo hi a b) (h' : Near base lo hi b c) : Near base lo hi a c := ⟨Nat.le_trans h.size h'.size, fun k hk => (h'.block k hk).trans (h.block k hk)⟩
theorem Near.of_below {base lo hi : Nat} {w w' : World} (h : Below w.heap.size w w') (h1 : base ≤ w.heap.size) (h2 : hi ≤ w.heap.size) : Near base lo hi w w' := ⟨h.size, fun b hb => h.block b (by omega)⟩
theorem Near.refl (base lo hi : Nat) (w : World) : Near base lo hi w w := ⟨Nat.le_refl _, fun _ _ => rfl⟩
/-- A row: a closure over two variables that tells V of each of n candidates, as long as what lies below base, and from lo to hi, does not turn. -/
def RowFn (base lo hi : Nat) (w : World) (k p q n : Nat) (V : Nat → Value) : Prop :=
  ∀ w', Near base lo hi w w' → ∀ y : Nat, y < n → Calls Try.prog k #[.int .i64 (y : Int), .pointer (some ⟨p, 0, none⟩), .pointer (some ⟨q, 0, none⟩)] w' fun e w'' => e = .returned (V y) ∧ Dr w' w''
theorem RowFn.near {base lo hi : Nat} {w w' : World} {k p q n : Nat} {V : Nat → Value} (h : RowFn base lo hi w k p q n V) (hb : Near base lo hi w w') : RowFn base lo hi w' k p q n V :=
  fun w2 hb2 y hy => h w2 (hb.trans hb2) y hy
/-- What makes the row of x. -/
def RowOf (w : World) (k : Nat) (first cap : Array Value) (n k2 : Nat) (V : Nat → Nat → Value) : Prop :=
  ∀ x : Nat, x < n → ∀ w', Below w.heap.size w w' → Calls Try.prog k (first ++ #[.int .i64 (x : Int)] ++ cap) w' fun e w'' => ∃ p q, e = .returned (.func (.func k2) #[] #[.pointer (some ⟨p, 0, none⟩), .pointer (some ⟨q, 0, none⟩)]) ∧ RowFn w.heap.size w'.heap.size w''.heap.size w'' k2 p q n (V x) ∧ Below w'.heap.size w' w''

/-- Of whom a table is true for each other one. -/
def overB (T : Nat → Nat → Bool) (n x : Nat) : Bool := allTo (fun y => decide (x = y) || T x y) n

set_option maxRecDepth 100000 in
set_option maxHeartbeats 4000000 in
/-- **overAllOthers**. -/
theorem over_any (n k k2 : Nat) (first cap : Array Value) (T : Nat → Nat → Bool) (L : List Int) (w : World) (hk : Ent k) (hk2 : Ent k2) (hrow : RowOf w k first cap n k2 (fun x y => .bool (T x y))) (hn : n ≤ 5) (hL : candTo (overB T n) n = L) :
    Calls Try.prog 51 #[.int .i64 (n : Int), .func (.func k) first cap] w fun e w' => ∃ a c, e = .returned (.slice a L.length c) ∧ w'.ownsRow w.heap.size 3 1 (.slice a L.length c) L.length (L.map (Value.int .i64)) ∧ Below w.heap.size w w' := by
  obtain ⟨i0, hi, hz0, hz1, hz2⟩ := info_parts int_info
  have HR := Lib.hid hrow
  have HL := Lib.hid hL
  unfold Ent at hk hk2
  clear hrow hL
  go_enter Try.func51, Try.ntmps51
  go_wp2
  go_loopw [5, 6, 7, 8, 9, 11, 18] (fun rv _ _ _ _ xv _ wr => ∃ (x : Nat) (ao : Option Addr) (co : Nat) (l : List Int), x ≤ n ∧ xv = .int .i64 (x : Int) ∧ rv = .slice ao l.length co ∧ l.length ≤ x ∧ Hid (candTo (overB T n) x = l) ∧ Hid (wr.ownsRow w.heap.size 3 1 (.slice ao l.length co) l.length (l.map (Value.int .i64))) ∧ Below w.heap.size w wr) (fun _ _ _ _ _ xv _ _ => n - (intOf xv).toNat)
  case atStart => exact ⟨0, none, 0, [], Nat.zero_le _, rfl, rfl, Nat.le_refl _, rfl, ⟨rfl, .inl ⟨rfl, rfl⟩⟩, Below.refl _ _⟩
  case round =>
    rename World => wx
    obtain ⟨x, ao, co, l, hx, rfl, rfl, hll, hLx, hO, hB⟩ := hrel
    by_cases hlt : x < n
    · go_wp2_with fail
      refine (HR.out x hlt _ hB).mono ?_
      rintro e w3 ⟨p, q, rfl, hrf, hb3⟩
      have hO3 := Lib.hid (owns_under hO.out hb3)
      have hB3 := hB.trans (hb3.mono hB.size)
      have HRF := Lib.hid hrf
      have hw3 : w.heap.size ≤ w3.heap.size := hB3.size
      clear hO hB hb3 hrf
      go_wp2
      go_loopw [8, 9, 18] (fun av _ yv wr => ∃ (y : Nat) (u : Bool), y ≤ n ∧ yv = .int .i64 (y : Int) ∧ av = .bool u ∧ Hid (allTo (fun y => decide (x = y) || T x y) y = u) ∧ Dr w3 wr) (fun _ _ yv _ => n - (intOf yv).toNat)
      case atStart => exact ⟨0, true, Nat.zero_le _, rfl, rfl, rfl, Dr.refl _⟩
      case round =>
        obtain ⟨y, u, hy, rfl, rfl, hA2, hd2⟩ := hrel
        by_cases hlt2 : y < n
        · cases u
          · go_wp2
            go_roundw
            case rel => exact ⟨y + 1, false, by omega, by go_num, rfl, by unfold Hid; rw [allTo_succ, hA2.out]; rfl, hd2⟩
            case measure => simp [intOf]; omega
          · by_cases hxy : x = y
            · subst hxy
              have he : ((x : Int) == (x : Int)) = true := by simp
              go_wp2
              go_roundw
              case rel => exact ⟨x + 1, true, by omega, by go_num, rfl, by unfold Hid; rw [allTo_succ, hA2.out]; simp, hd2⟩
              case measure => simp [intOf]; omega
            · have he : ((x : Int) == (y : Int)) = false := beq_eq_false_iff_ne.2 (by omega)
              obtain ⟨v, hv⟩ : ∃ v, T x y = v := ⟨_, rfl⟩
              have HV := Lib.hid hv
              have hc := HRF.out _ (Near.of_below (hd2.below _) hw3 (Nat.le_refl _)) y hlt2
              simp only [hv] at hc
              have HC := Lib.hid hc
              clear hv hc
              go_wp2_with fail
              refine HC.out.mono ?_
              rintro e w5 ⟨rfl, hd5⟩
              have hd6 := hd2.trans hd5
              clear hd5 HC
              go_wp2
              go_roundw
              case rel => exact ⟨y + 1, v, by omega, by go_num, rfl, by unfold Hid; rw [allTo_succ, hA2.out, HV.out, decide_eq_false hxy]; rfl, hd6⟩
              case measure => simp [intOf]; omega
        · obtain rfl : y = n := by omega
          have HBX : Hid (overB T y x = u) := hA2.out
          have hO5 := Lib.hid (owns_under hO3.out (hd2.below _))
          have hB5 := hB3.trans (hd2.below w.heap.size)
          clear hA2 hO3 hB3 hd2 HRF
          rename World => w6
          cases u
          · go_wp2
            go_roundw
            case rel => exact ⟨x + 1, ao, co, l, by omega, by go_num, rfl, by omega, by unfold Hid; rw [candTo_no HBX.out]; exact hLx.out, hO5, hB5⟩
            case measure => simp [intOf]; omega
          · have hBs := hB5.size
            have HL4 : Hid (candTo (overB T y) (x + 1) = l ++ [(x : Int)]) := by unfold Hid; rw [candTo_yes HBX.out, hLx.out]
            go_wp2_with (at_builtin; refine wpList_append_own _ rfl _ _ 30 rfl w.heap.size 3 i0 (.int .i64 0) 1 8 Try.underlying30 hi hz0 hz1 hz2 rfl (by decide) _ _ _ rfl (hO5.out.alloc _) ⟨w6.heap.size, 0, none⟩ 1 1 [.int .i64 (x : Int)] rfl rfl (cell_one_new _ _ _) (by simp [Value.oneCell']) (by unfold maxLen; omega) (by omega) (by simp; omega) ?_; intro v' w4 hown' hgrow _; obtain ⟨a4, cap4, rfl⟩ := owns_slice hown')
            have hrow : ∀ j, (Value.slice ao l.length co).ownBlock = some j → w.heap.size ≤ j := fun j ej => (hO5.out.lt j ej).1
            have hB4 : Below w.heap.size w w4 := (hB5.alloc hBs (.cells #[.int .i64 (x : Int)] 3)).grown hgrow (by simp; omega) (fun j e => hrow j e)
            have HO4 : Hid (w4.ownsRow w.heap.size 3 1 (.slice a4 (l ++ [(x : Int)]).length cap4) (l ++ [(x : Int)]).length ((l ++ [(x : Int)]).map (Value.int .i64))) := by
              unfold Hid; rw [List.map_append, List.length_append]; exact hown'
            have hlen : l.length + 1 = (l ++ [(x : Int)]).length := by simp
            clear hown' hgrow hrow
            go_wp2
            go_roundw
            case rel => exact ⟨x + 1, a4, cap4, l ++ [(x : Int)], by omega, by go_num, by rw [← hlen], by omega, HL4, HO4, hB4⟩
            case measure => simp [intOf]; omega
    · obtain rfl : x = n := by omega
      have e2 : Hid (L = l) := by unfold Hid; rw [← HL.out, hLx.out]
      clear hLx
      go_wp2
      go_ret
      exact ⟨ao, co, by rw [e2.out]; rfl, by rw [e2.out]; exact hO.out, hB⟩

end Go.Proofs.Ytaaamidkfhabnaa
