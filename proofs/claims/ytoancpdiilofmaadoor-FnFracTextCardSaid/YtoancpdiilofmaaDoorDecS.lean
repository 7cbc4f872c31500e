/-
  spec.l6Dec: a number from 0 to 9999999 in decimals; it writes into no memory that was there.
-/
import Derived.Test.YtoancpdiilofmaaDoorDecP
import Derived.Test.YtoancpdiilofmaaDoorTwo
import Derived.Laws.BytesArg
import Derived.Laws.Concat
import Derived.Deep.RegionLaw
import Derived.Deep.Cut
import Derived.Deep.CutRange
namespace Go.Proofs.YtoancpdiilofmaaDoor
open Go.RowKit

theorem ret_str {a b : ByteArray} (h : a = b) : Ending.returned (.string a) = .returned (.string b) := by rw [h]
theorem digit_str (n : Nat) : strOfNums [48 + (n : Int)] = ⟨#[UInt8.ofNat (48 + n)]⟩ := by
  have e : (48 + (n : Int)).toNat = 48 + n := by omega
  simp [strOfNums, e]
/-- One byte as a text. -/
theorem conv_one (W : World) (g : Nat) (x : Int) (hc : W.cell? ⟨g, 0, none⟩ = some (.int .u8 x)) :
    (convert 22 9 (.slice (some ⟨g, 0, none⟩) 1 1)).run Tryd.prog W = .ok (.string (strOfNums [x])) W :=
  run_convert_bytes_arg W 22 5 Tryd.underlying22 Tryd.underlying5 g 0 1 1 [x] rfl (fun i hi => by
    obtain rfl : i = 0 := by omega
    exact hc) 9 Tryd.underlying9

set_option maxRecDepth 100000 in
set_option maxHeartbeats 2000000 in
/-- **l6Dec**, of one digit. -/
theorem dec_one (n : Nat) (h : n < 10) (w : World) :
    Calls Tryd.prog 15 #[.int .i64 (n : Int)] w fun e w' => e = .returned (.string (decB n)) ∧ Below w.heap.size w w' := by
  have hD := Lib.hid (decB_small h)
  have hwa : IntKind.i64.wrap (48 + (n : Int)) = 48 + (n : Int) := IntWalk.i64_in _ (by omega)
  have hwb : IntKind.u8.wrap (48 + (n : Int)) = 48 + (n : Int) := by simp [IntKind.wrap, IntKind.bits, IntKind.signed]; omega
  have h1 : decide ((n : Int) < -9223372036854775807) = false := decide_eq_false (by omega)
  have h2 : decide ((n : Int) < 0) = false := decide_eq_false (by omega)
  have h3 : decide ((n : Int) < 10) = true := decide_eq_true (by omega)
  have hcv := conv_one (w.alloc (.cells #[.int .u8 (48 + (n : Int))] 5)) w.heap.size _ ((World.cell?_alloc_mark w _ 5 (0, 0) 0).trans rfl)
  go_enter Tryd.func15, Tryd.ntmps15
  go_wp2
  go_ret
  exact ⟨ret_str (by rw [hD.out, digit_str]), by go_grown⟩

set_option maxRecDepth 100000 in
set_option maxHeartbeats 4000000 in
/-- **l6Dec**, of a further digit. -/
theorem dec_more (n d r : Nat) (hn : n ≤ 9999999) (h : ¬ n < 10) (hd : n / 10 = d) (hr : n % 10 = r) (w : World)
    (ih : ∀ w, Calls Tryd.prog 15 #[.int .i64 (d : Int)] w fun e w' => e = .returned (.string (decB d)) ∧ Below w.heap.size w w') :
    Calls Tryd.prog 15 #[.int .i64 (n : Int)] w fun e w' => e = .returned (.string (decB n)) ∧ Below w.heap.size w w' := by
  have hD := Lib.hid (decB_big h)
  rw [hd, hr] at hD
  have hlen := decB_len (n := d) (by omega)
  have hdi : (n : Int) / 10 = (d : Int) := by omega
  have hri : (n : Int) % 10 = (r : Int) := by omega
  have hr9 : r < 10 := by omega
  have hrt : (n : Int).tmod 10 = (r : Int) := by rw [Int.tmod_eq_emod_of_nonneg (by omega)]; exact hri
  have hdt : (n : Int).tdiv 10 = (d : Int) := by rw [Int.tdiv_eq_ediv_of_nonneg (by omega)]; exact hdi
  have hwd : IntKind.i64.wrap (d : Int) = (d : Int) := IntWalk.i64_in _ (by omega)
  have hwr : IntKind.i64.wrap (r : Int) = (r : Int) := IntWalk.i64_in _ (by omega)
  have hwa : IntKind.i64.wrap (48 + (r : Int)) = 48 + (r : Int) := IntWalk.i64_in _ (by omega)
  have hwb : IntKind.u8.wrap (48 + (r : Int)) = 48 + (r : Int) := by simp [IntKind.wrap, IntKind.bits, IntKind.signed]; omega
  have h1 : decide ((n : Int) < -9223372036854775807) = false := decide_eq_false (by omega)
  have h2 : decide ((n : Int) < 0) = false := decide_eq_false (by omega)
  have h3 : decide ((n : Int) < 10) = false := decide_eq_false (by omega)
  have hcv := conv_one ((w.alloc (.cells #[.int .u8 (48 + (r : Int))] 5)).drew) w.heap.size _ ((World.cell?_alloc_mark w _ 5 (0, 0) 0).trans rfl)
  obtain ⟨s, hs⟩ : ∃ s, decB d = s := ⟨_, rfl⟩
  rw [hs] at hlen hD ih
  have hnb : ¬ 9223372036854775807 < s.size + (strOfNums [48 + (r : Int)]).size := by rw [strOfNums_size]; simp; omega
  have IH := Lib.hid ih
  clear hs hd hr ih
  go_enter Tryd.func15, Tryd.ntmps15
  go_upto_region 7 with fail
  go_cut [2] from 18 to 27 (fun s2 wx => s2 = .string (s ++ strOfNums [48 + (r : Int)]) ∧ Below w.heap.size w wx)
  case first =>
    go_region_law (first
      | (go_simp; go_at_call 15; refine (IH.out _).mono ?_; rintro e w1 ⟨rfl, hb0⟩; have hb := below_drew hb0; (first
          | (have hc1 := (hb.cell (p := ⟨w.heap.size, 0, none⟩) (lt_alloc _ _)).trans ((World.cell?_alloc_mark w _ 5 (0, 0) 0).trans rfl); have hcv1 := conv_one w1 w.heap.size _ hc1; have B1 := Lib.hid (below_on (below_more (Below.refl _ w) _) hb); clear hb hb0)
          | (have hcv1 := conv_one (w1.alloc (.cells #[.int .u8 (48 + (r : Int))] 5)) w1.heap.size _ ((World.cell?_alloc_mark w1 _ 5 (0, 0) 0).trans rfl); have B1 := Lib.hid (below_on (Below.refl _ w) hb); clear hb hb0))))
    all_goals
      go_wp2_with fail
      go_meet
      first
        | exact ⟨rfl, B1.out⟩
        | exact ⟨rfl, below_more B1.out _⟩
  case rest =>
  obtain ⟨rfl, hB⟩ := hcut
  go_wp2
  go_ret
  exact ⟨ret_str (by rw [hD.out, digit_str]), hB⟩

/-- **l6Dec**. -/
theorem dec_any : ∀ (n : Nat), n ≤ 9999999 → ∀ (w : World), Calls Tryd.prog 15 #[.int .i64 (n : Int)] w fun e w' => e = .returned (.string (decB n)) ∧ Below w.heap.size w w' := by
  intro n
  induction n using Nat.strongRecOn with
  | ind n ih =>
    intro hn w
    by_cases h : n < 10
    · exact dec_one n h w
    · exact dec_more n (n / 10) (n % 10) hn h rfl rfl w (ih (n / 10) (by omega) (by omega))
theorem dec_as (n : Nat) (x : Int) (s : ByteArray) (w : World) (hx : (n : Int) = x) (hn : n ≤ 9999999) (hs : decB n = s) : Calls Tryd.prog 15 #[.int .i64 x] w fun e w' => e = .returned (.string s) ∧ Below w.heap.size w w' := by
  subst hx; subst hs; exact dec_any n hn w

end Go.Proofs.YtoancpdiilofmaaDoor
