/-
  spec.BallotParse: the ballot of a text, in memory of the call's own; texts and ballots lead to each other. No condition but what each theorem says.
-/
import Derived.Test.YtdmjgicopnihgaaSText
import Derived.Test.YtdmjgicopnihgaaOwn
import Derived.Deep.Onto
namespace Go.Proofs.Ytdmjgicopnihgaa
open Go.RowKit

/-- What a row owns it owns while what lay there stays. -/
theorem owns_below {w w' : World} {base n size : Nat} {e : TypeId} {v : Value} {xs : List Value} (h : w.ownsRow base e size v n xs) (hb : Below w.heap.size w w') : w'.ownsRow base e size v n xs := by
  refine h.kept (row := none) ⟨hb.os, hb.tape, hb.output, hb.size, fun k hk _ => hb.block k hk⟩ ?_
  cases v.ownBlock <;> simp

/-- What is returned: the ballot, in memory of the call's own; and whether there is one. -/
def Parsed (w : World) (s : ByteArray) (e : Ending) (w' : World) : Prop :=
  ∃ a cap, e = .returned (.tuple #[.slice a (parseL s).length cap, .bool (validB (nums s) 5)]) ∧ w'.ownsRow w.heap.size 3 1 (.slice a (parseL s).length cap) (parseL s).length ((parseL s).map (Value.int .i64)) ∧ Below w.heap.size w w'

theorem ret_two {v v' : Value} {b b' : Bool} (h : v = v') (hb : b = b') : Ending.returned (.tuple #[v, .bool b]) = .returned (.tuple #[v', .bool b']) := by rw [h, hb]

set_option maxHeartbeats 1000000 in
/-- **spec.BallotParse**. -/
theorem specParse_any (s : ByteArray) (w : World) (hs : s.size ≤ 1048600) :
    Calls Try.prog 49 #[.string s] w (Parsed w s) := by
  obtain ⟨i0, hi, hz0, hz1, hz2⟩ := info_parts int_info
  have hown0 := World.ownsRow_lit (base := w.heap.size) (e := 3) (size := 1) w #[] 0 (Nat.le_refl _) (by unfold maxLen; omega) rfl
  have HO := Lib.hid hown0; clear hown0
  go_enter Try.func49, Try.ntmps49
  go_wp2
  go_loopw [4, 5] (fun o i wr => ∃ k : Nat, k ≤ s.size ∧ i = .int .i64 k ∧ (∃ v, o = v ∧ Hid (wr.ownsRow w.heap.size 3 1 v k (((nums s).take k).map (Value.int .i64)))) ∧ Below w.heap.size w wr) (fun _ i _ => s.size - (intOf i).toNat)
  case atStart => exact ⟨0, Nat.zero_le _, rfl, ⟨_, rfl, HO.out⟩, (Below.refl _ w).alloc (Nat.le_refl _) _⟩
  case round =>
    obtain ⟨k, hk, rfl, ⟨v, rfl, hov⟩, hB⟩ := hrel
    by_cases hlt : k < s.size
    · have h256 : (s[k].toNat : Int) < 256 := by have := s[k].toNat_lt; omega
      have HN := Lib.hid (nums_step s k hlt)
      have hsz := hB.size
      go_wp2_with (at_builtin; refine wpList_append_own _ rfl _ _ 54 rfl w.heap.size 3 i0 (.int .i64 0) 1 8 Try.underlying54 hi hz0 hz1 hz2 rfl (by decide) _ _ _ rfl (hov.out.alloc _) ⟨wr.heap.size, 0, none⟩ 1 1 [.int .i64 ((s[k].toNat : Int) - 97)] rfl rfl (cell_one_new _ _ _) (by simp [Value.oneCell']) (by unfold maxLen; omega) (by omega) (by simp; omega) ?_; intro v' w3 hown' hgrow _)
      have hB3 : Below w.heap.size w w3 := (hB.alloc hsz _).grown hgrow (by simp; omega) (fun j ej => (hov.out.lt j ej).1)
      clear hgrow
      go_roundw
      case rel =>
        refine ⟨k + 1, by omega, by go_num, ⟨v', rfl, ?_⟩, hB3⟩
        unfold Hid
        rw [HN.out, List.map_append]
        exact hown'
      case measure => simp [intOf]; omega
    · obtain rfl : k = s.size := by omega
      have hall : (nums s).take s.size = nums s := List.take_of_length_le (by rw [nums_length]; omega)
      have ho := hov.out
      rw [hall] at ho
      clear hov hall
      obtain ⟨a, cap, hv⟩ := owns_slice ho
      rw [hv] at ho ⊢
      clear hv
      have HI := Lib.hid (IsInts.of_owned ho hs)
      have HO2 := Lib.hid ho; clear ho
      cases hok : validB (nums s) 5
      · have hp : Hid (parseL s = []) := by simp [Hid, parseL, hok]
        go_wp2_with fail
        refine (specValid_any _ _ _ (nums s) _ _ HI.out).mono ?_
        rintro e w4 ⟨rfl, hd⟩
        have hB4 := hB.trans (hd.below _)
        have hsz4 := hB4.size
        go_wp2
        go_ret2
        refine ⟨some ⟨w4.heap.size, 0, none⟩, 0, ?_, ?_, ?_⟩
        · rw [hp.out, hok]; rfl
        · rw [hp.out]; exact World.ownsRow_lit w4 #[] 0 hsz4 (by unfold maxLen; omega) rfl
        · exact hB4.alloc hsz4 _
      · have hp : Hid (parseL s = nums s) := by simp [Hid, parseL, hok]
        go_wp2_with fail
        refine (specValid_any _ _ _ (nums s) _ _ HI.out).mono ?_
        rintro e w4 ⟨rfl, hd⟩
        have hB4 := hB.trans (hd.below _)
        go_wp2
        go_ret2
        refine ⟨a, cap, ?_, ?_, hB4⟩
        · rw [hp.out, nums_length, hok]; rfl
        · rw [hp.out, nums_length]; obtain ⟨q, rfl⟩ := hd; exact HO2.out

/-- **spec.BallotParse**, its answer named. -/
theorem specParse_as (s : ByteArray) (pl : List Int) (ok : Bool) (w : World) (hs : s.size ≤ 1048600) (h1 : parseL s = pl) (h2 : validB (nums s) 5 = ok) :
    Calls Try.prog 49 #[.string s] w fun e w' => ∃ a cap, e = .returned (.tuple #[.slice a pl.length cap, .bool ok]) ∧ w'.ownsRow w.heap.size 3 1 (.slice a pl.length cap) pl.length (pl.map (Value.int .i64)) ∧ Below w.heap.size w w' := by
  subst h1; subst h2; exact specParse_any s w hs

end Go.Proofs.Ytdmjgicopnihgaa
