/-
  spec.BallotParse and impl.BallotParse answer alike: for every text of at most 1048576 bytes; what they return is memory of their own.
-/
import Derived.Test.YtdmjgicopnihgaaParse
import Derived.Deep.Onto
namespace Go.Proofs.Ytdmjgicopnihgaa
open Go.RowKit Go.Shelf

set_option maxRecDepth 100000 in
set_option maxHeartbeats 1000000 in
/-- **impl.BallotParse** answers as the model does. -/
theorem implParse_any (s : ByteArray) (w : World) (hs : s.size ≤ 1048600) :
    Calls Try.prog 59 #[.string s] w (Parsed w s) := by
  by_cases hlong : 5 < s.size
  · have hok : validB (nums s) 5 = false := by
      cases h : validB (nums s) 5 with
      | false => rfl
      | true => have := validB_short h; rw [nums_length] at this; omega
    have hp : Hid (parseL s = []) := by simp [Hid, parseL, hok]
    have HOK := Lib.hid hok; clear hok
    go_enter Try.func59, Try.ntmps59
    go_wp2
    go_ret2
    refine ⟨none, 0, ?_, ?_, Below.refl _ _⟩
    · rw [hp.out, HOK.out]; rfl
    · rw [hp.out]; exact World.ownsRow_nil _ _ _ _
  · have hsh : s.size ≤ 5 := by omega
    clear hlong
    go_enter Try.func59, Try.ntmps59
    go_wp2_with fail
    refine (callsIn_wide.1 (letterCandidates_in Fence.wide 8 trivial rfl s _)).mono ?_
    rintro e w1 ⟨rfl, rfl⟩
    have bS := Boxed.new w 9 (.string s)
    go_wp2_with fail
    refine (collect_in w.heap.size s hs _ (by simp) bS.cell).mono ?_
    rintro e w2 ⟨v, rfl, ho, hb⟩
    have hB2 : Below w.heap.size w w2 := ((Below.refl _ w).alloc (Nat.le_refl _) _).trans (hb.mono (by simp))
    have ho := ho.mono (base' := w.heap.size) (by simp)
    obtain ⟨a, cap, hv⟩ := owns_slice ho
    rw [hv] at ho ⊢
    clear hv hb bS
    have HI := Lib.hid (IsInts.of_owned ho hs)
    have HO2 := Lib.hid ho; clear ho
    cases hok : validB (nums s) 5
    · have hp : Hid (parseL s = []) := by simp [Hid, parseL, hok]
      go_wp2_with fail
      refine (implValid_any _ _ _ (nums s) _ _ HI.out).mono ?_
      rintro e w4 ⟨rfl, hd⟩
      have hB4 := hB2.trans (hd.mono hB2.size)
      go_wp2
      go_ret2
      refine ⟨none, 0, ?_, ?_, hB4⟩
      · rw [hp.out, hok]; rfl
      · rw [hp.out]; exact World.ownsRow_nil _ _ _ _
    · have hp : Hid (parseL s = nums s) := by simp [Hid, parseL, hok]
      go_wp2_with fail
      refine (implValid_any _ _ _ (nums s) _ _ HI.out).mono ?_
      rintro e w4 ⟨rfl, hd⟩
      have hB4 := hB2.trans (hd.mono hB2.size)
      go_wp2
      go_ret2
      refine ⟨a, cap, ?_, ?_, hB4⟩
      · rw [hp.out, nums_length, hok]; rfl
      · rw [hp.out, nums_length]; exact owns_below HO2.out hd

/-- **impl.BallotParse**, its answer named. -/
theorem implParse_as (s : ByteArray) (pl : List Int) (ok : Bool) (w : World) (hs : s.size ≤ 1048600) (h1 : parseL s = pl) (h2 : validB (nums s) 5 = ok) :
    Calls Try.prog 59 #[.string s] w fun e w' => ∃ a cap, e = .returned (.tuple #[.slice a pl.length cap, .bool ok]) ∧ w'.ownsRow w.heap.size 3 1 (.slice a pl.length cap) pl.length (pl.map (Value.int .i64)) ∧ Below w.heap.size w w' := by
  subst h1; subst h2; exact implParse_any s w hs

end Go.Proofs.Ytdmjgicopnihgaa
