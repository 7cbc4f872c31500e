/-
  impl's Pile.compare: the order of texts, byte by byte; impl.PilesValid: for every slice of piles with texts of at most 1048600 bytes. Neither writes into memory that was there.
-/
import Derived.Test.YtdmjgicopnihgaaMapP
import Derived.Test.YtdmjgicopnihgaaShelf
import Derived.Test.YtdmjgicopnihgaaPilesVS
import Derived.Sort.Grow
namespace Go.Proofs.Ytdmjgicopnihgaa
open Go.RowKit Go.Shelf Go.Sort

theorem below_grow {B : Nat} {w w' : World} (h : Below B w w') (hB : B ≤ w.heap.size) (os : Array Obj) : Below B w (grow w' os) := ⟨h.os, h.tape, h.output, by have := h.size; simp; omega, fun k hk => (heap_grow_old _ _ (Nat.lt_of_lt_of_le hk (Nat.le_trans hB h.size))).trans (h.block k hk)⟩

set_option maxHeartbeats 1000000 in
/-- **impl's Pile.compare**. -/
theorem compare_any (p q : Pl) (w : World) :
    Calls Try.prog 45 #[.agg #[.string p.1, .int .i64 p.2], .agg #[.string q.1, .int .i64 q.2]] w fun e w' => e = .returned (.int .i64 (cmpP p q)) ∧ ∃ n os, w' = grow (w.drewN n) os := by
  obtain ⟨r, hr⟩ : ∃ r, Lib.compareBytes p.1.data.toList q.1.data.toList = r := ⟨_, rfl⟩
  have hcon := fun W => Any.strings_Compare Try.cmpStr p.1 q.1 W
  change ∀ W, Calls Try.prog 60 _ _ _ at hcon
  rw [hr] at hcon
  have HR : Hid (cmpP p q = r) := hr
  clear hr
  go_enter Try.func45, Try.ntmps45
  go_wp2_with (go_at_call 60; refine (hcon _).mono ?_; rintro e w' ⟨rfl, rfl⟩)
  go_ret
  exact ⟨ret_int HR.out.symm, 0, _, by rw [alloc_eq_grow, alloc_eq_grow, grow_grow]; rfl⟩
theorem compare_below (p q : Pl) (w : World) :
    Calls Try.prog 45 #[.agg #[.string p.1, .int .i64 p.2], .agg #[.string q.1, .int .i64 q.2]] w fun e w' => e = .returned (.int .i64 (cmpP p q)) ∧ Below w.heap.size w w' :=
  (compare_any p q w).mono fun _ _ ⟨he, n, os, hw⟩ => ⟨he, by subst hw; exact below_grow (below_drewN _ _ _) (Nat.le_refl _) _⟩
theorem compare_as (t : ByteArray) (m : Int) (t' : ByteArray) (m' : Int) (r : Int) (w : World) (h : cmpP (t, m) (t', m') = r) :
    Calls Try.prog 45 #[.agg #[.string t, .int .i64 m], .agg #[.string t', .int .i64 m']] w fun e w' => e = .returned (.int .i64 r) ∧ Below w.heap.size w w' := by
  subst h; exact compare_below (t, m) (t', m') w
theorem enters_compare : ∀ args w, (callFunc 45 args).run Try.prog w = .ok (.enter 45 args) w := enters_of Try.func45 (by kernel_rfl) rfl

end Go.Proofs.Ytdmjgicopnihgaa
