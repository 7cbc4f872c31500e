/-
  DrawFracOf, DrawFracAdd, DrawFracTimes, DrawFracLess, DrawFracValid: drawn numbers and fractions; nothing is written that was there. No condition but what each theorem says.
-/
import Derived.Test.YtoancpdiilofmaaFracD
namespace Go.Proofs.Ytoancpdiilofmaa
open Go.RowKit

/-- What the draw of two fractions says to its caller. -/
def DrawnTwo (w : World) (e : Ending) (w' : World) : Prop := ∃ a1 a2 b1 b2 : Int, e = .returned (.tuple #[.agg #[.int .i64 a1, .int .i64 a2], .agg #[.int .i64 b1, .int .i64 b2]]) ∧ Below w.heap.size w w'
def DrawnOne (w : World) (e : Ending) (w' : World) : Prop := ∃ x y : Int, e = .returned (.agg #[.int .i64 x, .int .i64 y]) ∧ Below w.heap.size w w'

set_option maxRecDepth 100000 in
set_option maxHeartbeats 4000000 in
/-- **DrawFracValid**. -/
theorem drawFracValid_any (a : Option Addr) (len cap : Nat) (bs : List Int) (w : World) (h : IsBytes w a len bs) (hcap : len ≤ cap) (hl : len ≤ 1048600) :
    Calls Try.prog 30 #[.slice a len cap] w (DrawnOne w) := by
  have T0 := Lib.hid (Two.new w 0 0 26)
  have B0 := Lib.hid ((Below.refl _ w).alloc (Nat.le_refl _) (.cells #[.int .i64 0, .int .i64 0] 26))
  have H := Lib.hid (h.below B0.out); clear h
  go_enter Try.func30, Try.ntmps30
  go_wp2_with fail
  refine (open_any a len cap bs _ H.out hcap hl).mono ?_
  rintro e w1 ⟨rfl, hr, hb⟩
  have hR : (w.alloc (.cells #[.int .i64 0, .int .i64 0] 26)).heap.size = w.heap.size + 1 := by simp
  have T1 := Lib.hid (T0.out.below hb)
  have B1 := Lib.hid (below_on B0.out hb)
  rw [hR] at hr
  have R1 := Lib.hid hr
  clear hr hb
  simp only [hR]
  go_wp2_with fail
  refine (l93_any (w.heap.size + 1) 0 _ R1.out (by omega)).mono ?_
  rintro e w2 ⟨x, y, rfl, hr, hs⟩
  have T2 := Lib.hid (T1.out.step hs (by omega))
  have B2 := Lib.hid (B1.out.trans (hs.below (by omega) (Nat.le_of_lt T1.out.lt)))
  clear hr hs
  obtain ⟨lr, r0, r9, g0, g9⟩ := T2.out
  have k0 := Two.set0 T2.out (.int .i64 x)
  have k9 := Two.set1 T2.out (.int .i64 x) (.int .i64 y)
  go_wp2
  refine bodyPost_ret (v := .agg #[.int .i64 x, .int .i64 y]) (by simp [results, Try.results30, go_sem, k0, k9]) rfl ?_
  exact ⟨x, y, rfl, below_set2 B2.out (Nat.le_refl _) _ _⟩

theorem duo_step {R g : Nat} {a1 a2 b1 b2 : Int} {w w' : World} (h : Duo g a1 a2 b1 b2 w) (hs : Step R w w') (h1 : g + 1 < R) : Duo g a1 a2 b1 b2 w' := ⟨h.a.step hs (by omega), h.b.step hs (by omega)⟩

set_option maxRecDepth 100000 in
set_option maxHeartbeats 4000000 in
/-- **DrawFracAdd**. -/
theorem drawFracAdd_any (a : Option Addr) (len cap : Nat) (bs : List Int) (w : World) (h : IsBytes w a len bs) (hcap : len ≤ cap) (hl : len ≤ 1048600) :
    Calls Try.prog 20 #[.slice a len cap] w (DrawnTwo w) := by
  have T0 := Lib.hid (Duo.new w 0 0 0 0 26 26)
  have B0 := Lib.hid (two_allocs w (.cells #[.int .i64 0, .int .i64 0] 26) (.cells #[.int .i64 0, .int .i64 0] 26))
  have H := Lib.hid (h.below B0.out); clear h
  go_enter Try.func20, Try.ntmps20
  go_wp2_with fail
  refine (open_any a len cap bs _ H.out hcap hl).mono ?_
  rintro e w1 ⟨rfl, hr, hb⟩
  have hR : ((w.alloc (.cells #[.int .i64 0, .int .i64 0] 26)).alloc (.cells #[.int .i64 0, .int .i64 0] 26)).heap.size = w.heap.size + 1 + 1 := size_two _ _ _
  have T1 := Lib.hid (T0.out.below hb)
  have B1 := Lib.hid (below_on B0.out hb)
  rw [hR] at hr
  have R1 := Lib.hid hr
  clear hr hb
  simp only [hR]
  go_wp2_with fail
  refine (l93_any (w.heap.size + 1 + 1) 0 _ R1.out (by omega)).mono ?_
  rintro e w2 ⟨a1, a2, rfl, hr, hs⟩
  have T2 := Lib.hid (duo_step T1.out hs (by omega))
  have B2 := Lib.hid (B1.out.trans (hs.below (by omega) (Nat.le_of_lt T1.out.a.lt)))
  have hle : w.heap.size + 1 + 1 < w2.heap.size := hr.1
  have A3 := Lib.hid (Two.new w2 a1 a2 26)
  have R3 := Lib.hid (hr.alloc (.cells #[.int .i64 a1, .int .i64 a2] 26))
  have T3 := Lib.hid (T2.out.below ((Below.refl _ w2).alloc (Nat.le_refl _) (.cells #[.int .i64 a1, .int .i64 a2] 26)))
  have B3 := Lib.hid (below_on B2.out ((Below.refl _ w2).alloc (Nat.le_refl _) (.cells #[.int .i64 a1, .int .i64 a2] 26)))
  clear hr hs
  go_wp2_with fail
  go_region_law (first
    | (go_simp; go_at_call 40; refine (l93_any (w.heap.size + 1 + 1) (0 + 3) _ ?_ (by omega)).mono ?_; (first | exact R3.out | exact R3.out.drew); rintro e w4 ⟨b1, b2, rfl, hr4, hs⟩; have hs4 := Step.of_drew hs; have B4 := Lib.hid (B3.out.trans (hs4.below (by omega) (Nat.le_of_lt T3.out.a.lt))); have T4 := Lib.hid (duo_step T3.out hs4 (by omega)); obtain ⟨⟨la, p0, p9, q0, q9⟩, ⟨lb, r0, r9, g0, g9⟩⟩ := T4.out; obtain ⟨lc, c0, c9, -, -⟩ := A3.out.step hs4 (by omega); clear hr4 hs hs4))
  all_goals
    have Ta := ((T4.out.a.stored a1 a2).other (g' := w.heap.size + 1) (o := 0) (v := .int .i64 b1) (by omega)).other (g' := w.heap.size + 1) (o := 1) (v := .int .i64 b2) (by omega)
    have Tb := ((T4.out.b.other (g' := w.heap.size) (o := 0) (v := .int .i64 a1) (by omega)).other (g' := w.heap.size) (o := 1) (v := .int .i64 a2) (by omega)).stored b1 b2
    have BB := below_set2 (below_set2 B4.out (Nat.le_refl _) (.int .i64 a1) (.int .i64 a2)) (g := w.heap.size + 1) (by omega) (.int .i64 b1) (.int .i64 b2)
    obtain ⟨-, k0, k9, -, -⟩ := Ta
    obtain ⟨-, j0, j9, -, -⟩ := Tb
    clear la p0 p9 q0 q9 lb r0 r9 g0 g9 lc c0 c9
    generalize (((w4.setCell ⟨w.heap.size, 0, none⟩ (.int .i64 a1)).setCell ⟨w.heap.size, 1, none⟩ (.int .i64 a2)).setCell ⟨w.heap.size + 1, 0, none⟩ (.int .i64 b1)).setCell ⟨w.heap.size + 1, 1, none⟩ (.int .i64 b2) = wE at *
    go_wp2
    refine bodyPost_ret (v := .tuple #[.agg #[.int .i64 a1, .int .i64 a2], .agg #[.int .i64 b1, .int .i64 b2]]) (by simp [results, Try.results20, go_sem, k0, k9, j0, j9]) rfl ?_
    exact ⟨a1, a2, b1, b2, rfl, BB⟩

set_option maxRecDepth 100000 in
set_option maxHeartbeats 4000000 in
/-- **DrawFracTimes**. -/
theorem drawFracTimes_any (a : Option Addr) (len cap : Nat) (bs : List Int) (w : World) (h : IsBytes w a len bs) (hcap : len ≤ cap) (hl : len ≤ 1048600) :
    Calls Try.prog 23 #[.slice a len cap] w (DrawnTwo w) := by
  have T0 := Lib.hid (Duo.new w 0 0 0 0 26 26)
  have B0 := Lib.hid (two_allocs w (.cells #[.int .i64 0, .int .i64 0] 26) (.cells #[.int .i64 0, .int .i64 0] 26))
  have H := Lib.hid (h.below B0.out); clear h
  go_enter Try.func23, Try.ntmps23
  go_wp2_with fail
  refine (drawFracAdd_any a len cap bs _ H.out hcap hl).mono ?_
  rintro e w1 ⟨a1, a2, b1, b2, rfl, hb⟩
  have T4 := Lib.hid (T0.out.below hb)
  have B4 := Lib.hid (below_on B0.out hb)
  clear hb
  obtain ⟨⟨la, p0, p9, q0, q9⟩, ⟨lb, r0, r9, g0, g9⟩⟩ := T4.out
  go_wp2
  have Ta := ((T4.out.a.stored a1 a2).other (g' := w.heap.size + 1) (o := 0) (v := .int .i64 b1) (by omega)).other (g' := w.heap.size + 1) (o := 1) (v := .int .i64 b2) (by omega)
  have Tb := ((T4.out.b.other (g' := w.heap.size) (o := 0) (v := .int .i64 a1) (by omega)).other (g' := w.heap.size) (o := 1) (v := .int .i64 a2) (by omega)).stored b1 b2
  have BB := below_set2 (below_set2 B4.out (Nat.le_refl _) (.int .i64 a1) (.int .i64 a2)) (g := w.heap.size + 1) (by omega) (.int .i64 b1) (.int .i64 b2)
  obtain ⟨-, k0, k9, -, -⟩ := Ta
  obtain ⟨-, j0, j9, -, -⟩ := Tb
  refine bodyPost_ret (v := .tuple #[.agg #[.int .i64 a1, .int .i64 a2], .agg #[.int .i64 b1, .int .i64 b2]]) (by simp [results, Try.results23, go_sem, k0, k9, j0, j9]) rfl ?_
  exact ⟨a1, a2, b1, b2, rfl, BB⟩

set_option maxRecDepth 100000 in
set_option maxHeartbeats 4000000 in
/-- **DrawFracLess**. -/
theorem drawFracLess_any (a : Option Addr) (len cap : Nat) (bs : List Int) (w : World) (h : IsBytes w a len bs) (hcap : len ≤ cap) (hl : len ≤ 1048600) :
    Calls Try.prog 26 #[.slice a len cap] w (DrawnTwo w) := by
  have T0 := Lib.hid (Duo.new w 0 0 0 0 26 26)
  have B0 := Lib.hid (two_allocs w (.cells #[.int .i64 0, .int .i64 0] 26) (.cells #[.int .i64 0, .int .i64 0] 26))
  have H := Lib.hid (h.below B0.out); clear h
  go_enter Try.func26, Try.ntmps26
  go_wp2_with fail
  refine (drawFracAdd_any a len cap bs _ H.out hcap hl).mono ?_
  rintro e w1 ⟨a1, a2, b1, b2, rfl, hb⟩
  have T4 := Lib.hid (T0.out.below hb)
  have B4 := Lib.hid (below_on B0.out hb)
  clear hb
  obtain ⟨⟨la, p0, p9, q0, q9⟩, ⟨lb, r0, r9, g0, g9⟩⟩ := T4.out
  go_wp2
  have Ta := ((T4.out.a.stored a1 a2).other (g' := w.heap.size + 1) (o := 0) (v := .int .i64 b1) (by omega)).other (g' := w.heap.size + 1) (o := 1) (v := .int .i64 b2) (by omega)
  have Tb := ((T4.out.b.other (g' := w.heap.size) (o := 0) (v := .int .i64 a1) (by omega)).other (g' := w.heap.size) (o := 1) (v := .int .i64 a2) (by omega)).stored b1 b2
  have BB := below_set2 (below_set2 B4.out (Nat.le_refl _) (.int .i64 a1) (.int .i64 a2)) (g := w.heap.size + 1) (by omega) (.int .i64 b1) (.int .i64 b2)
  obtain ⟨-, k0, k9, -, -⟩ := Ta
  obtain ⟨-, j0, j9, -, -⟩ := Tb
  refine bodyPost_ret (v := .tuple #[.agg #[.int .i64 a1, .int .i64 a2], .agg #[.int .i64 b1, .int .i64 b2]]) (by simp [results, Try.results26, go_sem, k0, k9, j0, j9]) rfl ?_
  exact ⟨a1, a2, b1, b2, rfl, BB⟩

end Go.Proofs.Ytoancpdiilofmaa
