/-
  impl's table of pairs: what its block holds, and the rows that are closures over it.
-/
import Derived.Test.YtaaamidkfhabnaaGrp7
import Derived.Test.YtaaamidkfhabnaaGrp8
import Derived.Test.YtaaamidkfhabnaaOver
import Derived.Shelf.Abstract
import Derived.Laws.EntriesVeiled
import Derived.Deep.QuietTactic
namespace Go.Proofs.Ytaaamidkfhabnaa
open Go.RowKit

attribute [local go_sem] Oper.semAt_some

/-- The block g holds the table M of n candidates. -/
structure IsPT (w : World) (g n : Nat) (M : Nat → Nat → Int) : Prop where
  lt : g < w.heap.size
  num : w.cell? ⟨g, 0, none⟩ = some (.int .i64 (n : Int))
  cell : ∀ x y, x < n → y < n → w.cell? ⟨g, 1 + x * 5 + y, none⟩ = some (.int .i64 (M x y))
theorem IsPT.near {w w' : World} {base lo hi g n : Nat} {M : Nat → Nat → Int} (h : IsPT w g n M) (hn : Near base lo hi w w') (hg : g < base) : IsPT w' g n M :=
  ⟨Nat.lt_of_lt_of_le h.lt hn.size, (hn.cell 0 (.inl hg)).trans h.num, fun x y hx hy => (hn.cell _ (.inl hg)).trans (h.cell x y hx hy)⟩
theorem IsPT.below {w w' : World} {g n : Nat} {M : Nat → Nat → Int} (h : IsPT w g n M) (hb : Below w.heap.size w w') : IsPT w' g n M :=
  ⟨Nat.lt_of_lt_of_le h.lt hb.size, (hb.cell (p := ⟨g, 0, none⟩) h.lt).trans h.num, fun x y hx hy => (hb.cell (p := ⟨g, 1 + x * 5 + y, none⟩) h.lt).trans (h.cell x y hx hy)⟩

set_option maxHeartbeats 1000000 in
/-- **counts$1**. -/
theorem counts1_any (g n x y bt bx : Nat) (M : Nat → Nat → Int) (z : Int) (w : World) (h : IsPT w g n M) (ht : w.cell? ⟨bt, 0, none⟩ = some (.pointer (some ⟨g, 0, none⟩))) (hx : w.cell? ⟨bx, 0, none⟩ = some (.int .i64 (x : Int))) (hx5 : x < n) (hy5 : y < n) (hn : n ≤ 5) (hz : M x y = z) :
    Calls Try.prog 83 #[.int .i64 (y : Int), .pointer (some ⟨bt, 0, none⟩), .pointer (some ⟨bx, 0, none⟩)] w fun e w' => e = .returned (.int .i64 z) ∧ Dr w w' := by
  have c := h.cell x y hx5 hy5
  rw [hz] at c
  have hxi : (x : Int) < 5 := by omega
  have hyi : (y : Int) < 5 := by omega
  clear h hz
  go_enter Try.func83, Try.ntmps83
  go_wp2_with fail
  go_quiet (fail)
  go_wp2
  go_ret
  exact ⟨rfl, Dr.drewN (Dr.refl _) _⟩

set_option maxHeartbeats 1000000 in
/-- **beats$1**. -/
theorem beats1_any (g n x y bt bx : Nat) (M : Nat → Nat → Int) (v : Bool) (w : World) (h : IsPT w g n M) (ht : w.cell? ⟨bt, 0, none⟩ = some (.pointer (some ⟨g, 0, none⟩))) (hx : w.cell? ⟨bx, 0, none⟩ = some (.int .i64 (x : Int))) (hx5 : x < n) (hy5 : y < n) (hn : n ≤ 5) (hv : decide (M y x < M x y) = v) :
    Calls Try.prog 91 #[.int .i64 (y : Int), .pointer (some ⟨bt, 0, none⟩), .pointer (some ⟨bx, 0, none⟩)] w fun e w' => e = .returned (.bool v) ∧ Dr w w' := by
  have c := h.cell x y hx5 hy5
  have c' := h.cell y x hy5 hx5
  obtain ⟨p, hp⟩ : ∃ p, M x y = p := ⟨_, rfl⟩
  obtain ⟨q, hq⟩ : ∃ q, M y x = q := ⟨_, rfl⟩
  rw [hp] at c
  rw [hq] at c'
  rw [hp, hq] at hv
  have hxi : (x : Int) < 5 := by omega
  have hyi : (y : Int) < 5 := by omega
  clear h hp hq
  go_enter Try.func91, Try.ntmps91
  go_wp2_with fail
  go_quiet (fail)
  go_wp2
  go_ret
  exact ⟨rfl, Dr.drewN (Dr.refl _) _⟩

set_option maxHeartbeats 1000000 in
/-- **holds$1**. -/
theorem holds1_any (g n x y bt bx : Nat) (M : Nat → Nat → Int) (v : Bool) (w : World) (h : IsPT w g n M) (ht : w.cell? ⟨bt, 0, none⟩ = some (.pointer (some ⟨g, 0, none⟩))) (hx : w.cell? ⟨bx, 0, none⟩ = some (.int .i64 (x : Int))) (hx5 : x < n) (hy5 : y < n) (hn : n ≤ 5) (hv : decide (M y x ≤ M x y) = v) :
    Calls Try.prog 93 #[.int .i64 (y : Int), .pointer (some ⟨bt, 0, none⟩), .pointer (some ⟨bx, 0, none⟩)] w fun e w' => e = .returned (.bool v) ∧ Dr w w' := by
  have c := h.cell x y hx5 hy5
  have c' := h.cell y x hy5 hx5
  obtain ⟨p, hp⟩ : ∃ p, M x y = p := ⟨_, rfl⟩
  obtain ⟨q, hq⟩ : ∃ q, M y x = q := ⟨_, rfl⟩
  rw [hp] at c
  rw [hq] at c'
  rw [hp, hq] at hv
  have hxi : (x : Int) < 5 := by omega
  have hyi : (y : Int) < 5 := by omega
  clear h hp hq
  go_enter Try.func93, Try.ntmps93
  go_wp2_with fail
  go_quiet (fail)
  go_wp2
  go_ret
  exact ⟨rfl, Dr.drewN (Dr.refl _) _⟩

theorem cell_first (w : World) (v : Value) (t : TypeId) : (w.alloc (.cells #[v] t)).cell? ⟨w.heap.size, 0, none⟩ = some v := by
  simp
theorem counts_ent : Ent 47 := Go.Proofs.enters_of Try.func47 (by kernel_rfl) rfl
theorem counts1_ent : Ent 83 := Go.Proofs.enters_of Try.func83 (by kernel_rfl) rfl
theorem beats_ent : Ent 52 := Go.Proofs.enters_of Try.func52 (by kernel_rfl) rfl
theorem beats1_ent : Ent 91 := Go.Proofs.enters_of Try.func91 (by kernel_rfl) rfl
theorem holds_ent : Ent 58 := Go.Proofs.enters_of Try.func58 (by kernel_rfl) rfl
theorem holds1_ent : Ent 93 := Go.Proofs.enters_of Try.func93 (by kernel_rfl) rfl
theorem steps_ent : Ent 67 := Go.Proofs.enters_of Try.func67 (by kernel_rfl) rfl
theorem steps1_ent : Ent 94 := Go.Proofs.enters_of Try.func94 (by kernel_rfl) rfl

set_option maxHeartbeats 1000000 in
/-- **counts** makes the row of x. -/
theorem counts_made (g x : Nat) (w : World) :
    Calls Try.prog 47 #[.pointer (some ⟨g, 0, none⟩), .int .i64 (x : Int)] w fun e w' => e = .returned (.func (.func 83) #[] #[.pointer (some ⟨w.heap.size, 0, none⟩), .pointer (some ⟨w.heap.size + 1, 0, none⟩)]) ∧
      Below w.heap.size w w' ∧ w'.cell? ⟨w.heap.size, 0, none⟩ = some (.pointer (some ⟨g, 0, none⟩)) ∧ w'.cell? ⟨w.heap.size + 1, 0, none⟩ = some (.int .i64 (x : Int)) ∧ w.heap.size + 1 < w'.heap.size := by
  go_enter Try.func47, Try.ntmps47
  go_wp2
  go_ret
  refine ⟨rfl, ((Below.refl _ w).alloc (Nat.le_refl _) _).alloc (by simp) _, ?_, ?_, by simp⟩
  · exact (World.cell?_alloc_past _ _ _ (by simp)).trans (cell_first w _ _)
  · have := cell_first (w.alloc (.cells #[.pointer (some ⟨g, 0, none⟩)] 50)) (.int .i64 (x : Int)) 3
    rwa [World.size_alloc] at this
theorem counts_row {w : World} {g n : Nat} {M : Nat → Nat → Int} (h : IsPT w g n M) (hn : n ≤ 5) : RowOf w 47 #[.pointer (some ⟨g, 0, none⟩)] #[] n 83 (fun x y => .int .i64 (M x y)) := by
  intro x hx w' hb
  have e0 : (#[Value.pointer (some ⟨g, 0, none⟩)] ++ #[Value.int .i64 (x : Int)] ++ #[] : Array Value) = #[.pointer (some ⟨g, 0, none⟩), .int .i64 (x : Int)] := rfl
  rw [e0]
  refine (counts_made g x w').mono ?_
  rintro e w2 ⟨rfl, hb2, c1, c2, hs⟩
  refine ⟨_, _, rfl, fun w3 hb3 y hy => ?_, hb2⟩
  exact counts1_any g n x y _ _ M _ w3 (((h.below hb).below hb2).near hb3 h.lt) ((hb3.cell 0 (.inr ⟨Nat.le_refl _, by omega⟩)).trans c1) ((hb3.cell 0 (.inr ⟨by omega, hs⟩)).trans c2) hx hy hn rfl

set_option maxHeartbeats 1000000 in
/-- **beats** makes the row of x. -/
theorem beats_made (g x : Nat) (w : World) :
    Calls Try.prog 52 #[.pointer (some ⟨g, 0, none⟩), .int .i64 (x : Int)] w fun e w' => e = .returned (.func (.func 91) #[] #[.pointer (some ⟨w.heap.size, 0, none⟩), .pointer (some ⟨w.heap.size + 1, 0, none⟩)]) ∧
      Below w.heap.size w w' ∧ w'.cell? ⟨w.heap.size, 0, none⟩ = some (.pointer (some ⟨g, 0, none⟩)) ∧ w'.cell? ⟨w.heap.size + 1, 0, none⟩ = some (.int .i64 (x : Int)) ∧ w.heap.size + 1 < w'.heap.size := by
  go_enter Try.func52, Try.ntmps52
  go_wp2
  go_ret
  refine ⟨rfl, ((Below.refl _ w).alloc (Nat.le_refl _) _).alloc (by simp) _, ?_, ?_, by simp⟩
  · exact (World.cell?_alloc_past _ _ _ (by simp)).trans (cell_first w _ _)
  · have := cell_first (w.alloc (.cells #[.pointer (some ⟨g, 0, none⟩)] 50)) (.int .i64 (x : Int)) 3
    rwa [World.size_alloc] at this
theorem beats_row {w : World} {g n : Nat} {M : Nat → Nat → Int} (h : IsPT w g n M) (hn : n ≤ 5) : RowOf w 52 #[.pointer (some ⟨g, 0, none⟩)] #[] n 91 (fun x y => .bool (decide (M y x < M x y))) := by
  intro x hx w' hb
  have e0 : (#[Value.pointer (some ⟨g, 0, none⟩)] ++ #[Value.int .i64 (x : Int)] ++ #[] : Array Value) = #[.pointer (some ⟨g, 0, none⟩), .int .i64 (x : Int)] := rfl
  rw [e0]
  refine (beats_made g x w').mono ?_
  rintro e w2 ⟨rfl, hb2, c1, c2, hs⟩
  refine ⟨_, _, rfl, fun w3 hb3 y hy => ?_, hb2⟩
  exact beats1_any g n x y _ _ M _ w3 (((h.below hb).below hb2).near hb3 h.lt) ((hb3.cell 0 (.inr ⟨Nat.le_refl _, by omega⟩)).trans c1) ((hb3.cell 0 (.inr ⟨by omega, hs⟩)).trans c2) hx hy hn rfl

set_option maxHeartbeats 1000000 in
/-- **holds** makes the row of x. -/
theorem holds_made (g x : Nat) (w : World) :
    Calls Try.prog 58 #[.pointer (some ⟨g, 0, none⟩), .int .i64 (x : Int)] w fun e w' => e = .returned (.func (.func 93) #[] #[.pointer (some ⟨w.heap.size, 0, none⟩), .pointer (some ⟨w.heap.size + 1, 0, none⟩)]) ∧
      Below w.heap.size w w' ∧ w'.cell? ⟨w.heap.size, 0, none⟩ = some (.pointer (some ⟨g, 0, none⟩)) ∧ w'.cell? ⟨w.heap.size + 1, 0, none⟩ = some (.int .i64 (x : Int)) ∧ w.heap.size + 1 < w'.heap.size := by
  go_enter Try.func58, Try.ntmps58
  go_wp2
  go_ret
  refine ⟨rfl, ((Below.refl _ w).alloc (Nat.le_refl _) _).alloc (by simp) _, ?_, ?_, by simp⟩
  · exact (World.cell?_alloc_past _ _ _ (by simp)).trans (cell_first w _ _)
  · have := cell_first (w.alloc (.cells #[.pointer (some ⟨g, 0, none⟩)] 50)) (.int .i64 (x : Int)) 3
    rwa [World.size_alloc] at this
theorem holds_row {w : World} {g n : Nat} {M : Nat → Nat → Int} (h : IsPT w g n M) (hn : n ≤ 5) : RowOf w 58 #[.pointer (some ⟨g, 0, none⟩)] #[] n 93 (fun x y => .bool (decide (M y x ≤ M x y))) := by
  intro x hx w' hb
  have e0 : (#[Value.pointer (some ⟨g, 0, none⟩)] ++ #[Value.int .i64 (x : Int)] ++ #[] : Array Value) = #[.pointer (some ⟨g, 0, none⟩), .int .i64 (x : Int)] := rfl
  rw [e0]
  refine (holds_made g x w').mono ?_
  rintro e w2 ⟨rfl, hb2, c1, c2, hs⟩
  refine ⟨_, _, rfl, fun w3 hb3 y hy => ?_, hb2⟩
  exact holds1_any g n x y _ _ M _ w3 (((h.below hb).below hb2).near hb3 h.lt) ((hb3.cell 0 (.inr ⟨Nat.le_refl _, by omega⟩)).trans c1) ((hb3.cell 0 (.inr ⟨by omega, hs⟩)).trans c2) hx hy hn rfl

set_option maxHeartbeats 1000000 in
/-- **steps$1**. -/
theorem steps1_any (g n x y p q b1 b2 c1 c2 : Nat) (M : Nat → Nat → Int) (z : Int) (w : World) (h : IsPT w g n M) (hp : w.cell? ⟨p, 0, none⟩ = some (.func (.func 91) #[] #[.pointer (some ⟨b1, 0, none⟩), .pointer (some ⟨b2, 0, none⟩)])) (hq : w.cell? ⟨q, 0, none⟩ = some (.func (.func 83) #[] #[.pointer (some ⟨c1, 0, none⟩), .pointer (some ⟨c2, 0, none⟩)]))
    (hb1 : w.cell? ⟨b1, 0, none⟩ = some (.pointer (some ⟨g, 0, none⟩))) (hb2 : w.cell? ⟨b2, 0, none⟩ = some (.int .i64 (x : Int))) (hc1 : w.cell? ⟨c1, 0, none⟩ = some (.pointer (some ⟨g, 0, none⟩))) (hc2 : w.cell? ⟨c2, 0, none⟩ = some (.int .i64 (x : Int))) (hx5 : x < n) (hy5 : y < n) (hn : n ≤ 5) (hz : steps M x y = z) :
    Calls Try.prog 94 #[.int .i64 (y : Int), .pointer (some ⟨p, 0, none⟩), .pointer (some ⟨q, 0, none⟩)] w fun e w' => e = .returned (.int .i64 z) ∧ Dr w w' := by
  obtain ⟨v, hv⟩ : ∃ v, decide (M y x < M x y) = v := ⟨_, rfl⟩
  have B := Lib.hid (beats1_any g n x y b1 b2 M v w h hb1 hb2 hx5 hy5 hn hv)
  have HH := Lib.hid h
  have HC1 := Lib.hid hc1
  have HC2 := Lib.hid hc2
  have HZ := Lib.hid hz
  have HV := Lib.hid hv
  clear h hb1 hb2 hc1 hc2 hz hv
  cases v
  · have hz0 : Hid (z = 0) := by
      have := of_decide_eq_false HV.out
      unfold Hid; rw [← HZ.out]; unfold steps; rw [if_neg this]
    go_enter Try.func94, Try.ntmps94
    go_wp2_with fail
    refine B.out.mono ?_
    rintro e w2 ⟨rfl, hd⟩
    go_wp2
    go_ret
    exact ⟨ret_int hz0.out.symm, hd⟩
  · have hz0 : Hid (M x y = z) := by
      have := of_decide_eq_true HV.out
      unfold Hid; rw [← HZ.out]; unfold steps; rw [if_pos this]
    go_enter Try.func94, Try.ntmps94
    go_wp2_with fail
    refine B.out.mono ?_
    rintro e w2 ⟨rfl, hd⟩
    have hq2 : w2.cell? ⟨q, 0, none⟩ = some (.func (.func 83) #[] #[.pointer (some ⟨c1, 0, none⟩), .pointer (some ⟨c2, 0, none⟩)]) := by
      obtain ⟨k, rfl⟩ := hd; exact hq
    have HC := Lib.hid (counts1_any g n x y c1 c2 M z w2 (HH.out.below (hd.below _)) (by obtain ⟨k, rfl⟩ := hd; exact HC1.out) (by obtain ⟨k, rfl⟩ := hd; exact HC2.out) hx5 hy5 hn hz0.out)
    have HD := Lib.hid hd
    clear hd
    go_wp2_with fail
    refine HC.out.mono ?_
    rintro e w3 ⟨rfl, hd3⟩
    have HD3 := Lib.hid (HD.out.trans hd3)
    clear hd3
    go_wp2
    go_ret
    exact ⟨rfl, HD3.out⟩

set_option maxHeartbeats 2000000 in
theorem steps_row {w : World} {g n : Nat} {M : Nat → Nat → Int} (h : IsPT w g n M) (hn : n ≤ 5) : RowOf w 67 #[.pointer (some ⟨g, 0, none⟩)] #[] n 94 (fun x y => .int .i64 (steps M x y)) := by
  intro x hx w' hb
  have e0 : (#[Value.pointer (some ⟨g, 0, none⟩)] ++ #[Value.int .i64 (x : Int)] ++ #[] : Array Value) = #[.pointer (some ⟨g, 0, none⟩), .int .i64 (x : Int)] := rfl
  rw [e0]
  have HH := Lib.hid (h.below hb)
  have hgw := h.lt
  have hww := hb.size
  clear h hb
  go_enter Try.func67, Try.ntmps67
  go_wp2_with fail
  refine (beats_made g x _).mono ?_
  rintro e w2 ⟨rfl, hb2, b1, b2, hs2⟩
  have H2 := Lib.hid (And.intro hb2 (And.intro b1 (And.intro b2 hs2)))
  clear hb2 b1 b2 hs2
  go_wp2_with fail
  refine (counts_made g x _).mono ?_
  rintro e w3 ⟨rfl, hb3, c1, c2, hs3⟩
  have H3 := Lib.hid (And.intro hb3 (And.intro c1 (And.intro c2 hs3)))
  clear hb3 c1 c2 hs3
  go_wp2
  go_ret
  obtain ⟨hb2, b1, b2, hs2⟩ := H2.out
  obtain ⟨hb3, c1, c2, hs3⟩ := H3.out
  have l3 := hb3.size
  have l2 := hb2.size
  obtain ⟨w4, hw4⟩ : ∃ w4, w3.alloc (.cells #[.func (.func 91) #[] #[.pointer (some ⟨w'.heap.size, 0, none⟩), .pointer (some ⟨w'.heap.size + 1, 0, none⟩)]] 68) = w4 := ⟨_, rfl⟩
  rw [hw4]
  have l4 : w4.heap.size = w3.heap.size + 1 := by rw [← hw4, World.size_alloc]
  have B34 : Below w3.heap.size w3 w4 := hw4 ▸ (Below.refl _ w3).alloc (Nat.le_refl _) _
  have d1 : w4.cell? ⟨w3.heap.size, 0, none⟩ = some (.func (.func 91) #[] #[.pointer (some ⟨w'.heap.size, 0, none⟩), .pointer (some ⟨w'.heap.size + 1, 0, none⟩)]) := hw4 ▸ cell_first w3 _ _
  obtain ⟨w5, hw5⟩ : ∃ w5, w4.alloc (.cells #[.func (.func 83) #[] #[.pointer (some ⟨w2.heap.size, 0, none⟩), .pointer (some ⟨w2.heap.size + 1, 0, none⟩)]] 94) = w5 := ⟨_, rfl⟩
  rw [hw5]
  have l5 : w5.heap.size = w4.heap.size + 1 := by rw [← hw5, World.size_alloc]
  have B45 : Below w4.heap.size w4 w5 := hw5 ▸ (Below.refl _ w4).alloc (Nat.le_refl _) _
  have d2 : w5.cell? ⟨w3.heap.size + 1, 0, none⟩ = some (.func (.func 83) #[] #[.pointer (some ⟨w2.heap.size, 0, none⟩), .pointer (some ⟨w2.heap.size + 1, 0, none⟩)]) := by
    rw [← l4]; exact hw5 ▸ cell_first w4 _ _
  have B15 : Below w'.heap.size w' w5 := ((hb2.trans (hb3.mono (by omega))).trans (B34.mono (by omega))).trans (B45.mono (by omega))
  refine ⟨w3.heap.size, w3.heap.size + 1, rfl, fun w6 hb6 y hy => ?_, B15⟩
  have B25 : Below w2.heap.size w2 w5 := (hb3.trans (B34.mono (by omega))).trans (B45.mono (by omega))
  have B35 : Below w3.heap.size w3 w5 := B34.trans (B45.mono (by omega))
  refine steps1_any g n x y w3.heap.size (w3.heap.size + 1) w'.heap.size (w'.heap.size + 1) w2.heap.size (w2.heap.size + 1) M _ w6 ((HH.out.below B15).near hb6 hgw) ?_ ?_ ?_ ?_ ?_ ?_ hx hy hn rfl
  · exact (hb6.cell 0 (.inr ⟨by omega, by omega⟩)).trans ((B45.cell (p := ⟨w3.heap.size, 0, none⟩) (by show w3.heap.size < _; omega)).trans d1)
  · exact (hb6.cell 0 (.inr ⟨by omega, by omega⟩)).trans d2
  · exact (hb6.cell 0 (.inr ⟨by omega, by omega⟩)).trans ((B25.cell (p := ⟨w'.heap.size, 0, none⟩) (by show w'.heap.size < _; omega)).trans b1)
  · exact (hb6.cell 0 (.inr ⟨by omega, by omega⟩)).trans ((B25.cell (p := ⟨w'.heap.size + 1, 0, none⟩) hs2).trans b2)
  · exact (hb6.cell 0 (.inr ⟨by omega, by omega⟩)).trans ((B35.cell (p := ⟨w2.heap.size, 0, none⟩) (by show w2.heap.size < _; omega)).trans c1)
  · exact (hb6.cell 0 (.inr ⟨by omega, by omega⟩)).trans ((B35.cell (p := ⟨w2.heap.size + 1, 0, none⟩) hs3).trans c2)

end Go.Proofs.Ytaaamidkfhabnaa
