/-
  The drawn ballots (l91Ballot): a new slice of at most ten ints, and a reader that has gone on. No condition but what each theorem says.
-/
import Derived.Test.YtgkakgibgfehaaaSh5
import Derived.Test.YtgkakgibgfehaaaSh6
import Derived.Deep.RegionLaw
import Derived.Deep.AppendLies
import Derived.Deep.RegionWith
import Derived.Laws.IdiomStrings
namespace Go.Proofs.Ytgkakgibgfehaaa
open Go.RowKit

/-- One of three. -/
def p3 (x : Int) (d : Nat) : Int := if d = 0 then x else if d = 1 then -1 else 5
theorem p3_at (x : Int) (d : Nat) (h : d < 3) : (#[Value.int .i64 x, .int .i64 (-1), .int .i64 5] : Array Value)[d]? = some (.int .i64 (p3 x d)) := by
  have e : d = 0 ∨ d = 1 ∨ d = 2 := by omega
  rcases e with rfl | rfl | rfl <;> simp [p3]
theorem p3_cell (w : World) (t : TypeId) (x : Int) (d : Nat) (h : d < 3) : (w.alloc (.cells #[.int .i64 x, .int .i64 (-1), .int .i64 5] t)).cell? ⟨w.heap.size, d, none⟩ = some (.int .i64 (p3 x d)) :=
  (World.cell?_alloc_mark w _ t (0, 0) d).trans (p3_at x d h)
theorem p3_one (w : World) (o : Obj) (v : Value) (t : TypeId) : ∀ j u, [v][j]? = some u → ((w.alloc o).alloc (.cells #[v] t)).cell? ((⟨w.heap.size + 1, 0, none⟩ : Addr).add j) = some u := by
  have := cell_one_new (w.alloc o) v t
  rwa [World.size_alloc] at this
/-- A ballot that was drawn: in memory of the call's own; the reader has gone on. -/
def Drawn (R p : Nat) (w : World) (e : Ending) (w' : World) : Prop := ∃ (zs : List Int) (a : Option Addr) (cap p' : Nat), e = .returned (.slice a zs.length cap) ∧ w'.ownsRow w.heap.size 3 1 (.slice a zs.length cap) zs.length (zs.map (Value.int .i64)) ∧ zs.length ≤ 10 ∧ Rd w' R p' ∧ p' ≤ p + 20 ∧ Step R w w'

set_option maxRecDepth 100000 in
set_option maxHeartbeats 2000000 in
/-- **l91Ballot**. -/
theorem l91Ballot_any (R p : Nat) (n : Int) (w : World) (h : Rd w R p) (hp : p + 30 ≤ 1000000) (hn : 0 ≤ n) (hn5 : n ≤ 7) :
    Calls Tq.prog 79 #[.pointer (some ⟨R, 0, none⟩), .int .i64 n] w (Drawn R p w) := by
  obtain ⟨i0, hi, hz0, hz1, hz2⟩ := info_parts int_info
  have hRw := h.1
  have HO0 := Lib.hid (World.ownsRow_lit (base := w.heap.size) (e := 3) (size := 1) w #[] 0 (Nat.le_refl _) (by unfold maxLen; omega) rfl)
  have H0 : Hid (Rd (w.alloc (.cells #[] 3)) R p) := h.below ((Below.refl _ w).alloc (Nat.le_refl _) _)
  have S0 : Hid (Step R w (w.alloc (.cells #[] 3))) := (Step.refl R w).alloc _
  clear h
  go_enter Tq.func79, Tq.ntmps79
  go_wp2_with fail
  refine (pick_any R p (n + 1) _ H0.out (by omega) (by omega) (by omega)).mono ?_
  rintro e w1 ⟨many, rfl, hmany, hr1, hs1⟩
  have R1 := Lib.hid hr1
  have O1 := Lib.hid (owns_step HO0.out hs1 hRw)
  have S1 := Lib.hid (S0.out.trans hs1)
  clear HO0 H0 S0 hr1 hs1
  go_wp2
  go_loopw [5, 7] (fun o i wr => ∃ (k : Nat) (zs : List Int) (a : Option Addr) (cap p' : Nat), k ≤ 9 ∧ i = .int .i64 k ∧ o = .slice a zs.length cap ∧ Hid (wr.ownsRow w.heap.size 3 1 (.slice a zs.length cap) zs.length (zs.map (Value.int .i64))) ∧ zs.length ≤ k ∧ Hid (Rd wr R p') ∧ p' ≤ p + 1 + k ∧ Hid (Step R w wr)) (fun _ i _ => 9 - (intOf i).toNat)
  case atStart => exact ⟨0, [], _, _, p + 1, by omega, rfl, rfl, O1, by simp, R1, by omega, S1⟩
  case round =>
    obtain ⟨k, zs, a, cap, p', hk9, rfl, rfl, ho, hzk, hr, hp', hs⟩ := hrel
    by_cases hgo : k < 9 ∧ zs.length < many
    · obtain ⟨hk, hm⟩ := hgo
      go_wp2_with fail
      refine (pick_any R p' n _ hr.out (by omega) (by omega) (by omega)).mono ?_
      rintro e w2 ⟨c, rfl, hc, hr2, hs2⟩
      have R2 := Lib.hid hr2
      have O2 := Lib.hid (owns_step ho.out hs2 hRw)
      have S2 := Lib.hid (hs.out.trans hs2)
      clear hr ho hs hr2 hs2
      go_wp2_with fail
      refine (l1Has_any a zs.length cap zs (c : Int) _ (IsInts.of_owned O2.out (by omega))).mono ?_
      rintro e w3 ⟨rfl, rfl⟩
      cases hh : hasB zs (c : Int)
      · have HH := Lib.hid hh
        go_wp2_with (at_builtin; refine wpList_append_own _ rfl _ _ 27 rfl w.heap.size 3 i0 (.int .i64 0) 1 8 Tq.underlying27 hi hz0 hz1 hz2 rfl (by decide) _ _ _ rfl (O2.out.alloc _) ⟨w2.heap.size, 0, none⟩ 1 1 [.int .i64 (c : Int)] rfl rfl (cell_one_new _ _ _) (by simp [Value.oneCell']) (by unfold maxLen; omega) (by omega) (by have := S2.out.size; simp; omega) ?_; intro v' w4 hown' hgrow _; obtain ⟨a4, cap4, rfl⟩ := owns_slice hown')
        have hrow : ∀ j, (Value.slice a zs.length cap).ownBlock = some j → w.heap.size ≤ j := fun j ej => (O2.out.lt j ej).1
        have R4 : Hid (Rd w4 R (p' + 1)) := (R2.out.below ((Below.refl _ w2).alloc (Nat.le_refl _) _)).grown hgrow (fun j ej => by have := hrow j ej; omega)
        have S4 : Hid (Step R w w4) := (S2.out.alloc _).grown hgrow (fun j ej => .inl (hrow j ej))
        have hlen : (zs ++ [(c : Int)]).length = zs.length + 1 := by simp
        have O4 : Hid (w4.ownsRow w.heap.size 3 1 (.slice a4 (zs ++ [(c : Int)]).length cap4) (zs ++ [(c : Int)]).length ((zs ++ [(c : Int)]).map (Value.int .i64))) := by
          unfold Hid; rw [hlen, List.map_append]; exact hown'
        have HL := Lib.hid hlen
        clear hown' hgrow hrow hlen
        go_wp2
        go_roundw
        case rel => exact ⟨k + 1, zs ++ [(c : Int)], a4, cap4, p' + 1, by omega, by go_num, by rw [HL.out], O4, by rw [HL.out]; omega, R4, by omega, S4⟩
        case measure => simp [intOf]; omega
      · have HH := Lib.hid hh
        go_wp2
        go_roundw
        case rel => exact ⟨k + 1, zs, a, cap, p' + 1, by omega, by go_num, rfl, O2, by omega, R2, by omega, S2⟩
        case measure => simp [intOf]; omega
    · have hstop : 9 ≤ k ∨ many ≤ zs.length := by omega
      clear hgo
      rcases hstop with hk | hm
      case' inr => by_cases hk : k < 9
      all_goals
        rcases Nat.eq_zero_or_pos zs.length with hz | hz
        · have hz1 : (zs.length : Int) ≤ 0 := by omega
          clear hz
          go_wp2
          go_ret
          exact ⟨zs, a, cap, p', rfl, ho.out, by omega, hr.out, by omega, hs.out⟩
        · go_wp2_with fail
          refine (pick_any R p' 20 _ hr.out (by omega) (by omega) (by omega)).mono ?_
          rintro e w5 ⟨d, rfl, hd, hr5, hs5⟩
          have R5 := Lib.hid hr5
          have O5 := Lib.hid (owns_step ho.out hs5 hRw)
          have S5 := Lib.hid (hs.out.trans hs5)
          clear hr5 hs5
          cases hd0 : ((d : Int) == 0)
          · go_wp2
            go_ret
            exact ⟨zs, a, cap, p' + 1, rfl, O5.out, by omega, R5.out, by omega, S5.out⟩
          · obtain ⟨g, rfl, hg⟩ : ∃ g, a = some ⟨g, 0, none⟩ ∧ w.heap.size ≤ g := by
              rcases O5.out.2 with ⟨_, e0⟩ | ⟨g, c, _, e, hb, _⟩
              · omega
              · injection e with e1 _ _; exact ⟨g, e1, hb⟩
            have hg5 : g < w5.heap.size := (O5.out.lt g rfl).2
            obtain ⟨x, hx0⟩ : ∃ x, w5.cell? ⟨g, 0, none⟩ = some (.int .i64 x) := ⟨zs[0]?.getD 0, by rw [O5.out.cellAt 0 (by omega)]; simp [hz]⟩
            have hzl : (0 : Int) < (zs.length : Int) := by omega
            have m63 : zs.length + 1 ≤ maxLen := by unfold maxLen; omega
            have mby : (zs.length + 1) * 8 ≤ 140737488355328 := by omega
            go_wp2_with fail
            go_region_law (first
              | (go_simp; go_at_call 48; refine (pick_any R (p' + 1) 3 _ ?_ (by omega) (by omega) (by omega)).mono ?_; (first | exact R5.out | exact R5.out.below ((Below.refl _ w5).alloc (Nat.le_refl _) _).drew); rintro e w6 ⟨d3, rfl, hd3, hr6, hs6⟩; have hC := p3_at x d3 (by omega); (first | (have R6 := Lib.hid hr6; have O6 := Lib.hid (owns_step (O5.out.alloc (.cells #[.int .i64 x, .int .i64 (-1), .int .i64 5] 3)).drew hs6 hRw); have S6 := Lib.hid ((S5.out.alloc (.cells #[.int .i64 x, .int .i64 (-1), .int .i64 5] 3)).trans (Step.of_drew hs6)); have hq : w6.cell? ⟨w5.heap.size, d3, none⟩ = some (.int .i64 (p3 x d3)) := (World.cell?_of_block (hs6.block w5.heap.size (by simp) (by simp; omega))).trans (p3_cell w5 _ x d3 (by omega)); clear hs6 hr6) | (have R6 := Lib.hid hr6; have O6 := Lib.hid (owns_step O5.out.drew hs6 hRw); have S6 := Lib.hid (S5.out.trans (Step.of_drew hs6)); have hx6 : w6.cell? ⟨g, 0, none⟩ = some (.int .i64 x) := (World.cell?_of_block (hs6.block g hg5 (by simp; omega))).trans hx0; clear hs6 hr6)))
              | (refine step_append_lies _ (by rfl) _ _ _ (by rfl) w.heap.size 3 i0 (.int .i64 0) 1 8 Tq.underlying27 hi hz0 hz1 hz2 rfl Nat.one_pos (.slice (some ⟨g, 0, none⟩) zs.length cap) zs.length (zs.map (Value.int .i64)) (by rfl) (O6.out.alloc _) ⟨w6.heap.size, 0, none⟩ 1 1 [.int .i64 (p3 x d3)] (by rfl) (by rfl) (cell_one_new _ _ _) (one_int _) Nat.one_pos m63 mby (base_alloc S6.out.size _) (w6.heap.size + 1) (World.size_alloc _ _) ?_; intro g7 cap7 w7 hown7 hgrow7 _ _; have R7 : Hid (Rd w7 R (p' + 1 + 1)) := (R6.out.below ((Below.refl _ w6).alloc (Nat.le_refl _) _)).grown hgrow7 (fun j ej => own_at ej ▸ Nat.lt_of_lt_of_le hRw hg); have S7 : Hid (Step R w w7) := (S6.out.alloc _).grown hgrow7 (fun j ej => .inl (own_at ej ▸ hg)); clear hgrow7)
              | (refine step_append_lies _ (by rfl) _ _ _ (by rfl) w.heap.size 3 i0 (.int .i64 0) 1 8 Tq.underlying27 hi hz0 hz1 hz2 rfl Nat.one_pos (.slice (some ⟨g, 0, none⟩) zs.length cap) zs.length (zs.map (Value.int .i64)) (by rfl) ((O6.out.alloc _).alloc _) ⟨w6.heap.size + 1, 0, none⟩ 1 1 [.int .i64 (p3 x d3)] (by rfl) (by rfl) (p3_one _ _ _ _) (one_int _) Nat.one_pos m63 mby (base_alloc (base_alloc S6.out.size _) _) (w6.heap.size + 1 + 1) (size_two _ _ _) ?_; intro g7 cap7 w7 hown7 hgrow7 _ _; have R7 : Hid (Rd w7 R (p' + 1 + 1)) := (R6.out.below (((Below.refl _ w6).alloc (Nat.le_refl _) _).alloc (by simp) _)).grown hgrow7 (fun j ej => own_at ej ▸ Nat.lt_of_lt_of_le hRw hg); have S7 : Hid (Step R w w7) := ((S6.out.alloc _).alloc _).grown hgrow7 (fun j ej => .inl (own_at ej ▸ hg)); clear hgrow7))
            all_goals
              go_wp2
              go_ret
              refine ⟨zs ++ [p3 x d3], some ⟨g7, 0, none⟩, cap7, p' + 1 + 1, ?_, ?_, by simp; omega, R7.out, by omega, S7.out⟩
              · rw [List.length_append]; rfl
              · rw [List.length_append, List.map_append]; exact hown7

end Go.Proofs.Ytgkakgibgfehaaa
