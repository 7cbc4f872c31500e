/-
  laws.FnLotsPart returns true for every code: impl.LotsValid answers as the model does at the drawn lots; lots whose last one is exchanged for the first are none, and lots turned about are lots. No condition but what the statement says itself (a code of at most 2^20 bytes).
-/
import Derived.Test.YtapmmbngfklahaaOpen
import Derived.Test.YtapmmbngfklahaaLotS
import Derived.Test.YtapmmbngfklahaaLotI
import Derived.Test.YtapmmbngfklahaaDrawLo
import Derived.Test.YtapmmbngfklahaaPieces
import Derived.Test.YtapmmbngfklahaaTold
namespace Go.Proofs.Ytapmmbngfklahaa.fnLotsPart
open Go.RowKit
set_option linter.unusedVariables false

theorem rev_step (zs : List Int) {m k q : Nat} (hl : zs.length = m + 1) (hk : q + k = m) : zs.reverse.take (k + 1) = zs.reverse.take k ++ [zs[q]?.getD 0] := by
  rw [List.take_succ_eq_append_getElem (by simp; omega), List.getElem_reverse]
  congr 2
  have e : zs.length - 1 - k = q := by omega
  have hq : q < zs.length := by omega
  simp only [e]
  simp [hq]
set_option maxRecDepth 100000 in
set_option maxHeartbeats 2000000 in
/-- The law's walk: it returns true, and writes nothing that was there. -/
theorem walk (a0 : Option Addr) (len0 cap0 : Nat) (z0 : List Int) (w : World) (w0 : IsRow .u8 w a0 len0 cap0 z0) :
    Calls Try.prog 7 #[.slice a0 len0 cap0] w fun e w' => e = .returned (.bool true) ∧ Below w.heap.size w w' := by
  by_cases hl : len0 ≤ 1048576
  · have hcap := w0.cap
    have HB := Lib.hid w0.bytes; clear w0
    go_enter Try.func7, Try.ntmps7
    go_wp2_with fail
    refine (drawLotsValid_any a0 len0 cap0 _ _ HB.out hcap (by omega)).mono ?_
    rintro e w1 ⟨zs, a1, c1, rfl, ho, hz, hb⟩
    obtain ⟨N, hN⟩ : ∃ N, zs.length = N := ⟨_, rfl⟩
    rw [hN] at ho hz ⊢
    have HN := Lib.hid hN; clear hN
    have O1 := Lib.hid ho; clear ho
    have B1 := Lib.hid hb; clear hb HB
    obtain ⟨v, hv⟩ : ∃ v, lotsB zs = v := ⟨_, rfl⟩
    have Hv := Lib.hid hv; clear hv
    have hne : (v != v) = false := by cases v <;> rfl
    have heq : (v == v) = true := by cases v <;> rfl
    go_wp2_with fail
    refine (implLots_any _ _ _ zs _ (IsInts.of_owned O1.out (by omega))).mono ?_
    rintro e w2 ⟨he, hb⟩
    rw [Hv.out] at he
    subst he
    have O2 := Lib.hid (owns_under O1.out hb)
    have B2 := Lib.hid (B1.out.trans (hb.mono B1.out.size)); clear hb O1 B1
    go_wp2_with fail
    refine (specLots_any _ _ _ zs _ (IsInts.of_owned O2.out (by omega))).mono ?_
    rintro e w3 ⟨he, hd⟩
    rw [Hv.out] at he
    subst he
    have O3 := Lib.hid (owns_under O2.out (hd.below _))
    have B3 := Lib.hid (B2.out.trans (hd.below _)); clear hd O2 B2
    cases hk : v
    · subst hk
      go_wp2
      go_ret
      exact ⟨rfl, B3.out⟩
    · subst hk
      by_cases h2 : N < 2
      · have hd2 : decide ((N : Int) < 2) = true := decide_eq_true (by omega)
        go_wp2
        go_ret
        exact ⟨rfl, B3.out⟩
      · obtain ⟨m, rfl⟩ : ∃ m, N = m + 1 := ⟨N - 1, by omega⟩
        have hd2 : decide ((m : Int) + 1 < 2) = false := decide_eq_false (by omega)
        obtain ⟨i0, hi, hz0, hz1, hz2⟩ := info_parts int_info
        obtain ⟨g, rfl, hg3, hcap3, hmx⟩ := owned_at O3.out (by omega)
        have hcs : Hid (∀ j, j < m + 1 → w3.cell? ⟨g, 0 + j, none⟩ = some (.int .i64 (zs[j]?.getD 0))) := fun j hj => by
          rw [Nat.zero_add, O3.out.cellAt j (by omega)]; simp [show j < zs.length by rw [HN.out]; exact hj]
        obtain ⟨x0, hx⟩ : ∃ x0, zs[0]?.getD 0 = x0 := ⟨_, rfl⟩
        have HX0 := Lib.hid hx
        have hx0 : w3.cell? ⟨g, 0, none⟩ = some (.int .i64 x0) := by have := hcs.out 0 (by omega); rw [hx] at this; exact this
        have HX : Hid (lotsB (zs.take m ++ [x0]) = false) := by
          have := lotsB_twice (zs := zs) (by rw [HN.out]; omega)
          rw [HN.out, Nat.add_sub_cancel, hx] at this; exact this
        have HY := Lib.hid (lotsB_reverse Hv.out)
        have LN : Hid (((zs.take m).map (Value.int .i64)).length = m * 1) := by unfold Hid; simp; have := HN.out; omega
        have B1a : Hid (Below w3.heap.size w3 (w3.alloc (.cells #[] 3)).drew) := ((Below.refl _ w3).alloc (Nat.le_refl _) _).drew
        have B2a : Hid (Below w3.heap.size w3 ((w3.alloc (.cells #[] 3)).alloc (.cells #[.int .i64 x0] 3)).drew) := (((Below.refl _ w3).alloc (Nat.le_refl _) _).alloc (by simp) _).drew
        have B3a : Hid (Below w3.heap.size w3 ((w3.alloc (.cells #[.int .i64 x0] 3)).alloc (.cells #[] 3)).drew) := (((Below.refl _ w3).alloc (Nat.le_refl _) _).alloc (by simp) _).drew
        have E1 : Hid ((w3.alloc (.cells #[] 3)).drew.ownsRow w3.heap.size 3 1 (.slice (some ⟨w3.heap.size, 0, none⟩) 0 0) 0 []) := (World.ownsRow_lit (base := w3.heap.size) (e := 3) (size := 1) w3 #[] 0 (Nat.le_refl _) (by unfold maxLen; omega) rfl).drew
        have E2 : Hid (((w3.alloc (.cells #[] 3)).alloc (.cells #[.int .i64 x0] 3)).drew.ownsRow w3.heap.size 3 1 (.slice (some ⟨w3.heap.size, 0, none⟩) 0 0) 0 []) := ((World.ownsRow_lit (base := w3.heap.size) (e := 3) (size := 1) w3 #[] 0 (Nat.le_refl _) (by unfold maxLen; omega) rfl).alloc _).drew
        have E3 : Hid (((w3.alloc (.cells #[.int .i64 x0] 3)).alloc (.cells #[] 3)).drew.ownsRow w3.heap.size 3 1 (.slice (some ⟨w3.heap.size + 1, 0, none⟩) 0 0) 0 []) := by
          have h := (World.ownsRow_lit (base := w3.heap.size) (e := 3) (size := 1) (w3.alloc (.cells #[.int .i64 x0] 3)) #[] 0 (by simp) (by unfold maxLen; omega) rfl).drew
          rw [World.size_alloc] at h
          exact h
        have S1 : w3.heap.size ≤ (w3.alloc (.cells #[] 3)).drew.heap.size := by simp
        have S2 : w3.heap.size ≤ ((w3.alloc (.cells #[] 3)).alloc (.cells #[.int .i64 x0] 3)).drew.heap.size := by simp; omega
        have S3 : w3.heap.size ≤ ((w3.alloc (.cells #[.int .i64 x0] 3)).alloc (.cells #[] 3)).drew.heap.size := by simp; omega
        have Q2 : Hid (((w3.alloc (.cells #[] 3)).alloc (.cells #[.int .i64 x0] 3)).drew.cell? ⟨w3.heap.size + 1, 0, none⟩ = some (.int .i64 x0)) := by
          have h := (Boxed.new (w3.alloc (.cells #[] 3)) 3 (.int .i64 x0)).cell
          rw [World.size_alloc] at h
          exact h
        have Q3 : Hid (((w3.alloc (.cells #[.int .i64 x0] 3)).alloc (.cells #[] 3)).drew.cell? ⟨w3.heap.size, 0, none⟩ = some (.int .i64 x0)) := ((Boxed.new w3 3 (.int .i64 x0)).alloc _).cell
        have PC1 := Lib.hid (piece_cells (zs := zs) (len := m + 1) (off := 0) HN.out (fun j hj => (B1a.out.cell (p := ⟨g, 0 + j, none⟩) hg3).trans (hcs.out j hj)) 0 m 0 (by omega) rfl)
        have PC2 := Lib.hid (piece_cells (zs := zs) (len := m + 1) (off := 0) HN.out (fun j hj => (B2a.out.cell (p := ⟨g, 0 + j, none⟩) hg3).trans (hcs.out j hj)) 0 m 0 (by omega) rfl)
        have PC3 := Lib.hid (piece_cells (zs := zs) (len := m + 1) (off := 0) HN.out (fun j hj => (B3a.out.cell (p := ⟨g, 0 + j, none⟩) hg3).trans (hcs.out j hj)) 0 m 0 (by omega) rfl)
        have M1 : 0 + m ≤ maxLen := by unfold maxLen; omega
        have N1 : (0 + m) * 8 ≤ 140737488355328 := by omega
        have M2 : m + 1 ≤ maxLen := by unfold maxLen; omega
        have N2 : (m + 1) * 8 ≤ 140737488355328 := by omega
        have hmc : (m : Int) ≤ (c1 : Int) := by omega
        have hm1 : (0 : Int) < (m : Int) + 1 := by omega
        clear hx
        go_wp2_with fail
        go_region_law (first
          | (refine step_append_own (by rfl) _ _ _ (by rfl) w3.heap.size 3 i0 (.int .i64 0) 1 8 Try.underlying25 hi hz0 hz1 hz2 rfl Nat.one_pos (.slice (some ⟨w3.heap.size, 0, none⟩) 0 0) 0 [] (by rfl) E1.out ⟨g, 0, none⟩ m _ ((zs.take m).map (Value.int .i64)) (by rfl) LN.out PC1.out (ints_one _) M1 N1 S1 ?_; intro v5 w5 hown5 hgrow5 _; simp only [Nat.zero_add, List.nil_append] at hown5; obtain ⟨a5, c5, rfl⟩ := owns_slice hown5; have B5 := Lib.hid (B1a.out.grown hgrow5 S1 (fun j ej => by have := own_at ej; omega)); have hc5 : w5.cell? ⟨g, 0, none⟩ = some (.int .i64 x0) := (B5.out.cell (p := ⟨g, 0, none⟩) hg3).trans hx0; have O5a := Lib.hid hown5; clear hown5 hgrow5)
          | (refine step_append_own (by rfl) _ _ _ (by rfl) w3.heap.size 3 i0 (.int .i64 0) 1 8 Try.underlying25 hi hz0 hz1 hz2 rfl Nat.one_pos (.slice (some ⟨w3.heap.size, 0, none⟩) 0 0) 0 [] (by rfl) E2.out ⟨g, 0, none⟩ m _ ((zs.take m).map (Value.int .i64)) (by rfl) LN.out PC2.out (ints_one _) M1 N1 S2 ?_; intro v5 w5 hown5 hgrow5 _; simp only [Nat.zero_add, List.nil_append] at hown5; obtain ⟨a5, c5, rfl⟩ := owns_slice hown5; have B5 := Lib.hid (B2a.out.grown hgrow5 S2 (fun j ej => by have := own_at ej; omega)); have hq2 := Lib.hid ((World.cell?_of_block (hgrow5.block (w3.heap.size + 1) (by simp) (by simp [Value.ownBlock]))).trans Q2.out); have O5b := Lib.hid hown5; clear hown5 hgrow5)
          | (refine step_append_own (by rfl) _ _ _ (by rfl) w3.heap.size 3 i0 (.int .i64 0) 1 8 Try.underlying25 hi hz0 hz1 hz2 rfl Nat.one_pos (.slice (some ⟨w3.heap.size + 1, 0, none⟩) 0 0) 0 [] (by rfl) E3.out ⟨g, 0, none⟩ m _ ((zs.take m).map (Value.int .i64)) (by rfl) LN.out PC3.out (ints_one _) M1 N1 S3 ?_; intro v5 w5 hown5 hgrow5 _; simp only [Nat.zero_add, List.nil_append] at hown5; obtain ⟨a5, c5, rfl⟩ := owns_slice hown5; have B5 := Lib.hid (B3a.out.grown hgrow5 S3 (fun j ej => by have := own_at ej; omega)); have hq3 := Lib.hid ((World.cell?_of_block (hgrow5.block w3.heap.size (by simp; omega) (by simp [Value.ownBlock]))).trans Q3.out); have O5c := Lib.hid hown5; clear hown5 hgrow5)
          | (refine step_append_own (by rfl) _ _ _ (by rfl) w3.heap.size 3 i0 (.int .i64 0) 1 8 Try.underlying25 hi hz0 hz1 hz2 rfl Nat.one_pos (.slice a5 m c5) m ((zs.take m).map (Value.int .i64)) (by rfl) (O5a.out.alloc _) ⟨w5.heap.size, 0, none⟩ 1 _ [.int .i64 x0] (by rfl) (by rfl) (cell_one_new _ _ _) (one_int _) M2 N2 (base_alloc B5.out.size _) ?_; intro v6 w6 hown6 hgrow6 _; obtain ⟨a6, c6, rfl⟩ := owns_slice hown6; have B6 := Lib.hid ((B5.out.alloc B5.out.size _).grown hgrow6 (base_alloc B5.out.size _) (fun j ej => (O5a.out.lt j ej).1)); have X6 := Lib.hid hown6; clear hown6 hgrow6)
          | (refine step_append_own (by rfl) _ _ _ (by rfl) w3.heap.size 3 i0 (.int .i64 0) 1 8 Try.underlying25 hi hz0 hz1 hz2 rfl Nat.one_pos (.slice a5 m c5) m ((zs.take m).map (Value.int .i64)) (by rfl) O5b.out ⟨w3.heap.size + 1, 0, none⟩ 1 _ [.int .i64 x0] (by rfl) (by rfl) (one_cell hq2.out) (one_int _) M2 N2 B5.out.size ?_; intro v6 w6 hown6 hgrow6 _; obtain ⟨a6, c6, rfl⟩ := owns_slice hown6; have B6 := Lib.hid (B5.out.grown hgrow6 B5.out.size (fun j ej => (O5b.out.lt j ej).1)); have X6 := Lib.hid hown6; clear hown6 hgrow6)
          | (refine step_append_own (by rfl) _ _ _ (by rfl) w3.heap.size 3 i0 (.int .i64 0) 1 8 Try.underlying25 hi hz0 hz1 hz2 rfl Nat.one_pos (.slice a5 m c5) m ((zs.take m).map (Value.int .i64)) (by rfl) O5c.out ⟨w3.heap.size, 0, none⟩ 1 _ [.int .i64 x0] (by rfl) (by rfl) (one_cell hq3.out) (one_int _) M2 N2 B5.out.size ?_; intro v6 w6 hown6 hgrow6 _; obtain ⟨a6, c6, rfl⟩ := owns_slice hown6; have B6 := Lib.hid (B5.out.grown hgrow6 B5.out.size (fun j ej => (O5c.out.lt j ej).1)); have X6 := Lib.hid hown6; clear hown6 hgrow6))
        all_goals
          have XI : Hid (IsInts w6 a6 (m + 1) c6 (zs.take m ++ [x0])) := by
            refine IsInts.of_owned (base := w3.heap.size) ?_ (by omega)
            rw [List.map_append]; exact X6.out
          have O6 := Lib.hid (owns_under O3.out B6.out)
          have LI := Lib.hid (IsInts.of_owned O6.out (by omega))
          have BW6 := Lib.hid (B3.out.trans (B6.out.mono B3.out.size))
          have HE0 := Lib.hid (World.ownsRow_lit (base := w6.heap.size) (e := 3) (size := 1) w6 #[] 0 (Nat.le_refl _) (by unfold maxLen; omega) rfl)
          have HB0 : Below w6.heap.size w6 (w6.alloc (.cells #[] 3)) := (Below.refl _ w6).alloc (Nat.le_refl _) _
          clear B1a B2a B3a E1 E2 E3 S1 S2 S3 Q2 Q3 PC1 PC2 PC3 M1 N1 M2 N2 X6 O3 O6 LN hcs hx0 B6 hg3
          go_wp2
          go_loopw [8, 9] (fun yv iv wr => ∃ (j k : Nat) (x : Int) (a : Option Addr) (cap : Nat), j + k = m + 1 ∧ x = (j : Int) - 1 ∧ iv = .int .i64 x ∧ yv = .slice a k cap ∧ Hid (wr.ownsRow w6.heap.size 3 1 (.slice a k cap) k ((zs.reverse.take k).map (Value.int .i64))) ∧ Below w6.heap.size w6 wr) (fun _ iv _ => (intOf iv + 1).toNat)
          case atStart => exact ⟨m + 1, 0, (m : Int), _, _, by omega, by omega, rfl, rfl, HE0.out, HB0⟩
          case round =>
            obtain ⟨j, k, x, a, cap, hjk, hx, rfl, rfl, ho, hB⟩ := hrel
            rcases Nat.eq_zero_or_pos j with hj0 | hj0
            · obtain rfl : x = -1 := by omega
              have HR : Hid (zs.reverse.take k = zs.reverse) := List.take_of_length_le (by simp; have := HN.out; omega)
              have XW := Lib.hid (XI.out.below hB)
              have YW : Hid (IsInts wr a k cap zs.reverse) := by
                refine IsInts.of_owned (base := w6.heap.size) ?_ (by omega)
                rw [← HR.out]; exact ho.out
              have BW := Lib.hid (BW6.out.trans (hB.mono BW6.out.size))
              clear hx hjk hB
              go_wp2_with fail
              refine (implLots_any _ _ _ (zs.take m ++ [x0]) _ XW.out).mono ?_
              rintro e w8 ⟨he, hb⟩
              rw [HX.out] at he
              subst he
              have YW := Lib.hid (YW.out.below hb)
              have BW := Lib.hid (BW.out.trans (hb.mono BW.out.size)); clear hb
              go_wp2_with fail
              refine (implLots_any _ _ _ zs.reverse _ YW.out).mono ?_
              rintro e w9 ⟨he, hb⟩
              rw [HY.out] at he
              subst he
              have BW := Lib.hid (BW.out.trans (hb.mono BW.out.size)); clear hb
              go_wp2
              go_ret
              exact ⟨rfl, BW.out⟩
            · obtain ⟨q, rfl⟩ : ∃ q, j = q + 1 := ⟨j - 1, by omega⟩
              obtain rfl : x = (q : Int) := by omega
              have hge : decide ((0 : Int) ≤ (q : Int)) = true := decide_eq_true (by omega)
              obtain ⟨-, -, -, h4⟩ := LI.out.below hB
              obtain ⟨g', off, hgo, hgw, hcell⟩ := h4 (by omega)
              injection hgo with hgo
              injection hgo with hg1 hg2 _
              subst hg1; subst hg2
              have hcq := hcell q (by omega)
              rw [Nat.zero_add] at hcq
              have HST := Lib.hid (rev_step zs HN.out (show q + k = m by omega))
              obtain ⟨z, hz⟩ : ∃ z, zs[q]?.getD 0 = z := ⟨_, rfl⟩
              rw [hz] at hcq HST
              have hqm : (q : Int) < (m : Int) + 1 := by omega
              clear hcell h4 hz hx
              go_wp2_with (at_builtin; refine wpList_append_own _ rfl _ _ 25 rfl w6.heap.size 3 i0 (.int .i64 0) 1 8 Try.underlying25 hi hz0 hz1 hz2 rfl (by decide) _ _ _ rfl (ho.out.alloc _) ⟨wr.heap.size, 0, none⟩ 1 1 [.int .i64 z] rfl rfl (cell_one_new _ _ _) (by simp [Value.oneCell']) (by unfold maxLen; omega) (by omega) (by have := hB.size; simp; omega) ?_; intro v' w7 hown' hgrow _; obtain ⟨a7, cap7, rfl⟩ := owns_slice hown')
              have hrow : ∀ j, (Value.slice a k cap).ownBlock = some j → w6.heap.size ≤ j := fun j ej => (ho.out.lt j ej).1
              have hB7 := (hB.alloc hB.size (.cells #[.int .i64 z] 3)).grown hgrow (by have := hB.size; simp; omega) (fun j e => hrow j e)
              have HO7 : Hid (w7.ownsRow w6.heap.size 3 1 (.slice a7 (k + 1) cap7) (k + 1) ((zs.reverse.take (k + 1)).map (Value.int .i64))) := by
                unfold Hid; rw [HST.out, List.map_append]; exact hown'
              clear hown' hgrow hrow ho hB
              go_wp2
              go_roundw
              case rel => exact ⟨q, k + 1, (q : Int) - 1, a7, cap7, by omega, rfl, by go_num, rfl, HO7.out, hB7⟩
              case measure => simp [intOf]
  · have hl' : (1048576 : Int) < (len0 : Int) := by omega
    clear w0
    go_enter Try.func7, Try.ntmps7
    go_wp2
    go_ret
    exact ⟨rfl, Below.refl _ _⟩

end Go.Proofs.Ytapmmbngfklahaa.fnLotsPart
