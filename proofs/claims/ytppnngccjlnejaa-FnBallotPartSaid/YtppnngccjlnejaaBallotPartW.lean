/-
  laws.FnBallotPart returns true for every code and every choice: candidates may be left out of a valid ballot, and none may be there twice. No condition.
-/
import Derived.Test.YtppnngccjlnejaaOpen
import Derived.Test.YtppnngccjlnejaaDrawV
import Derived.Test.YtppnngccjlnejaaStep
namespace Go.Proofs.Ytppnngccjlnejaa.fnBallotPart
open Go.RowKit
set_option linter.unusedVariables false


set_option maxHeartbeats 2000000 in
/-- The law's walk: it returns true, and writes nothing that was there. -/
theorem walk (a0 : Option Addr) (len0 cap0 : Nat) (z0 : List Int) (a1 : Option Addr) (len1 cap1 : Nat) (z1 : List Int) (w : World) (w0 : IsRow .u8 w a0 len0 cap0 z0) (w1 : IsRow .u8 w a1 len1 cap1 z1) :
    Calls Try.prog 6 #[.slice a0 len0 cap0, .slice a1 len1 cap1] w fun e w' => e = .returned (.bool true) ∧ Below w.heap.size w w' := by
  by_cases hl : len0 ≤ 1048576
  · by_cases hl' : len1 ≤ 1048576
    · have hcap := w0.cap
      have HB := Lib.hid w0.bytes; clear w0 w1
      go_enter Try.func6, Try.ntmps6
      go_wp2_with fail
      refine (drawValid_any a0 len0 cap0 _ _ HB.out hcap (by omega)).mono ?_
      rintro e w1 ⟨zs, a, cap, n, rfl, ho, hz, hb⟩
      have O1 := Lib.hid ho; clear ho
      have B1 := Lib.hid hb; clear hb HB
      go_wp2_with fail
      refine (implValid_any _ _ _ zs n _ (IsInts.of_owned O1.out (by omega))).mono ?_
      rintro e w2 ⟨rfl, hb⟩
      have O2 := Lib.hid (owns_below O1.out hb)
      have B2 := Lib.hid (B1.out.trans (hb.mono B1.out.size)); clear hb O1 B1
      go_wp2_with fail
      refine (specValid_any _ _ _ zs n _ (IsInts.of_owned O2.out (by omega))).mono ?_
      rintro e w3 ⟨rfl, hd⟩
      have O3 := Lib.hid (owns_below O2.out (hd.below _))
      have B3 := Lib.hid (B2.out.trans (hd.below _)); clear hd O2 B2
      cases hv : validB zs n
      · go_wp2
        go_ret
        exact ⟨rfl, B3.out⟩
      · have HV := Lib.hid hv
        rcases Nat.eq_zero_or_pos zs.length with hz0 | hz0
        · have hze : ((zs.length : Int) == 0) = true := by rw [hz0]; rfl
          clear hz0
          go_wp2
          go_ret
          exact ⟨rfl, B3.out⟩
        · have hze : ((zs.length : Int) == 0) = false := by simp; intro e; rw [e] at hz0; simp at hz0
          obtain ⟨g, rfl⟩ : ∃ g, a = some ⟨g, 0, none⟩ := by
            rcases O3.out.2 with ⟨_, e0⟩ | ⟨g, c, _, e, hb, _⟩
            · omega
            · injection e with e1 _ _; exact ⟨g, e1⟩
          have hzc : zs.length ≤ cap := (IsInts.of_owned O3.out (by omega)).2.1
          obtain ⟨k, hk, hkeq⟩ : ∃ k : Nat, k < zs.length ∧ (len1 : Int) % (zs.length : Int) = (k : Int) := ⟨len1 % zs.length, Nat.mod_lt _ hz0, by rw [Int.natCast_emod]⟩
          obtain ⟨i0, hi, hi0, hi1, hi2⟩ := info_parts int_info
          have hc3 := (IsInts.of_owned O3.out (by omega)).2.2.2 hz0
          obtain ⟨g', off', hge, hg3, hcs⟩ := hc3
          cases hge
          have hE : Hid ((w3.alloc (.cells #[] 3)).drew.ownsRow w3.heap.size 3 1 (.slice (some ⟨w3.heap.size, 0, none⟩) 0 0) 0 []) := (World.ownsRow_lit (base := w3.heap.size) (e := 3) (size := 1) w3 #[] 0 (Nat.le_refl _) (by unfold maxLen; omega) rfl).drew
          have hkc : k ≤ cap := by omega
          have hk1 : k + 1 ≤ zs.length := by omega
          go_wp2
          rw [hkeq]
          clear hkeq
          have hcs := Lib.hid hcs
          have hz48 : zs.length ≤ 1048600 := by omega
          have HX := Lib.hid (left_out k HV.out)
          have HY := Lib.hid (put_twice k hk HV.out)
          have H5 := Lib.hid (valid_five HV.out)
          have hk1i : (k : Int) + 1 ≤ (zs.length : Int) := by omega
          have hkle : k ≤ zs.length := by omega
          have hkli : (k : Int) ≤ (zs.length : Int) := by omega
          have L1 : ((zs.take k).map (Value.int .i64)).length = k * 1 := by simp; omega
          have L2 : ((zs.drop (k + 1)).map (Value.int .i64)).length = (zs.length - (k + 1)) * 1 := by simp
          have L1b : ((zs.take (k + 1)).map (Value.int .i64)).length = (k + 1) * 1 := by simp; omega
          have L2b : ((zs.drop k).map (Value.int .i64)).length = (zs.length - k) * 1 := by simp
          have P1 : Hid (∀ j u, ((zs.take k).map (Value.int .i64))[j]? = some u → (w3.alloc (.cells #[] 3)).drew.cell? ((⟨g, 0, none⟩ : Addr).add j) = some u) :=
            piece_cells (zs := zs) (len := zs.length) (off := 0) rfl (fun j hj => (((Below.refl w3.heap.size w3).alloc (Nat.le_refl _) _).drew.cell (p := ⟨g, 0 + j, none⟩) hg3).trans (hcs.out j hj)) 0 k 0 (by omega) rfl
          have M1 : 0 + k ≤ maxLen := by unfold maxLen; omega
          have N1 : (0 + k) * 8 ≤ 140737488355328 := by omega
          have S1 : w3.heap.size ≤ (w3.alloc (.cells #[] 3)).drew.heap.size := by simp
          have M2 : k + (zs.length - (k + 1)) ≤ maxLen := by unfold maxLen; omega
          have N2 : (k + (zs.length - (k + 1))) * 8 ≤ 140737488355328 := by omega
          have K2 : k + (zs.length - (k + 1)) ≤ 1048600 := by omega
          have M2e : k + 0 ≤ maxLen := by unfold maxLen; omega
          have N2e : (k + 0) * 8 ≤ 140737488355328 := by omega
          have K2e : k ≤ 1048600 := by omega
          have M1b : 0 + (k + 1) ≤ maxLen := by unfold maxLen; omega
          have N1b : (0 + (k + 1)) * 8 ≤ 140737488355328 := by omega
          have M2b : k + 1 + (zs.length - k) ≤ maxLen := by unfold maxLen; omega
          have N2b : (k + 1 + (zs.length - k)) * 8 ≤ 140737488355328 := by omega
          have K2b : k + 1 + (zs.length - k) ≤ 1048600 := by omega
          have L1 := Lib.hid L1
          have L2 := Lib.hid L2
          have L1b := Lib.hid L1b
          have L2b := Lib.hid L2b
          have hk0 : (0 : Int) ≤ (k : Int) + 1 := by omega
          by_cases hck : cap = k + 1
          · subst hck
            have hzl : zs.length ≤ k + 1 := by omega
            have L2e : Hid (((zs.drop (k + 1)).map (Value.int .i64)).length = 0 * 1) := by unfold Hid; simp; omega
            have PE := Lib.hid (rest_none hzl)
            have hkci : (k : Int) ≤ (k : Int) + 1 := by omega
            have hkcc : (k : Int) + 1 ≤ (k : Int) + 1 := by omega
            have hzk : (zs.length : Int) ≤ (k : Int) + 1 := by omega
            have hw1 : IntKind.i64.wrap ((k : Int) + 1) = (k : Int) + 1 := IntWalk.i64_in _ (by omega)
            have ht1 : ((k : Int) + 1).toNat = k + 1 := by omega
            go_region_law (first
              | (refine step_append_own (by rfl) _ _ _ (by rfl) w3.heap.size 3 i0 (.int .i64 0) 1 8 Try.underlying23 hi hi0 hi1 hi2 rfl Nat.one_pos (.slice (some ⟨w3.heap.size, 0, none⟩) 0 0) 0 [] (by rfl) hE.out ⟨g, 0, none⟩ (k) _ ((zs.take (k)).map (Value.int .i64)) (by rfl) L1.out P1.out (ints_one _) M1 N1 S1 ?_; intro v5 w5 hown5 hgrow5 _; simp only [Nat.zero_add, List.nil_append] at hown5; obtain ⟨a5, c5, rfl⟩ := owns_slice hown5; have C5 := Lib.hid (kept_cells hg3 hgrow5 hcs.out); have B5 := Lib.hid (kept_below hgrow5); have O5 := Lib.hid hown5; clear hown5 hgrow5)
              | (refine step_append_own (by rfl) _ _ _ (by rfl) w3.heap.size 3 i0 (.int .i64 0) 1 8 Try.underlying23 hi hi0 hi1 hi2 rfl Nat.one_pos (.slice a5 (k) c5) (k) ((zs.take (k)).map (Value.int .i64)) (by rfl) O5.out ⟨g, 0, none⟩ (0) _ ((zs.drop (k + 1)).map (Value.int .i64)) (by rfl) L2e.out (fun j u h => (PE.out j u h).elim) (ints_one _) M2e N2e B5.out.size ?_; intro v6 w6 hown6 hgrow6 _; simp only [Nat.add_zero] at hown6; obtain ⟨a6, c6, rfl⟩ := owns_slice hown6; have B6 := Lib.hid (B5.out.grown hgrow6 B5.out.size (fun j ej => (O5.out.lt j ej).1)); have X6 := Lib.hid (joined hown6 K2e); clear hown6 hgrow6))
            all_goals
              clear hw1 ht1
              have hg3b : g < w6.heap.size := Nat.lt_of_lt_of_le hg3 B6.out.size
              have hcsb := Lib.hid (fun j hj => (B6.out.cell (p := ⟨g, 0 + j, none⟩) hg3).trans (hcs.out j hj))
              have hEb : Hid ((w6.alloc (.cells #[] 3)).drew.ownsRow w6.heap.size 3 1 (.slice (some ⟨w6.heap.size, 0, none⟩) 0 0) 0 []) := (World.ownsRow_lit (base := w6.heap.size) (e := 3) (size := 1) w6 #[] 0 (Nat.le_refl _) (by unfold maxLen; omega) rfl).drew
              have P1b : Hid (∀ j u, ((zs.take (k + 1)).map (Value.int .i64))[j]? = some u → (w6.alloc (.cells #[] 3)).drew.cell? ((⟨g, 0, none⟩ : Addr).add j) = some u) :=
                piece_cells (zs := zs) (len := zs.length) (off := 0) rfl (fun j hj => (((Below.refl w6.heap.size w6).alloc (Nat.le_refl _) _).drew.cell (p := ⟨g, 0 + j, none⟩) hg3b).trans (hcsb.out j hj)) 0 (k + 1) 0 (by omega) rfl
              have S1b : w6.heap.size ≤ (w6.alloc (.cells #[] 3)).drew.heap.size := by simp
              have I6 : Hid (IsInts w6 (some ⟨g, 0, none⟩) zs.length _ zs) := (IsInts.of_owned O3.out hz48).below B6.out
              have B6w := Lib.hid (B3.out.trans (B6.out.mono B3.out.size))
              go_wp2
              have hw1 : IntKind.i64.wrap ((k : Int) + 1) = (k : Int) + 1 := IntWalk.i64_in _ (by omega)
              have ht1 : ((k : Int) + 1).toNat = k + 1 := by omega
              go_region_law (first
              | (refine step_append_own (by rfl) _ _ _ (by rfl) w6.heap.size 3 i0 (.int .i64 0) 1 8 Try.underlying23 hi hi0 hi1 hi2 rfl Nat.one_pos (.slice (some ⟨w6.heap.size, 0, none⟩) 0 0) 0 [] (by rfl) hEb.out ⟨g, 0, none⟩ (k + 1) _ ((zs.take (k + 1)).map (Value.int .i64)) (by rfl) L1b.out P1b.out (ints_one _) M1b N1b S1b ?_; intro v5b w5b hown5 hgrow5 _; simp only [Nat.zero_add, List.nil_append] at hown5; obtain ⟨a5b, c5b, rfl⟩ := owns_slice hown5; have C5b := Lib.hid (kept_cells hg3b hgrow5 hcsb.out); have B5b := Lib.hid (kept_below hgrow5); have O5b := Lib.hid hown5; clear hown5 hgrow5)
              | (refine step_append_own (by rfl) _ _ _ (by rfl) w6.heap.size 3 i0 (.int .i64 0) 1 8 Try.underlying23 hi hi0 hi1 hi2 rfl Nat.one_pos (.slice a5b (k + 1) c5b) (k + 1) ((zs.take (k + 1)).map (Value.int .i64)) (by rfl) O5b.out ⟨g, k, none⟩ (zs.length - k) _ ((zs.drop (k)).map (Value.int .i64)) (by rfl) L2b.out (piece_rest rfl C5b.out k k hkle (Nat.zero_add _).symm) (ints_one _) M2b N2b B5b.out.size ?_; intro v6b w6b hown6 hgrow6 _; obtain ⟨a6b, c6b, rfl⟩ := owns_slice hown6; have B6b := Lib.hid (B5b.out.grown hgrow6 B5b.out.size (fun j ej => (O5b.out.lt j ej).1)); have X6b := Lib.hid (joined hown6 K2b); clear hown6 hgrow6))
              clear hw1 ht1
              have B7 := Lib.hid (B6w.out.trans (B6b.out.mono B6w.out.size))
              have X7 := Lib.hid (X6.out.below B6b.out)
              have I7 := Lib.hid (I6.out.below B6b.out)
              go_wp2_with fail
              refine (implValid_any _ _ _ (zs.take k ++ zs.drop (k + 1)) n _ X7.out).mono ?_
              rintro e w8 ⟨he, hb⟩
              rw [HX.out] at he
              subst he
              have X8 := Lib.hid (X6b.out.below hb)
              have I8 := Lib.hid (I7.out.below hb)
              have B8 := Lib.hid (B7.out.trans (hb.mono B7.out.size)); clear hb
              go_wp2_with fail
              refine (implValid_any _ _ _ (zs.take (k + 1) ++ zs.drop k) n _ X8.out).mono ?_
              rintro e w9 ⟨he, hb⟩
              rw [HY.out] at he
              subst he
              have I9 := Lib.hid (I8.out.below hb)
              have B9 := Lib.hid (B8.out.trans (hb.mono B8.out.size)); clear hb
              go_wp2_with fail
              refine (implValid_any _ _ _ zs 5 _ I9.out).mono ?_
              rintro e w10 ⟨he, hb⟩
              rw [H5.out] at he
              subst he
              have B10 := Lib.hid (B9.out.trans (hb.mono B9.out.size)); clear hb
              go_wp2
              go_ret
              exact ⟨rfl, B10.out⟩
          · have hkci : (k : Int) ≤ (cap : Int) := by omega
            have hkcc : (k : Int) + 1 ≤ (cap : Int) := by omega
            have hck2 : ¬ cap = k := by omega
            have hzci : (zs.length : Int) ≤ (cap : Int) := by omega
            have hw1 : IntKind.i64.wrap ((k : Int) + 1) = (k : Int) + 1 := IntWalk.i64_in _ (by omega)
            have ht1 : ((k : Int) + 1).toNat = k + 1 := by omega
            go_region_law (first
              | (refine step_append_own (by rfl) _ _ _ (by rfl) w3.heap.size 3 i0 (.int .i64 0) 1 8 Try.underlying23 hi hi0 hi1 hi2 rfl Nat.one_pos (.slice (some ⟨w3.heap.size, 0, none⟩) 0 0) 0 [] (by rfl) hE.out ⟨g, 0, none⟩ (k) _ ((zs.take (k)).map (Value.int .i64)) (by rfl) L1.out P1.out (ints_one _) M1 N1 S1 ?_; intro v5 w5 hown5 hgrow5 _; simp only [Nat.zero_add, List.nil_append] at hown5; obtain ⟨a5, c5, rfl⟩ := owns_slice hown5; have C5 := Lib.hid (kept_cells hg3 hgrow5 hcs.out); have B5 := Lib.hid (kept_below hgrow5); have O5 := Lib.hid hown5; clear hown5 hgrow5)
              | (refine step_append_own (by rfl) _ _ _ (by rfl) w3.heap.size 3 i0 (.int .i64 0) 1 8 Try.underlying23 hi hi0 hi1 hi2 rfl Nat.one_pos (.slice a5 (k) c5) (k) ((zs.take (k)).map (Value.int .i64)) (by rfl) O5.out ⟨g, k + 1, none⟩ (zs.length - (k + 1)) _ ((zs.drop (k + 1)).map (Value.int .i64)) (by rfl) L2.out (piece_rest rfl C5.out (k + 1) (k + 1) hk1 (Nat.zero_add _).symm) (ints_one _) M2 N2 B5.out.size ?_; intro v6 w6 hown6 hgrow6 _; obtain ⟨a6, c6, rfl⟩ := owns_slice hown6; have B6 := Lib.hid (B5.out.grown hgrow6 B5.out.size (fun j ej => (O5.out.lt j ej).1)); have X6 := Lib.hid (joined hown6 K2); clear hown6 hgrow6))
            all_goals
              clear hw1 ht1
              have hg3b : g < w6.heap.size := Nat.lt_of_lt_of_le hg3 B6.out.size
              have hcsb := Lib.hid (fun j hj => (B6.out.cell (p := ⟨g, 0 + j, none⟩) hg3).trans (hcs.out j hj))
              have hEb : Hid ((w6.alloc (.cells #[] 3)).drew.ownsRow w6.heap.size 3 1 (.slice (some ⟨w6.heap.size, 0, none⟩) 0 0) 0 []) := (World.ownsRow_lit (base := w6.heap.size) (e := 3) (size := 1) w6 #[] 0 (Nat.le_refl _) (by unfold maxLen; omega) rfl).drew
              have P1b : Hid (∀ j u, ((zs.take (k + 1)).map (Value.int .i64))[j]? = some u → (w6.alloc (.cells #[] 3)).drew.cell? ((⟨g, 0, none⟩ : Addr).add j) = some u) :=
                piece_cells (zs := zs) (len := zs.length) (off := 0) rfl (fun j hj => (((Below.refl w6.heap.size w6).alloc (Nat.le_refl _) _).drew.cell (p := ⟨g, 0 + j, none⟩) hg3b).trans (hcsb.out j hj)) 0 (k + 1) 0 (by omega) rfl
              have S1b : w6.heap.size ≤ (w6.alloc (.cells #[] 3)).drew.heap.size := by simp
              have I6 : Hid (IsInts w6 (some ⟨g, 0, none⟩) zs.length _ zs) := (IsInts.of_owned O3.out hz48).below B6.out
              have B6w := Lib.hid (B3.out.trans (B6.out.mono B3.out.size))
              go_wp2
              have hw1 : IntKind.i64.wrap ((k : Int) + 1) = (k : Int) + 1 := IntWalk.i64_in _ (by omega)
              have ht1 : ((k : Int) + 1).toNat = k + 1 := by omega
              go_region_law (first
              | (refine step_append_own (by rfl) _ _ _ (by rfl) w6.heap.size 3 i0 (.int .i64 0) 1 8 Try.underlying23 hi hi0 hi1 hi2 rfl Nat.one_pos (.slice (some ⟨w6.heap.size, 0, none⟩) 0 0) 0 [] (by rfl) hEb.out ⟨g, 0, none⟩ (k + 1) _ ((zs.take (k + 1)).map (Value.int .i64)) (by rfl) L1b.out P1b.out (ints_one _) M1b N1b S1b ?_; intro v5b w5b hown5 hgrow5 _; simp only [Nat.zero_add, List.nil_append] at hown5; obtain ⟨a5b, c5b, rfl⟩ := owns_slice hown5; have C5b := Lib.hid (kept_cells hg3b hgrow5 hcsb.out); have B5b := Lib.hid (kept_below hgrow5); have O5b := Lib.hid hown5; clear hown5 hgrow5)
              | (refine step_append_own (by rfl) _ _ _ (by rfl) w6.heap.size 3 i0 (.int .i64 0) 1 8 Try.underlying23 hi hi0 hi1 hi2 rfl Nat.one_pos (.slice a5b (k + 1) c5b) (k + 1) ((zs.take (k + 1)).map (Value.int .i64)) (by rfl) O5b.out ⟨g, k, none⟩ (zs.length - k) _ ((zs.drop (k)).map (Value.int .i64)) (by rfl) L2b.out (piece_rest rfl C5b.out k k hkle (Nat.zero_add _).symm) (ints_one _) M2b N2b B5b.out.size ?_; intro v6b w6b hown6 hgrow6 _; obtain ⟨a6b, c6b, rfl⟩ := owns_slice hown6; have B6b := Lib.hid (B5b.out.grown hgrow6 B5b.out.size (fun j ej => (O5b.out.lt j ej).1)); have X6b := Lib.hid (joined hown6 K2b); clear hown6 hgrow6))
              clear hw1 ht1
              have B7 := Lib.hid (B6w.out.trans (B6b.out.mono B6w.out.size))
              have X7 := Lib.hid (X6.out.below B6b.out)
              have I7 := Lib.hid (I6.out.below B6b.out)
              go_wp2_with fail
              refine (implValid_any _ _ _ (zs.take k ++ zs.drop (k + 1)) n _ X7.out).mono ?_
              rintro e w8 ⟨he, hb⟩
              rw [HX.out] at he
              subst he
              have X8 := Lib.hid (X6b.out.below hb)
              have I8 := Lib.hid (I7.out.below hb)
              have B8 := Lib.hid (B7.out.trans (hb.mono B7.out.size)); clear hb
              go_wp2_with fail
              refine (implValid_any _ _ _ (zs.take (k + 1) ++ zs.drop k) n _ X8.out).mono ?_
              rintro e w9 ⟨he, hb⟩
              rw [HY.out] at he
              subst he
              have I9 := Lib.hid (I8.out.below hb)
              have B9 := Lib.hid (B8.out.trans (hb.mono B8.out.size)); clear hb
              go_wp2_with fail
              refine (implValid_any _ _ _ zs 5 _ I9.out).mono ?_
              rintro e w10 ⟨he, hb⟩
              rw [H5.out] at he
              subst he
              have B10 := Lib.hid (B9.out.trans (hb.mono B9.out.size)); clear hb
              go_wp2
              go_ret
              exact ⟨rfl, B10.out⟩
    · have hl2 : (1048576 : Int) < (len1 : Int) := by omega
      have hl3 : (len0 : Int) ≤ 1048576 := by omega
      clear w0 w1
      go_enter Try.func6, Try.ntmps6
      go_wp2
      go_ret
      exact ⟨rfl, Below.refl _ _⟩
  · have hl2 : (1048576 : Int) < (len0 : Int) := by omega
    clear w0 w1
    go_enter Try.func6, Try.ntmps6
    go_wp2
    go_ret
    exact ⟨rfl, Below.refl _ _⟩

end Go.Proofs.Ytppnngccjlnejaa.fnBallotPart
