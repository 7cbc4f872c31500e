/-
  laws.FnPilesPart returns true for every code and every choice: piles may be missing, and none may be there twice. No condition.
-/
import Derived.Test.YtdmjgicopnihgaaOpen
import Derived.Test.YtdmjgicopnihgaaLawP
namespace Go.Proofs.Ytdmjgicopnihgaa.fnPilesPart
open Go.RowKit
set_option linter.unusedVariables false

theorem part_sub (xs : List Pl) (k : Nat) : List.Sublist (xs.take k ++ xs.drop (k + 1)) xs := by
  conv => rhs; rw [← List.take_append_drop k xs]
  exact List.Sublist.append (List.Sublist.refl _) (by rw [← List.drop_drop]; exact List.drop_sublist 1 _)
theorem drop_cells0 {w w' : World} {g len cap k : Nat} {ps : List Pl} (h : IsPiles w (some ⟨g, 0, none⟩) len cap ps) (hb : g < w.heap.size) (hk : k < len) (hB : Below w.heap.size w w') :
    ∀ j u, (cellsP (ps.drop (k + 1)))[j]? = some u → w'.cell? ((⟨g, (k + 1) * 2, none⟩ : Addr).add j) = some u := by
  have := drop_cells h hb (k := k + 1) hk hB
  rwa [Nat.zero_add] at this
theorem drop_cells00 {w w' : World} {g len cap k : Nat} {ps : List Pl} (h : IsPiles w (some ⟨g, 0, none⟩) len cap ps) (hb : g < w.heap.size) (hk : k < len) (hB : Below w.heap.size w w') :
    ∀ j u, (cellsP (ps.drop k))[j]? = some u → w'.cell? ((⟨g, k * 2, none⟩ : Addr).add j) = some u := by
  have := drop_cells h hb (k := k) (Nat.le_of_lt hk) hB
  rwa [Nat.zero_add] at this

set_option maxRecDepth 100000 in
set_option maxHeartbeats 2000000 in
/-- The law's walk: it returns true, and writes nothing that was there. -/
theorem walk (a0 : Option Addr) (len0 cap0 : Nat) (z0 : List Int) (a1 : Option Addr) (len1 cap1 : Nat) (z1 : List Int) (w : World) (w0 : IsRow .u8 w a0 len0 cap0 z0) (w1 : IsRow .u8 w a1 len1 cap1 z1) :
    Calls Try.prog 9 #[.slice a0 len0 cap0, .slice a1 len1 cap1] w fun e w' => e = .returned (.bool true) ∧ Below w.heap.size w w' := by
  by_cases hl : len0 ≤ 1048576 ∧ len1 ≤ 1048576
  · obtain ⟨hl, hl1⟩ := hl
    have hcap := w0.cap
    have HB := Lib.hid w0.bytes; clear w0 w1
    go_enter Try.func9, Try.ntmps9
    go_wp2_with fail
    refine (drawPV_any a0 len0 cap0 _ _ HB.out hcap (by omega)).mono ?_
    rintro e w1 ⟨xs, g, c, rfl, hp, hb⟩
    have P := Lib.hid (hp)
    have B := Lib.hid hb
    clear hb HB
    have HSM := Lib.hid P.out.2.1
    have hl13 := P.out.2.2.2
    clear hp
    obtain ⟨v, hv⟩ : ∃ v, pilesB xs = v := ⟨_, rfl⟩
    have Hv := Lib.hid hv
    clear hv
    have hne : (v != v) = false := by cases v <;> rfl
    have heq : (v == v) = true := by cases v <;> rfl
    go_wp2_with fail
    refine (implPiles_as _ _ _ xs v _ P.out.piles HSM.out Hv.out).mono ?_
    rintro e w2 ⟨rfl, hb⟩
    have P := Lib.hid (P.out.below hb)
    have B := Lib.hid (B.out.trans (hb.mono B.out.size))
    clear hb
    go_wp2_with fail
    refine (specPiles_as _ _ _ xs v _ P.out.piles HSM.out Hv.out).mono ?_
    rintro e w3 ⟨rfl, hb⟩
    have P := Lib.hid (P.out.below hb)
    have B := Lib.hid (B.out.trans (hb.mono B.out.size))
    clear hb
    cases hk : v
    · subst hk
      go_wp2
      go_ret
      exact ⟨rfl, B.out⟩
    · subst hk
      rcases Nat.eq_zero_or_pos xs.length with hz | hz
      · have hz0 : ((xs.length : Int) == 0) = true := by simp [hz]
        clear hz
        go_wp2
        go_ret
        exact ⟨rfl, B.out⟩
      · have hz0 : ((xs.length : Int) == 0) = false := by simp; intro e; rw [e] at hz; simp at hz
        obtain ⟨i0, hi, hi0, hi1, hi2⟩ := info_parts pile_info
        obtain ⟨k, hk, hkeq⟩ : ∃ k : Nat, k < xs.length ∧ (len1 : Int) % (xs.length : Int) = (k : Int) := ⟨len1 % xs.length, Nat.mod_lt _ hz, by rw [Int.natCast_emod]⟩
        have hkt : (len1 : Int).tmod (xs.length : Int) = (k : Int) := by rw [Int.tmod_eq_emod_of_nonneg (by omega)]; exact hkeq
        have hg3 := P.out.lt
        have hlc : xs.length ≤ c := P.out.piles.2.1
        have IP := Lib.hid P.out.piles
        have HX : Hid (pilesB (xs.take k ++ xs.drop (k + 1)) = true) := piles_sub Hv.out (part_sub xs k)
        have HY : Hid (pilesB (xs.take (k + 1) ++ xs.drop k) = false) := piles_twice k hk
        have HSX : Hid (Small (xs.take k ++ xs.drop (k + 1))) := small_valid HX.out
        have HSY : Hid (Small (xs.take (k + 1) ++ xs.drop k)) := Small.of fun p hp => (List.mem_append.1 hp).elim (fun h => HSM.out.mem p (List.mem_of_mem_take h)) (fun h => HSM.out.mem p (List.mem_of_mem_drop h))
        have L1 : Hid ((cellsP (xs.take k)).length = k * 2) := by unfold Hid; rw [cellsP_length, List.length_take]; omega
        have L2 : Hid ((cellsP (xs.drop (k + 1))).length = (xs.length - (k + 1)) * 2) := by unfold Hid; rw [cellsP_length, List.length_drop]
        have L1b : Hid ((cellsP (xs.take (k + 1))).length = (k + 1) * 2) := by unfold Hid; rw [cellsP_length, List.length_take]; omega
        have L2b : Hid ((cellsP (xs.drop k)).length = (xs.length - k) * 2) := by unfold Hid; rw [cellsP_length, List.length_drop]
        have M1 : 0 + k ≤ maxLen := by unfold maxLen; omega
        have N1 : (0 + k) * 24 ≤ 140737488355328 := by omega
        have M2 : k + (xs.length - (k + 1)) ≤ maxLen := by unfold maxLen; omega
        have N2 : (k + (xs.length - (k + 1))) * 24 ≤ 140737488355328 := by omega
        have M2e : k + 0 ≤ maxLen := by unfold maxLen; omega
        have N2e : (k + 0) * 24 ≤ 140737488355328 := by omega
        have M1b : 0 + (k + 1) ≤ maxLen := by unfold maxLen; omega
        have N1b : (0 + (k + 1)) * 24 ≤ 140737488355328 := by omega
        have M2b : k + 1 + (xs.length - k) ≤ maxLen := by unfold maxLen; omega
        have N2b : (k + 1 + (xs.length - k)) * 24 ≤ 140737488355328 := by omega
        have hE := Lib.hid (empty_lit w3 37 w3.heap.size (Nat.le_refl _)).drew
        have BW : Below w3.heap.size w3 (w3.alloc (.cells #[] 37)).drew := ((Below.refl _ w3).alloc (Nat.le_refl _) _).drew
        have S1 := BW.size
        have PA := Lib.hid (take_cells IP.out hg3 (Nat.le_of_lt hk) BW)
        have hk0 : (0 : Int) ≤ (k : Int) := by omega
        have hkl : (k : Int) ≤ (xs.length : Int) := by omega
        have hkc : (k : Int) ≤ (c : Int) := by omega
        have hk1 : (k : Int) + 1 ≤ (xs.length : Int) := by omega
        have hk1c : (k : Int) + 1 ≤ (c : Int) := by omega
        have hk10 : (0 : Int) ≤ (k : Int) + 1 := by omega
        have hck0 : ¬ c = k := by omega
        go_wp2_with fail
        have hw1 : IntKind.i64.wrap ((k : Int) + 1) = (k : Int) + 1 := IntWalk.i64_in _ (by omega)
        have ht1 : ((k : Int) + 1).toNat = k + 1 := by omega
        by_cases hck : c = k + 1
        · obtain rfl : c = k + 1 := hck
          have hzl : xs.length ≤ k + 1 := by omega
          have hkci : (k : Int) ≤ (k : Int) + 1 := by omega
          have hkcc : (k : Int) + 1 ≤ (k : Int) + 1 := by omega
          have L2e : Hid ((cellsP (xs.drop (k + 1))).length = 0 * 2) := by unfold Hid; rw [cellsP_length, List.length_drop]; omega
          have P2e : xs.length ≤ k + 1 := by omega
          have hzk : (xs.length : Int) ≤ (k : Int) + 1 := by omega
          go_region_law (first
            | (refine step_append_own (by rfl) _ _ _ (by rfl) w3.heap.size 37 i0 (.agg #[.string ⟨#[]⟩, .int .i64 0]) 2 24 Try.underlying23 hi hi0 hi1 hi2 rfl Nat.two_pos (.slice (some ⟨w3.heap.size, 0, none⟩) 0 0) 0 [] (by rfl) hE.out ⟨g, 0, none⟩ (k) _ (cellsP (xs.take k)) (by rfl) L1.out PA.out (cellsP_one' _) M1 N1 S1 ?_; intro v5 w5 hown5 hgrow5 _; simp only [Nat.zero_add, List.nil_append] at hown5; obtain ⟨a5, c5, rfl⟩ := owns_slice hown5; have B5 := Lib.hid (BW.grown hgrow5 BW.size (fun j ej => own_ge ej (Nat.le_refl _))); have O5 := Lib.hid hown5; clear hown5 hgrow5)
            | (refine step_append_own (by rfl) _ _ _ (by rfl) w3.heap.size 37 i0 (.agg #[.string ⟨#[]⟩, .int .i64 0]) 2 24 Try.underlying23 hi hi0 hi1 hi2 rfl Nat.two_pos (.slice a5 (k) c5) (k) (cellsP (xs.take k)) (by rfl) O5.out ⟨g, 0, none⟩ (0) _ (cellsP (xs.drop (k + 1))) (by rfl) L2e.out (no_cells P2e) (cellsP_one' _) M2e N2e B5.out.size ?_; intro v6 w6 hown6 hgrow6 _; obtain ⟨a6, c6, rfl⟩ := owns_slice hown6; have B6 := Lib.hid (B5.out.grown hgrow6 B5.out.size (fun j ej => (O5.out.lt j ej).1)); have X6 := Lib.hid hown6; clear hown6 hgrow6))
          clear hw1 ht1
          have I6 : Hid (IsPiles w6 a6 (k + 0) c6 (xs.take k ++ xs.drop (k + 1))) := by
            have := X6.out
            rw [← cellsP_app] at this
            exact IsPiles.of_owned this (by omega)
          have IP6 := Lib.hid (IP.out.below B6.out)
          have hg6 : g < w6.heap.size := Nat.lt_of_lt_of_le hg3 B6.out.size
          have BB := Lib.hid (B.out.trans (B6.out.mono B.out.size))
          have hE2 := Lib.hid (empty_lit w6 37 w6.heap.size (Nat.le_refl _)).drew
          have BW2 : Below w6.heap.size w6 (w6.alloc (.cells #[] 37)).drew := ((Below.refl _ w6).alloc (Nat.le_refl _) _).drew
          have S2 := BW2.size
          have PA2 := Lib.hid (take_cells IP6.out hg6 (Nat.succ_le_of_lt hk) BW2)
          go_wp2_with fail
          have hw1 : IntKind.i64.wrap ((k : Int) + 1) = (k : Int) + 1 := IntWalk.i64_in _ (by omega)
          have ht1 : ((k : Int) + 1).toNat = k + 1 := by omega
          go_region_law (first
            | (refine step_append_own (by rfl) _ _ _ (by rfl) w6.heap.size 37 i0 (.agg #[.string ⟨#[]⟩, .int .i64 0]) 2 24 Try.underlying23 hi hi0 hi1 hi2 rfl Nat.two_pos (.slice (some ⟨w6.heap.size, 0, none⟩) 0 0) 0 [] (by rfl) hE2.out ⟨g, 0, none⟩ (k + 1) _ (cellsP (xs.take (k + 1))) (by rfl) L1b.out PA2.out (cellsP_one' _) M1b N1b S2 ?_; intro v5 w5b hown5 hgrow5 _; simp only [Nat.zero_add, List.nil_append] at hown5; obtain ⟨a5, c5, rfl⟩ := owns_slice hown5; have B5b := Lib.hid (BW2.grown hgrow5 BW2.size (fun j ej => own_ge ej (Nat.le_refl _))); have O5 := Lib.hid hown5; clear hown5 hgrow5)
            | (refine step_append_own (by rfl) _ _ _ (by rfl) w6.heap.size 37 i0 (.agg #[.string ⟨#[]⟩, .int .i64 0]) 2 24 Try.underlying23 hi hi0 hi1 hi2 rfl Nat.two_pos (.slice a5 (k + 1) c5) (k + 1) (cellsP (xs.take (k + 1))) (by rfl) O5.out ⟨g, k * 2, none⟩ (xs.length - k) _ (cellsP (xs.drop k)) (by rfl) L2b.out (drop_cells00 IP6.out hg6 hk B5b.out) (cellsP_one' _) M2b N2b B5b.out.size ?_; intro v6 w6b hown6 hgrow6 _; obtain ⟨a6b, c6b, rfl⟩ := owns_slice hown6; have B6b := Lib.hid (B5b.out.grown hgrow6 B5b.out.size (fun j ej => (O5.out.lt j ej).1)); have X6b := Lib.hid hown6; clear hown6 hgrow6))
          clear hw1 ht1
          have I6b : Hid (IsPiles w6b a6b (k + 1 + (xs.length - k)) c6b (xs.take (k + 1) ++ xs.drop k)) := by
            have := X6b.out
            rw [← cellsP_app] at this
            exact IsPiles.of_owned this (by omega)
          have I7 := Lib.hid (I6.out.below B6b.out)
          have BC := Lib.hid (BB.out.trans (B6b.out.mono BB.out.size))
          go_wp2_with fail
          refine (implPiles_as _ _ _ (xs.take k ++ xs.drop (k + 1)) true _ I7.out HSX.out HX.out).mono ?_
          rintro e w8 ⟨rfl, hb⟩
          have I8 := Lib.hid (I6b.out.below hb)
          have BD := Lib.hid (BC.out.trans (hb.mono BC.out.size))
          clear hb
          go_wp2_with fail
          refine (implPiles_as _ _ _ (xs.take (k + 1) ++ xs.drop k) false _ I8.out HSY.out HY.out).mono ?_
          rintro e w9 ⟨rfl, hb⟩
          have BE := Lib.hid (BD.out.trans (hb.mono BD.out.size))
          clear hb
          go_wp2
          go_ret
          exact ⟨rfl, BE.out⟩
        · go_region_law (first
            | (refine step_append_own (by rfl) _ _ _ (by rfl) w3.heap.size 37 i0 (.agg #[.string ⟨#[]⟩, .int .i64 0]) 2 24 Try.underlying23 hi hi0 hi1 hi2 rfl Nat.two_pos (.slice (some ⟨w3.heap.size, 0, none⟩) 0 0) 0 [] (by rfl) hE.out ⟨g, 0, none⟩ (k) _ (cellsP (xs.take k)) (by rfl) L1.out PA.out (cellsP_one' _) M1 N1 S1 ?_; intro v5 w5 hown5 hgrow5 _; simp only [Nat.zero_add, List.nil_append] at hown5; obtain ⟨a5, c5, rfl⟩ := owns_slice hown5; have B5 := Lib.hid (BW.grown hgrow5 BW.size (fun j ej => own_ge ej (Nat.le_refl _))); have O5 := Lib.hid hown5; clear hown5 hgrow5)
            | (refine step_append_own (by rfl) _ _ _ (by rfl) w3.heap.size 37 i0 (.agg #[.string ⟨#[]⟩, .int .i64 0]) 2 24 Try.underlying23 hi hi0 hi1 hi2 rfl Nat.two_pos (.slice a5 (k) c5) (k) (cellsP (xs.take k)) (by rfl) O5.out ⟨g, (k + 1) * 2, none⟩ (xs.length - (k + 1)) _ (cellsP (xs.drop (k + 1))) (by rfl) L2.out (drop_cells0 IP.out hg3 hk B5.out) (cellsP_one' _) M2 N2 B5.out.size ?_; intro v6 w6 hown6 hgrow6 _; obtain ⟨a6, c6, rfl⟩ := owns_slice hown6; have B6 := Lib.hid (B5.out.grown hgrow6 B5.out.size (fun j ej => (O5.out.lt j ej).1)); have X6 := Lib.hid hown6; clear hown6 hgrow6))
          clear hw1 ht1
          have I6 : Hid (IsPiles w6 a6 (k + (xs.length - (k + 1))) c6 (xs.take k ++ xs.drop (k + 1))) := by
            have := X6.out
            rw [← cellsP_app] at this
            exact IsPiles.of_owned this (by omega)
          have IP6 := Lib.hid (IP.out.below B6.out)
          have hg6 : g < w6.heap.size := Nat.lt_of_lt_of_le hg3 B6.out.size
          have BB := Lib.hid (B.out.trans (B6.out.mono B.out.size))
          have hE2 := Lib.hid (empty_lit w6 37 w6.heap.size (Nat.le_refl _)).drew
          have BW2 : Below w6.heap.size w6 (w6.alloc (.cells #[] 37)).drew := ((Below.refl _ w6).alloc (Nat.le_refl _) _).drew
          have S2 := BW2.size
          have PA2 := Lib.hid (take_cells IP6.out hg6 (Nat.succ_le_of_lt hk) BW2)
          go_wp2_with fail
          have hw1 : IntKind.i64.wrap ((k : Int) + 1) = (k : Int) + 1 := IntWalk.i64_in _ (by omega)
          have ht1 : ((k : Int) + 1).toNat = k + 1 := by omega
          go_region_law (first
            | (refine step_append_own (by rfl) _ _ _ (by rfl) w6.heap.size 37 i0 (.agg #[.string ⟨#[]⟩, .int .i64 0]) 2 24 Try.underlying23 hi hi0 hi1 hi2 rfl Nat.two_pos (.slice (some ⟨w6.heap.size, 0, none⟩) 0 0) 0 [] (by rfl) hE2.out ⟨g, 0, none⟩ (k + 1) _ (cellsP (xs.take (k + 1))) (by rfl) L1b.out PA2.out (cellsP_one' _) M1b N1b S2 ?_; intro v5 w5b hown5 hgrow5 _; simp only [Nat.zero_add, List.nil_append] at hown5; obtain ⟨a5, c5, rfl⟩ := owns_slice hown5; have B5b := Lib.hid (BW2.grown hgrow5 BW2.size (fun j ej => own_ge ej (Nat.le_refl _))); have O5 := Lib.hid hown5; clear hown5 hgrow5)
            | (refine step_append_own (by rfl) _ _ _ (by rfl) w6.heap.size 37 i0 (.agg #[.string ⟨#[]⟩, .int .i64 0]) 2 24 Try.underlying23 hi hi0 hi1 hi2 rfl Nat.two_pos (.slice a5 (k + 1) c5) (k + 1) (cellsP (xs.take (k + 1))) (by rfl) O5.out ⟨g, k * 2, none⟩ (xs.length - k) _ (cellsP (xs.drop k)) (by rfl) L2b.out (drop_cells00 IP6.out hg6 hk B5b.out) (cellsP_one' _) M2b N2b B5b.out.size ?_; intro v6 w6b hown6 hgrow6 _; obtain ⟨a6b, c6b, rfl⟩ := owns_slice hown6; have B6b := Lib.hid (B5b.out.grown hgrow6 B5b.out.size (fun j ej => (O5.out.lt j ej).1)); have X6b := Lib.hid hown6; clear hown6 hgrow6))
          clear hw1 ht1
          have I6b : Hid (IsPiles w6b a6b (k + 1 + (xs.length - k)) c6b (xs.take (k + 1) ++ xs.drop k)) := by
            have := X6b.out
            rw [← cellsP_app] at this
            exact IsPiles.of_owned this (by omega)
          have I7 := Lib.hid (I6.out.below B6b.out)
          have BC := Lib.hid (BB.out.trans (B6b.out.mono BB.out.size))
          go_wp2_with fail
          refine (implPiles_as _ _ _ (xs.take k ++ xs.drop (k + 1)) true _ I7.out HSX.out HX.out).mono ?_
          rintro e w8 ⟨rfl, hb⟩
          have I8 := Lib.hid (I6b.out.below hb)
          have BD := Lib.hid (BC.out.trans (hb.mono BC.out.size))
          clear hb
          go_wp2_with fail
          refine (implPiles_as _ _ _ (xs.take (k + 1) ++ xs.drop k) false _ I8.out HSY.out HY.out).mono ?_
          rintro e w9 ⟨rfl, hb⟩
          have BE := Lib.hid (BD.out.trans (hb.mono BD.out.size))
          clear hb
          go_wp2
          go_ret
          exact ⟨rfl, BE.out⟩
  · rcases Nat.lt_or_ge 1048576 len0 with hl0 | hl0
    · go_enter Try.func9, Try.ntmps9
      go_wp2
      go_ret
      exact ⟨rfl, Below.refl _ _⟩
    · have hl1 : 1048576 < len1 := by omega
      go_enter Try.func9, Try.ntmps9
      go_wp2
      go_ret
      exact ⟨rfl, Below.refl _ _⟩

end Go.Proofs.Ytdmjgicopnihgaa.fnPilesPart
