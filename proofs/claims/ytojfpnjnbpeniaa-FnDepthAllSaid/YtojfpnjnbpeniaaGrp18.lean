/-
  l91Piles: the reader draws piles: some list of at most 13 piles, with texts of at most 1048600 bytes and numbers from 0 to 100, in memory of its own.
  What the drawn statements of piles get: DrawPilesValid, DrawPilesTotal, DrawPilesMerge, DrawPilesTurn, DrawPilesAdd.
  What the drawn statements of pairs get: some list of at most 13 piles, and a number from 0 to 6.
-/
import Derived.Test.YtojfpnjnbpeniaaGrp8
import Derived.Test.YtojfpnjnbpeniaaDrawB
import Derived.Test.YtojfpnjnbpeniaaGrp10
import Derived.Deep.RegionLaw
import Derived.Deep.AppendLies
namespace Go.Proofs.Ytojfpnjnbpeniaa
open Go.RowKit

theorem Step.behind {R : Nat} {w w' w2 : World} (h : Step R w w') (hb : Below w'.heap.size w' w2) : Step R w w2 :=
  h.grown (row := none) ⟨hb.os, hb.tape, hb.output, hb.size, fun k hk _ => hb.block k hk⟩ (fun k e => by cases e)
theorem small_valid {ps : List Pl} (h : pilesB ps = true) : Small ps := Small.of fun p hp => by
  have hv := (pilesB_pos h).2.2.2.1 p hp
  have := vB_short hv
  rw [nums_length] at this
  omega
theorem cellsP_setT : ∀ (ps : List Pl) (k : Nat) (s : ByteArray), k < ps.length → (cellsP ps).set (k * 2) (.string s) = cellsP (ps.set k (s, mAt ps k))
  | [], k, s, h => by simp at h
  | p :: ps, 0, s, _ => rfl
  | p :: ps, k + 1, s, h => by
    rw [mAt_cons, cellsP, show (k + 1) * 2 = k * 2 + 1 + 1 by omega, List.set_cons_succ, List.set_cons_succ, cellsP_setT ps k s (by simpa using h), List.set_cons_succ, cellsP]
/-- The numbers are from 0 to 100. -/
def Few (ps : List Pl) : Prop := ∀ i, 0 ≤ mAt ps i ∧ mAt ps i ≤ 100
theorem Few.of {ps : List Pl} (h : ∀ p ∈ ps, 0 ≤ p.2 ∧ p.2 ≤ 100) : Few ps := fun i => by
  unfold mAt
  cases e : ps[i]? with
  | none => simp
  | some p => exact h p (List.mem_of_getElem? e)
theorem Few.mem {ps : List Pl} (h : Few ps) : ∀ p ∈ ps, 0 ≤ p.2 ∧ p.2 ≤ 100 := fun p hp => by
  obtain ⟨i, hi, rfl⟩ := List.mem_iff_getElem.1 hp
  have := h i
  unfold mAt at this
  simpa [hi] using this
theorem Small.mem {ps : List Pl} (h : Small ps) : ∀ p ∈ ps, p.1.size ≤ 1048600 := fun p hp => by
  obtain ⟨i, hi, rfl⟩ := List.mem_iff_getElem.1 hp
  have := h i
  unfold tAt at this
  simpa [hi] using this
theorem few_valid {ps : List Pl} (h : pilesB ps = true) : Few ps := fun i => by have := mAt_valid h i; omega
theorem Few.set {ps : List Pl} (h : Few ps) (k : Nat) {t : ByteArray} {m : Int} (hm : 0 ≤ m ∧ m ≤ 100) : Few (ps.set k (t, m)) := Few.of fun p hp => by
  rcases List.mem_or_eq_of_mem_set hp with hp | rfl
  · exact h.mem p hp
  · exact hm
theorem Small.set {ps : List Pl} (h : Small ps) (k : Nat) {t : ByteArray} {m : Int} (ht : t.size ≤ 1048600) : Small (ps.set k (t, m)) := Small.of fun p hp => by
  rcases List.mem_or_eq_of_mem_set hp with hp | rfl
  · exact h.mem p hp
  · exact ht
theorem Few.snoc {ps : List Pl} (h : Few ps) {t : ByteArray} {m : Int} (hm : 0 ≤ m ∧ m ≤ 100) : Few (ps ++ [(t, m)]) := Few.of fun p hp => by
  rcases List.mem_append.1 hp with hp | hp
  · exact h.mem p hp
  · simp at hp; subst hp; exact hm
theorem Small.snoc {ps : List Pl} (h : Small ps) {t : ByteArray} {m : Int} (ht : t.size ≤ 1048600) : Small (ps ++ [(t, m)]) := Small.of fun p hp => by
  rcases List.mem_append.1 hp with hp | hp
  · exact h.mem p hp
  · simp at hp; subst hp; exact ht

set_option maxRecDepth 100000 in
set_option maxHeartbeats 2000000 in
/-- **of**: one of three texts. -/
theorem of_any (R p q : Nat) (s0 s1 s2 : ByteArray) (w : World) (h : Rd w R p) (hp : p + 1 ≤ 1000000) (hq : q < w.heap.size) (hqR : q ≠ R) (h0 : w.cell? ⟨q, 0, none⟩ = some (.string s0)) (h1 : w.cell? ⟨q, 1, none⟩ = some (.string s1)) (h2 : w.cell? ⟨q, 2, none⟩ = some (.string s2)) :
    Calls Try.prog 109 #[.pointer (some ⟨R, 0, none⟩), .slice (some ⟨q, 0, none⟩) 3 3] w fun e w' => ∃ s, e = .returned (.string s) ∧ (s = s0 ∨ s = s1 ∨ s = s2) ∧ Rd w' R (p + 1) ∧ Step R w w' := by
  have H := Lib.hid h; clear h
  go_enter Try.func109, Try.ntmps109
  go_wp2_with fail
  refine (pick_any R p 3 _ H.out hp (by omega) (by omega)).mono ?_
  rintro e w1 ⟨r, rfl, hr, hrd, hst⟩
  have k0 : w1.cell? ⟨q, 0, none⟩ = some (.string s0) := (World.cell?_of_block (a := ⟨q, 0, none⟩) (hst.block q hq (by simp; omega))).trans h0
  have k1 : w1.cell? ⟨q, 1, none⟩ = some (.string s1) := (World.cell?_of_block (a := ⟨q, 1, none⟩) (hst.block q hq (by simp; omega))).trans h1
  have k2 : w1.cell? ⟨q, 2, none⟩ = some (.string s2) := (World.cell?_of_block (a := ⟨q, 2, none⟩) (hst.block q hq (by simp; omega))).trans h2
  have HRD := Lib.hid hrd
  have HST := Lib.hid hst
  clear hrd hst h0 h1 h2
  have hr3 : r = 0 ∨ r = 1 ∨ r = 2 := by omega
  rcases hr3 with rfl | rfl | rfl
  · go_wp2
    go_ret
    exact ⟨s0, rfl, .inl rfl, HRD.out, HST.out⟩
  · go_wp2
    go_ret
    exact ⟨s1, rfl, .inr (.inl rfl), HRD.out, HST.out⟩
  · go_wp2
    go_ret
    exact ⟨s2, rfl, .inr (.inr rfl), HRD.out, HST.out⟩

theorem specText_as' (a : Option Addr) (len cap : Nat) (zs : List Int) (t : ByteArray) (w : World) (h : IsInts w a len cap zs) (ht : txtB zs = t) :
    Calls Try.prog 107 #[.slice a len cap] w fun e w' => e = .returned (.string t) ∧ Dr w w' := by subst ht; exact specText_any a len cap zs w h
theorem txtB_short' (zs : List Int) : (txtB zs).size ≤ zs.length := by
  unfold txtB
  split
  · rw [txtOf_size]; exact Nat.le_refl _
  · exact Nat.zero_le _
/-- Piles of the reader's. -/
def DrawnP (R p : Nat) (w : World) (e : Ending) (w' : World) : Prop := ∃ (ps : List Pl) (g cap p' : Nat), e = .returned (.slice (some ⟨g, 0, none⟩) ps.length cap) ∧
  w'.ownsRow w.heap.size 36 2 (.slice (some ⟨g, 0, none⟩) ps.length cap) ps.length (cellsP ps) ∧ Small ps ∧ Few ps ∧ ps.length ≤ 13 ∧ Rd w' R p' ∧ p' ≤ p + 3000 ∧ Step R w w'
theorem addL_valid {ps : List Pl} {t : ByteArray} {m : Int} (h : addB ps t m = true) : pilesB (addL ps t m) = true := by rw [addL, h]; exact ((addB_iff ps t m).1 h).2.2

set_option maxRecDepth 100000 in
set_option maxHeartbeats 8000000 in
/-- **l91Piles**. -/
theorem l91Piles_any (R p : Nat) (n : Int) (w : World) (h : Rd w R p) (hp : p + 3000 ≤ 1000000) (hn : 0 ≤ n) (hn5 : n ≤ 7) :
    Calls Try.prog 83 #[.pointer (some ⟨R, 0, none⟩), .int .i64 n] w (DrawnP R p w) := by
  obtain ⟨i0, hi, hz0, hz1, hz2⟩ := info_parts pile_info
  obtain ⟨G, hG⟩ : ∃ G, w.heap.size = G := ⟨_, rfl⟩
  have hRG : R < G := by rw [← hG]; exact h.1
  have HO0 := Lib.hid (empty_lit w 36 G (by omega))
  have H0 : Hid (Rd (w.alloc (.cells #[] 36)) R p) := h.below ((Below.refl _ w).alloc (Nat.le_refl _) _)
  have S0 : Hid (Step R w (w.alloc (.cells #[] 36))) := (Step.refl R w).alloc _
  rw [hG] at HO0
  clear h
  go_enter Try.func83, Try.ntmps83
  go_wp2_with fail
  refine (pick_any R p 8 _ H0.out (by omega) (by omega) (by omega)).mono ?_
  rintro e w1 ⟨m1, rfl, hm1, hr, hs⟩
  have R1 := Lib.hid hr
  have S1 := Lib.hid (S0.out.trans hs)
  have O1 := Lib.hid (owns_step HO0.out hs hRG)
  clear hr hs
  go_wp2_with fail
  refine (pick_any R (p + 1) 14 _ R1.out (by omega) (by omega) (by omega)).mono ?_
  rintro e w2 ⟨m2, rfl, hm2, hr, hs⟩
  have R2 := Lib.hid hr
  have S2 := Lib.hid (S1.out.trans hs)
  have O2 := Lib.hid (owns_step O1.out hs hRG)
  clear hr hs R1 S1 O1 HO0 H0 S0
  cases h14 : ((m2 : Int) == 0)
  · go_wp2
    obtain ⟨mn, hmn, h0m, hm40⟩ : ∃ mn : Int, (m1 : Int) = mn ∧ ((0 : Nat) : Int) ≤ mn ∧ mn ≤ 40 := ⟨_, rfl, by omega, by omega⟩
    rw [hmn]
    clear hmn h14
    go_loopw [5, 7] (fun v i wr => ∃ k p' : Nat, (k : Int) ≤ mn ∧ i = .int .i64 k ∧ p' ≤ p + 2 + 30 * k ∧ Hid (Rd wr R p') ∧ Hid (Step R w wr) ∧
        (∃ (cur : List Pl) (g c : Nat), v = .slice (some ⟨g, 0, none⟩) cur.length c ∧ Hid (pilesB cur = true) ∧ Hid (wr.ownsRow G 36 2 (.slice (some ⟨g, 0, none⟩) cur.length c) cur.length (cellsP cur))))
      (fun _ i _ => mn.toNat - (intOf i).toNat)
    case atStart => exact ⟨0, p + 1 + 1, h0m, rfl, by omega, R2, S2, [], _, _, rfl, rfl, O2⟩
    case round =>
      clear R2 S2 O2
      obtain ⟨k, p', hk, rfl, hpp, HR, HS, cur, g, c, rfl, HV, HO⟩ := hrel
      have hl12 : cur.length ≤ 12 := (pilesB_pos HV.out).2.2.2.2
      have HSM := Lib.hid (small_valid HV.out)
      by_cases hlt : (k : Int) < mn
      · go_wp2_with fail
        refine (l91Ballot_any R p' n _ HR.out (by omega) hn hn5).mono ?_
        rintro e w3 ⟨zs, az, cz, p3, rfl, hoz, hz10, hr, hp3, hs⟩
        have R3 := Lib.hid hr
        have S3 := Lib.hid (HS.out.trans hs)
        have O3 := Lib.hid (owns_step HO.out hs hRG)
        have I3 := Lib.hid (IsInts.of_owned hoz (by omega))
        obtain ⟨t, ht⟩ : ∃ t, txtB zs = t := ⟨_, rfl⟩
        have hts : t.size ≤ 1048600 := by rw [← ht]; have := txtB_short' zs; omega
        have HT := Lib.hid ht
        clear hr hs hoz ht
        go_wp2_with fail
        refine (specText_as' az zs.length cz zs t _ I3.out HT.out).mono ?_
        rintro e w4 ⟨rfl, hd⟩
        have R4 := Lib.hid (R3.out.below (hd.below _))
        have S4 := Lib.hid (S3.out.behind (hd.below _))
        have O4 := Lib.hid (owns_below O3.out (hd.below _))
        clear hd R3 S3 O3 I3
        go_wp2_with fail
        refine (pick_any R p3 9 _ R4.out (by omega) (by omega) (by omega)).mono ?_
        rintro e w5 ⟨r9, rfl, hr9, hr, hs⟩
        have R5 := Lib.hid hr
        have S5 := Lib.hid (S4.out.trans hs)
        have O5 := Lib.hid (owns_step O4.out hs hRG)
        clear hr hs R4 S4 O4
        have hw9 : IntKind.i64.wrap (1 + (r9 : Int)) = 1 + (r9 : Int) := IntWalk.i64_in _ (by omega)
        obtain ⟨nx, hnx⟩ : ∃ nx, addL cur t (1 + (r9 : Int)) = nx := ⟨_, rfl⟩
        obtain ⟨ok, hok⟩ : ∃ ok, addB cur t (1 + (r9 : Int)) = ok := ⟨_, rfl⟩
        have HNX := Lib.hid hnx
        have HOK := Lib.hid hok
        have HV5 : Hid (ok = true → pilesB nx = true) := fun hh => by rw [← hnx]; exact addL_valid (hok.trans hh)
        clear hnx hok
        go_wp2_with fail
        refine (specAdd_as g 0 cur.length c cur t (1 + (r9 : Int)) nx ok _ (IsPiles.of_owned O5.out (by omega)) (O5.out.lt g rfl).2 HSM.out hts HNX.out HOK.out).mono ?_
        rintro e w6 ⟨a6, c6, rfl, ho6, hb6, hn6⟩
        have hG5 : G ≤ w5.heap.size := by have := S5.out.size; omega
        have R6 := Lib.hid (R5.out.below hb6)
        have S6 := Lib.hid (S5.out.behind hb6)
        have O6 := Lib.hid (owns_below O5.out hb6)
        have N6 := Lib.hid (ho6.mono hG5)
        have HN6 := Lib.hid hn6
        clear ho6 hb6 hn6 R5 S5 O5
        cases ok
        · go_wp2
          go_roundw
          case rel => exact ⟨k + 1, _, by omega, by go_num, by omega, R6, S6, cur, g, c, rfl, HV, O6⟩
          case measure => simp [intOf]; omega
        · obtain ⟨g6, rfl⟩ := HN6.out rfl
          go_wp2
          go_roundw
          case rel => exact ⟨k + 1, _, by omega, by go_num, by omega, R6, S6, nx, g6, c6, rfl, HV5.out (by trivial), N6⟩
          case measure => simp [intOf]; omega
      · have HF := Lib.hid (few_valid HV.out)
        rcases Nat.eq_zero_or_pos cur.length with hz | hz
        · have hgt : decide ((0 : Int) < (cur.length : Int)) = false := decide_eq_false (by omega)
          have hgt' : decide (0 < cur.length) = false := decide_eq_false (by omega)
          clear hz
          go_wp2
          go_ret
          exact ⟨cur, g, c, p', rfl, by rw [hG]; exact HO.out, HSM.out, HF.out, by omega, HR.out, by omega, HS.out⟩
        · have hgt : decide ((0 : Int) < (cur.length : Int)) = true := decide_eq_true (by omega)
          have hgt' : decide (0 < cur.length) = true := decide_eq_true (by omega)
          go_wp2_with fail
          refine (pick_any R p' (cur.length : Int) _ HR.out (by omega) (by omega) (by omega)).mono ?_
          rintro e w3 ⟨j, rfl, hj, hr, hs⟩
          have R3 := Lib.hid hr
          have S3 := Lib.hid (HS.out.trans hs)
          have O3 := Lib.hid (owns_step HO.out hs hRG)
          clear hr hs
          go_wp2_with fail
          refine (pick_any R (p' + 1) 30 _ R3.out (by omega) (by omega) (by omega)).mono ?_
          rintro e w4 ⟨d, rfl, hd, hr, hs⟩
          have R4 := Lib.hid hr
          have S4 := Lib.hid (S3.out.trans hs)
          have O4 := Lib.hid (owns_step O3.out hs hRG)
          clear hr hs R3 S3 O3 HO
          have hjl : j < cur.length := by omega
          have hjc : (j : Int) < (c : Int) := by have := (IsPiles.of_owned O4.out (by omega)).2.1; omega
          have hG4 : G ≤ w4.heap.size := by have := S4.out.size; omega
          have hgG : G ≤ g := (O4.out.lt g rfl).1
          have hg4 : g < w4.heap.size := (O4.out.lt g rfl).2
          obtain ⟨tj, htj⟩ : ∃ tj, tAt cur j = tj := ⟨_, rfl⟩
          obtain ⟨mj, hmj⟩ : ∃ mj, mAt cur j = mj := ⟨_, rfl⟩
          have htjs : tj.size ≤ 1048600 := by rw [← htj]; exact HSM.out j
          have hmjs : 0 ≤ mj ∧ mj ≤ 100 := by rw [← hmj]; exact HF.out j
          have HTJ := Lib.hid htj
          have HMJ := Lib.hid hmj
          have q0 : w4.cell? ⟨g, j * 2, none⟩ = some (.string tj) := by rw [O4.out.cellAt (j * 2) (by omega), cellsP_text cur j hjl, htj]
          have q1 : w4.cell? ⟨g, j * 2 + 1, none⟩ = some (.int .i64 mj) := by rw [O4.out.cellAt (j * 2 + 1) (by omega), cellsP_many cur j hjl, hmj]
          clear htj hmj
          rcases Nat.lt_or_ge d 3 with hd3 | hd3
          · have hd4 : d = 0 ∨ d = 1 ∨ d = 2 := by omega
            rcases hd4 with rfl | rfl | rfl
            · have hRa : Rd (w4.alloc (.cells #[.int .i64 0, .int .i64 99, .int .i64 100] 3)) R (p' + 1 + 1) := R4.out.below ((Below.refl _ w4).alloc (Nat.le_refl _) _)
              go_wp2_with fail
              refine (pick_any R (p' + 1 + 1) 3 _ hRa (by omega) (by omega) (by omega)).mono ?_
              rintro e w5 ⟨r3, rfl, hr3, hr, hs⟩
              have x0 : w5.cell? ⟨w4.heap.size, 0, none⟩ = some (.int .i64 0) := (World.cell?_of_block (a := ⟨w4.heap.size, 0, none⟩) (hs.block w4.heap.size (by simp) (by simp; omega))).trans (World.cell?_alloc_new w4 _ _ 0)
              have x1 : w5.cell? ⟨w4.heap.size, 1, none⟩ = some (.int .i64 99) := (World.cell?_of_block (a := ⟨w4.heap.size, 1, none⟩) (hs.block w4.heap.size (by simp) (by simp; omega))).trans (World.cell?_alloc_new w4 _ _ 1)
              have x2 : w5.cell? ⟨w4.heap.size, 2, none⟩ = some (.int .i64 100) := (World.cell?_of_block (a := ⟨w4.heap.size, 2, none⟩) (hs.block w4.heap.size (by simp) (by simp; omega))).trans (World.cell?_alloc_new w4 _ _ 2)
              have R5 := Lib.hid hr
              have S5 := Lib.hid ((S4.out.alloc (.cells #[.int .i64 0, .int .i64 99, .int .i64 100] 3)).trans hs)
              have O5 := Lib.hid (owns_step (O4.out.alloc (.cells #[.int .i64 0, .int .i64 99, .int .i64 100] 3)) hs hRG)
              clear hr hs hRa
              have q1' : w5.cell? ⟨g, j * 2 + 1, none⟩ = some (.int .i64 mj) := by rw [O5.out.cellAt (j * 2 + 1) (by omega), cellsP_many cur j hjl, HMJ.out]
              have f1 : w5.frozen? ⟨g, j * 2 + 1, none⟩ = false := O5.out.frozenAt (j * 2 + 1)
              clear q0 q1
              have hr4 : r3 = 0 ∨ r3 = 1 ∨ r3 = 2 := by omega
              rcases hr4 with rfl | rfl | rfl
              · have HST := Lib.hid (O5.out.stored (j * 2 + 1) (.int .i64 0))
                go_wp2
                go_ret
                refine ⟨cur.set j (tj, 0), g, c, _, by rw [List.length_set]; rfl, ?_, HSM.out.set j htjs, HF.out.set j (by omega), by rw [List.length_set]; omega, R5.out.grown HST.out.2 (fun i ei => by cases ei; omega), by omega, S5.out.grown HST.out.2 (fun i ei => .inl (by cases ei; omega))⟩
                rw [List.length_set, hG, ← HTJ.out, ← cellsP_set cur j 0 hjl]
                exact HST.out.1
              · have HST := Lib.hid (O5.out.stored (j * 2 + 1) (.int .i64 99))
                go_wp2
                go_ret
                refine ⟨cur.set j (tj, 99), g, c, _, by rw [List.length_set]; rfl, ?_, HSM.out.set j htjs, HF.out.set j (by omega), by rw [List.length_set]; omega, R5.out.grown HST.out.2 (fun i ei => by cases ei; omega), by omega, S5.out.grown HST.out.2 (fun i ei => .inl (by cases ei; omega))⟩
                rw [List.length_set, hG, ← HTJ.out, ← cellsP_set cur j 99 hjl]
                exact HST.out.1
              · have HST := Lib.hid (O5.out.stored (j * 2 + 1) (.int .i64 100))
                go_wp2
                go_ret
                refine ⟨cur.set j (tj, 100), g, c, _, by rw [List.length_set]; rfl, ?_, HSM.out.set j htjs, HF.out.set j (by omega), by rw [List.length_set]; omega, R5.out.grown HST.out.2 (fun i ei => by cases ei; omega), by omega, S5.out.grown HST.out.2 (fun i ei => .inl (by cases ei; omega))⟩
                rw [List.length_set, hG, ← HTJ.out, ← cellsP_set cur j 100 hjl]
                exact HST.out.1
            · have hM : cur.length + 1 ≤ maxLen := by unfold maxLen; omega
              have hNb : (cur.length + 1) * 24 ≤ 140737488355328 := by omega
              have hGa : G ≤ (w4.alloc (.cells #[.string tj, .int .i64 mj] 36)).heap.size := by simp; omega
              go_wp2_with (first | (at_builtin; refine wpList_append_own _ rfl _ _ 23 rfl G 36 i0 (.agg #[.string ⟨#[]⟩, .int .i64 0]) 2 24 Try.underlying23 hi hz0 hz1 hz2 rfl Nat.two_pos _ _ _ rfl (O4.out.alloc _) ⟨w4.heap.size, 0, none⟩ 1 1 [.string tj, .int .i64 mj] rfl rfl (two_new _ _ _ _) (by simp [Value.oneCell']) hM hNb hGa ?_; intro v5 w5 hown5 hgr5 _; obtain ⟨g5, c5, rfl⟩ := some_of_owns hown5 (Nat.succ_pos _); have HO5 := Lib.hid hown5; have R5 : Hid (Rd w5 R (p' + 1 + 1)) := (R4.out.below ((Below.refl _ w4).alloc (Nat.le_refl _) _)).grown hgr5 (fun i ei => own_ge ei (Nat.lt_of_lt_of_le hRG hgG)); have S5 : Hid (Step R w w5) := (S4.out.alloc _).grown hgr5 (fun i ei => .inl (own_ge ei (hG ▸ hgG))); clear hown5 hgr5) | go_in)
              go_ret
              refine ⟨cur ++ [(tj, mj)], g5, c5, _, by rw [List.length_append]; rfl, ?_, HSM.out.snoc htjs, HF.out.snoc hmjs, by rw [List.length_append]; simp; omega, R5.out, by omega, S5.out⟩
              rw [List.length_append, hG, cellsP_app]
              exact HO5.out
            · have hRa : Rd (w4.alloc (.cells #[.string ⟨#[97, 97]⟩, .string ⟨#[102]⟩, .string ⟨#[120]⟩] 9)) R (p' + 1 + 1) := R4.out.below ((Below.refl _ w4).alloc (Nat.le_refl _) _)
              go_wp2_with fail
              refine (of_any R (p' + 1 + 1) w4.heap.size ⟨#[97, 97]⟩ ⟨#[102]⟩ ⟨#[120]⟩ _ hRa (by omega) (by simp) (by omega) (World.cell?_alloc_new w4 _ _ 0) (World.cell?_alloc_new w4 _ _ 1) (World.cell?_alloc_new w4 _ _ 2)).mono ?_
              rintro e w5 ⟨s, rfl, hs3, hr, hs⟩
              have hss : s.size ≤ 1048600 := by
                rcases hs3 with rfl | rfl | rfl <;> decide
              have R5 := Lib.hid hr
              have S5 := Lib.hid ((S4.out.alloc (.cells #[.string ⟨#[97, 97]⟩, .string ⟨#[102]⟩, .string ⟨#[120]⟩] 9)).trans hs)
              have O5 := Lib.hid (owns_step (O4.out.alloc (.cells #[.string ⟨#[97, 97]⟩, .string ⟨#[102]⟩, .string ⟨#[120]⟩] 9)) hs hRG)
              clear hr hs hRa hs3
              have q0' : w5.cell? ⟨g, j * 2, none⟩ = some (.string tj) := by rw [O5.out.cellAt (j * 2) (by omega), cellsP_text cur j hjl, HTJ.out]
              have f0 : w5.frozen? ⟨g, j * 2, none⟩ = false := O5.out.frozenAt (j * 2)
              clear q0 q1
              have HST := Lib.hid (O5.out.stored (j * 2) (.string s))
              go_wp2
              go_ret
              refine ⟨cur.set j (s, mj), g, c, _, by rw [List.length_set]; rfl, ?_, HSM.out.set j hss, HF.out.set j hmjs, by rw [List.length_set]; omega, R5.out.grown HST.out.2 (fun i ei => by cases ei; omega), by omega, S5.out.grown HST.out.2 (fun i ei => .inl (by cases ei; omega))⟩
              rw [List.length_set, hG, ← HMJ.out, ← cellsP_setT cur j s hjl]
              exact HST.out.1
          · have e0 : ((d : Int) == 0) = false := by simp; omega
            have e1 : ((d : Int) == 1) = false := by simp; omega
            have e2 : ((d : Int) == 2) = false := by simp; omega
            clear hd3 hd
            go_wp2
            go_ret
            exact ⟨cur, g, c, p' + 1 + 1, rfl, by rw [hG]; exact O4.out, HSM.out, HF.out, by omega, R4.out, by omega, S4.out⟩
  · go_wp2
    obtain ⟨mn, hmn, h0m, hm40⟩ : ∃ mn : Int, (40 : Int) = mn ∧ ((0 : Nat) : Int) ≤ mn ∧ mn ≤ 40 := ⟨_, rfl, by omega, by omega⟩
    rw [hmn]
    clear hmn h14
    go_loopw [5, 7] (fun v i wr => ∃ k p' : Nat, (k : Int) ≤ mn ∧ i = .int .i64 k ∧ p' ≤ p + 2 + 30 * k ∧ Hid (Rd wr R p') ∧ Hid (Step R w wr) ∧
        (∃ (cur : List Pl) (g c : Nat), v = .slice (some ⟨g, 0, none⟩) cur.length c ∧ Hid (pilesB cur = true) ∧ Hid (wr.ownsRow G 36 2 (.slice (some ⟨g, 0, none⟩) cur.length c) cur.length (cellsP cur))))
      (fun _ i _ => mn.toNat - (intOf i).toNat)
    case atStart => exact ⟨0, p + 1 + 1, h0m, rfl, by omega, R2, S2, [], _, _, rfl, rfl, O2⟩
    case round =>
      clear R2 S2 O2
      obtain ⟨k, p', hk, rfl, hpp, HR, HS, cur, g, c, rfl, HV, HO⟩ := hrel
      have hl12 : cur.length ≤ 12 := (pilesB_pos HV.out).2.2.2.2
      have HSM := Lib.hid (small_valid HV.out)
      by_cases hlt : (k : Int) < mn
      · go_wp2_with fail
        refine (l91Ballot_any R p' n _ HR.out (by omega) hn hn5).mono ?_
        rintro e w3 ⟨zs, az, cz, p3, rfl, hoz, hz10, hr, hp3, hs⟩
        have R3 := Lib.hid hr
        have S3 := Lib.hid (HS.out.trans hs)
        have O3 := Lib.hid (owns_step HO.out hs hRG)
        have I3 := Lib.hid (IsInts.of_owned hoz (by omega))
        obtain ⟨t, ht⟩ : ∃ t, txtB zs = t := ⟨_, rfl⟩
        have hts : t.size ≤ 1048600 := by rw [← ht]; have := txtB_short' zs; omega
        have HT := Lib.hid ht
        clear hr hs hoz ht
        go_wp2_with fail
        refine (specText_as' az zs.length cz zs t _ I3.out HT.out).mono ?_
        rintro e w4 ⟨rfl, hd⟩
        have R4 := Lib.hid (R3.out.below (hd.below _))
        have S4 := Lib.hid (S3.out.behind (hd.below _))
        have O4 := Lib.hid (owns_below O3.out (hd.below _))
        clear hd R3 S3 O3 I3
        go_wp2_with fail
        refine (pick_any R p3 9 _ R4.out (by omega) (by omega) (by omega)).mono ?_
        rintro e w5 ⟨r9, rfl, hr9, hr, hs⟩
        have R5 := Lib.hid hr
        have S5 := Lib.hid (S4.out.trans hs)
        have O5 := Lib.hid (owns_step O4.out hs hRG)
        clear hr hs R4 S4 O4
        have hw9 : IntKind.i64.wrap (1 + (r9 : Int)) = 1 + (r9 : Int) := IntWalk.i64_in _ (by omega)
        obtain ⟨nx, hnx⟩ : ∃ nx, addL cur t (1 + (r9 : Int)) = nx := ⟨_, rfl⟩
        obtain ⟨ok, hok⟩ : ∃ ok, addB cur t (1 + (r9 : Int)) = ok := ⟨_, rfl⟩
        have HNX := Lib.hid hnx
        have HOK := Lib.hid hok
        have HV5 : Hid (ok = true → pilesB nx = true) := fun hh => by rw [← hnx]; exact addL_valid (hok.trans hh)
        clear hnx hok
        go_wp2_with fail
        refine (specAdd_as g 0 cur.length c cur t (1 + (r9 : Int)) nx ok _ (IsPiles.of_owned O5.out (by omega)) (O5.out.lt g rfl).2 HSM.out hts HNX.out HOK.out).mono ?_
        rintro e w6 ⟨a6, c6, rfl, ho6, hb6, hn6⟩
        have hG5 : G ≤ w5.heap.size := by have := S5.out.size; omega
        have R6 := Lib.hid (R5.out.below hb6)
        have S6 := Lib.hid (S5.out.behind hb6)
        have O6 := Lib.hid (owns_below O5.out hb6)
        have N6 := Lib.hid (ho6.mono hG5)
        have HN6 := Lib.hid hn6
        clear ho6 hb6 hn6 R5 S5 O5
        cases ok
        · go_wp2
          go_roundw
          case rel => exact ⟨k + 1, _, by omega, by go_num, by omega, R6, S6, cur, g, c, rfl, HV, O6⟩
          case measure => simp [intOf]; omega
        · obtain ⟨g6, rfl⟩ := HN6.out rfl
          go_wp2
          go_roundw
          case rel => exact ⟨k + 1, _, by omega, by go_num, by omega, R6, S6, nx, g6, c6, rfl, HV5.out (by trivial), N6⟩
          case measure => simp [intOf]; omega
      · have HF := Lib.hid (few_valid HV.out)
        rcases Nat.eq_zero_or_pos cur.length with hz | hz
        · have hgt : decide ((0 : Int) < (cur.length : Int)) = false := decide_eq_false (by omega)
          have hgt' : decide (0 < cur.length) = false := decide_eq_false (by omega)
          clear hz
          go_wp2
          go_ret
          exact ⟨cur, g, c, p', rfl, by rw [hG]; exact HO.out, HSM.out, HF.out, by omega, HR.out, by omega, HS.out⟩
        · have hgt : decide ((0 : Int) < (cur.length : Int)) = true := decide_eq_true (by omega)
          have hgt' : decide (0 < cur.length) = true := decide_eq_true (by omega)
          go_wp2_with fail
          refine (pick_any R p' (cur.length : Int) _ HR.out (by omega) (by omega) (by omega)).mono ?_
          rintro e w3 ⟨j, rfl, hj, hr, hs⟩
          have R3 := Lib.hid hr
          have S3 := Lib.hid (HS.out.trans hs)
          have O3 := Lib.hid (owns_step HO.out hs hRG)
          clear hr hs
          go_wp2_with fail
          refine (pick_any R (p' + 1) 30 _ R3.out (by omega) (by omega) (by omega)).mono ?_
          rintro e w4 ⟨d, rfl, hd, hr, hs⟩
          have R4 := Lib.hid hr
          have S4 := Lib.hid (S3.out.trans hs)
          have O4 := Lib.hid (owns_step O3.out hs hRG)
          clear hr hs R3 S3 O3 HO
          have hjl : j < cur.length := by omega
          have hjc : (j : Int) < (c : Int) := by have := (IsPiles.of_owned O4.out (by omega)).2.1; omega
          have hG4 : G ≤ w4.heap.size := by have := S4.out.size; omega
          have hgG : G ≤ g := (O4.out.lt g rfl).1
          have hg4 : g < w4.heap.size := (O4.out.lt g rfl).2
          obtain ⟨tj, htj⟩ : ∃ tj, tAt cur j = tj := ⟨_, rfl⟩
          obtain ⟨mj, hmj⟩ : ∃ mj, mAt cur j = mj := ⟨_, rfl⟩
          have htjs : tj.size ≤ 1048600 := by rw [← htj]; exact HSM.out j
          have hmjs : 0 ≤ mj ∧ mj ≤ 100 := by rw [← hmj]; exact HF.out j
          have HTJ := Lib.hid htj
          have HMJ := Lib.hid hmj
          have q0 : w4.cell? ⟨g, j * 2, none⟩ = some (.string tj) := by rw [O4.out.cellAt (j * 2) (by omega), cellsP_text cur j hjl, htj]
          have q1 : w4.cell? ⟨g, j * 2 + 1, none⟩ = some (.int .i64 mj) := by rw [O4.out.cellAt (j * 2 + 1) (by omega), cellsP_many cur j hjl, hmj]
          clear htj hmj
          rcases Nat.lt_or_ge d 3 with hd3 | hd3
          · have hd4 : d = 0 ∨ d = 1 ∨ d = 2 := by omega
            rcases hd4 with rfl | rfl | rfl
            · have hRa : Rd (w4.alloc (.cells #[.int .i64 0, .int .i64 99, .int .i64 100] 3)) R (p' + 1 + 1) := R4.out.below ((Below.refl _ w4).alloc (Nat.le_refl _) _)
              go_wp2_with fail
              refine (pick_any R (p' + 1 + 1) 3 _ hRa (by omega) (by omega) (by omega)).mono ?_
              rintro e w5 ⟨r3, rfl, hr3, hr, hs⟩
              have x0 : w5.cell? ⟨w4.heap.size, 0, none⟩ = some (.int .i64 0) := (World.cell?_of_block (a := ⟨w4.heap.size, 0, none⟩) (hs.block w4.heap.size (by simp) (by simp; omega))).trans (World.cell?_alloc_new w4 _ _ 0)
              have x1 : w5.cell? ⟨w4.heap.size, 1, none⟩ = some (.int .i64 99) := (World.cell?_of_block (a := ⟨w4.heap.size, 1, none⟩) (hs.block w4.heap.size (by simp) (by simp; omega))).trans (World.cell?_alloc_new w4 _ _ 1)
              have x2 : w5.cell? ⟨w4.heap.size, 2, none⟩ = some (.int .i64 100) := (World.cell?_of_block (a := ⟨w4.heap.size, 2, none⟩) (hs.block w4.heap.size (by simp) (by simp; omega))).trans (World.cell?_alloc_new w4 _ _ 2)
              have R5 := Lib.hid hr
              have S5 := Lib.hid ((S4.out.alloc (.cells #[.int .i64 0, .int .i64 99, .int .i64 100] 3)).trans hs)
              have O5 := Lib.hid (owns_step (O4.out.alloc (.cells #[.int .i64 0, .int .i64 99, .int .i64 100] 3)) hs hRG)
              clear hr hs hRa
              have q1' : w5.cell? ⟨g, j * 2 + 1, none⟩ = some (.int .i64 mj) := by rw [O5.out.cellAt (j * 2 + 1) (by omega), cellsP_many cur j hjl, HMJ.out]
              have f1 : w5.frozen? ⟨g, j * 2 + 1, none⟩ = false := O5.out.frozenAt (j * 2 + 1)
              clear q0 q1
              have hr4 : r3 = 0 ∨ r3 = 1 ∨ r3 = 2 := by omega
              rcases hr4 with rfl | rfl | rfl
              · have HST := Lib.hid (O5.out.stored (j * 2 + 1) (.int .i64 0))
                go_wp2
                go_ret
                refine ⟨cur.set j (tj, 0), g, c, _, by rw [List.length_set]; rfl, ?_, HSM.out.set j htjs, HF.out.set j (by omega), by rw [List.length_set]; omega, R5.out.grown HST.out.2 (fun i ei => by cases ei; omega), by omega, S5.out.grown HST.out.2 (fun i ei => .inl (by cases ei; omega))⟩
                rw [List.length_set, hG, ← HTJ.out, ← cellsP_set cur j 0 hjl]
                exact HST.out.1
              · have HST := Lib.hid (O5.out.stored (j * 2 + 1) (.int .i64 99))
                go_wp2
                go_ret
                refine ⟨cur.set j (tj, 99), g, c, _, by rw [List.length_set]; rfl, ?_, HSM.out.set j htjs, HF.out.set j (by omega), by rw [List.length_set]; omega, R5.out.grown HST.out.2 (fun i ei => by cases ei; omega), by omega, S5.out.grown HST.out.2 (fun i ei => .inl (by cases ei; omega))⟩
                rw [List.length_set, hG, ← HTJ.out, ← cellsP_set cur j 99 hjl]
                exact HST.out.1
              · have HST := Lib.hid (O5.out.stored (j * 2 + 1) (.int .i64 100))
                go_wp2
                go_ret
                refine ⟨cur.set j (tj, 100), g, c, _, by rw [List.length_set]; rfl, ?_, HSM.out.set j htjs, HF.out.set j (by omega), by rw [List.length_set]; omega, R5.out.grown HST.out.2 (fun i ei => by cases ei; omega), by omega, S5.out.grown HST.out.2 (fun i ei => .inl (by cases ei; omega))⟩
                rw [List.length_set, hG, ← HTJ.out, ← cellsP_set cur j 100 hjl]
                exact HST.out.1
            · have hM : cur.length + 1 ≤ maxLen := by unfold maxLen; omega
              have hNb : (cur.length + 1) * 24 ≤ 140737488355328 := by omega
              have hGa : G ≤ (w4.alloc (.cells #[.string tj, .int .i64 mj] 36)).heap.size := by simp; omega
              go_wp2_with (first | (at_builtin; refine wpList_append_own _ rfl _ _ 23 rfl G 36 i0 (.agg #[.string ⟨#[]⟩, .int .i64 0]) 2 24 Try.underlying23 hi hz0 hz1 hz2 rfl Nat.two_pos _ _ _ rfl (O4.out.alloc _) ⟨w4.heap.size, 0, none⟩ 1 1 [.string tj, .int .i64 mj] rfl rfl (two_new _ _ _ _) (by simp [Value.oneCell']) hM hNb hGa ?_; intro v5 w5 hown5 hgr5 _; obtain ⟨g5, c5, rfl⟩ := some_of_owns hown5 (Nat.succ_pos _); have HO5 := Lib.hid hown5; have R5 : Hid (Rd w5 R (p' + 1 + 1)) := (R4.out.below ((Below.refl _ w4).alloc (Nat.le_refl _) _)).grown hgr5 (fun i ei => own_ge ei (Nat.lt_of_lt_of_le hRG hgG)); have S5 : Hid (Step R w w5) := (S4.out.alloc _).grown hgr5 (fun i ei => .inl (own_ge ei (hG ▸ hgG))); clear hown5 hgr5) | go_in)
              go_ret
              refine ⟨cur ++ [(tj, mj)], g5, c5, _, by rw [List.length_append]; rfl, ?_, HSM.out.snoc htjs, HF.out.snoc hmjs, by rw [List.length_append]; simp; omega, R5.out, by omega, S5.out⟩
              rw [List.length_append, hG, cellsP_app]
              exact HO5.out
            · have hRa : Rd (w4.alloc (.cells #[.string ⟨#[97, 97]⟩, .string ⟨#[102]⟩, .string ⟨#[120]⟩] 9)) R (p' + 1 + 1) := R4.out.below ((Below.refl _ w4).alloc (Nat.le_refl _) _)
              go_wp2_with fail
              refine (of_any R (p' + 1 + 1) w4.heap.size ⟨#[97, 97]⟩ ⟨#[102]⟩ ⟨#[120]⟩ _ hRa (by omega) (by simp) (by omega) (World.cell?_alloc_new w4 _ _ 0) (World.cell?_alloc_new w4 _ _ 1) (World.cell?_alloc_new w4 _ _ 2)).mono ?_
              rintro e w5 ⟨s, rfl, hs3, hr, hs⟩
              have hss : s.size ≤ 1048600 := by
                rcases hs3 with rfl | rfl | rfl <;> decide
              have R5 := Lib.hid hr
              have S5 := Lib.hid ((S4.out.alloc (.cells #[.string ⟨#[97, 97]⟩, .string ⟨#[102]⟩, .string ⟨#[120]⟩] 9)).trans hs)
              have O5 := Lib.hid (owns_step (O4.out.alloc (.cells #[.string ⟨#[97, 97]⟩, .string ⟨#[102]⟩, .string ⟨#[120]⟩] 9)) hs hRG)
              clear hr hs hRa hs3
              have q0' : w5.cell? ⟨g, j * 2, none⟩ = some (.string tj) := by rw [O5.out.cellAt (j * 2) (by omega), cellsP_text cur j hjl, HTJ.out]
              have f0 : w5.frozen? ⟨g, j * 2, none⟩ = false := O5.out.frozenAt (j * 2)
              clear q0 q1
              have HST := Lib.hid (O5.out.stored (j * 2) (.string s))
              go_wp2
              go_ret
              refine ⟨cur.set j (s, mj), g, c, _, by rw [List.length_set]; rfl, ?_, HSM.out.set j hss, HF.out.set j hmjs, by rw [List.length_set]; omega, R5.out.grown HST.out.2 (fun i ei => by cases ei; omega), by omega, S5.out.grown HST.out.2 (fun i ei => .inl (by cases ei; omega))⟩
              rw [List.length_set, hG, ← HMJ.out, ← cellsP_setT cur j s hjl]
              exact HST.out.1
          · have e0 : ((d : Int) == 0) = false := by simp; omega
            have e1 : ((d : Int) == 1) = false := by simp; omega
            have e2 : ((d : Int) == 2) = false := by simp; omega
            clear hd3 hd
            go_wp2
            go_ret
            exact ⟨cur, g, c, p' + 1 + 1, rfl, by rw [hG]; exact O4.out, HSM.out, HF.out, by omega, R4.out, by omega, S4.out⟩

end Go.Proofs.Ytojfpnjnbpeniaa

namespace Go.Proofs.Ytojfpnjnbpeniaa
open Go.RowKit

/-- A list of piles of the call's own. -/
def HasP (w0 w : World) (ps : List Pl) (g cap : Nat) : Prop := w.ownsRow w0.heap.size 36 2 (.slice (some ⟨g, 0, none⟩) ps.length cap) ps.length (cellsP ps) ∧ Small ps ∧ Few ps ∧ ps.length ≤ 13
theorem HasP.below {w0 w w' : World} {ps : List Pl} {g cap : Nat} (h : HasP w0 w ps g cap) (hb : Below w.heap.size w w') : HasP w0 w' ps g cap := ⟨owns_below h.1 hb, h.2⟩
theorem HasP.piles {w0 w : World} {ps : List Pl} {g cap : Nat} (h : HasP w0 w ps g cap) : IsPiles w (some ⟨g, 0, none⟩) ps.length cap ps := IsPiles.of_owned h.1 (by have := h.2.2.2; omega)
theorem HasP.lt {w0 w : World} {ps : List Pl} {g cap : Nat} (h : HasP w0 w ps g cap) : g < w.heap.size := (h.1.lt g rfl).2

end Go.Proofs.Ytojfpnjnbpeniaa

namespace Go.Proofs.Ytojfpnjnbpeniaa
open Go.RowKit

attribute [local go_sem] Oper.semAt_some

set_option maxRecDepth 100000 in
set_option maxHeartbeats 4000000 in
/-- **l91Pairs**. -/
theorem l91Pairs_any (R p : Nat) (w : World) (h : Rd w R p) (hp : p + 3004 ≤ 1000000) :
    Calls Try.prog 50 #[.pointer (some ⟨R, 0, none⟩)] w fun e w' => ∃ (ps : List Pl) (g cap p' n : Nat), e = .returned (.tuple #[.slice (some ⟨g, 0, none⟩) ps.length cap, .int .i64 (n : Int)]) ∧
      w'.ownsRow w.heap.size 36 2 (.slice (some ⟨g, 0, none⟩) ps.length cap) ps.length (cellsP ps) ∧ Small ps ∧ Few ps ∧ ps.length ≤ 13 ∧ n ≤ 6 ∧ Rd w' R p' ∧ Step R w w' ∧ p' ≤ p + 3004 := by
  have H := Lib.hid h; clear h
  go_enter Try.func50, Try.ntmps50
  go_wp2_with fail
  refine (pick_any R p 4 _ H.out (by omega) (by omega) (by omega)).mono ?_
  rintro e w1 ⟨d, rfl, hd, hr, hs⟩
  have R1 := Lib.hid hr
  have S1 := Lib.hid hs
  clear hr hs H
  go_wp2_with fail
  refine (pick_any R (p + 1) 12 _ R1.out (by omega) (by omega) (by omega)).mono ?_
  rintro e w2 ⟨d2, rfl, hd2, hr, hs⟩
  have R2 := Lib.hid hr
  have S2 := Lib.hid (S1.out.trans hs)
  clear hr hs R1 S1
  cases h0 : ((d2 : Int) == 0)
  · obtain ⟨N, hN⟩ : ∃ N : Nat, (2 : Int) + (d : Int) = (N : Int) ∧ 2 ≤ N ∧ N ≤ 5 := ⟨2 + d, by omega, by omega, by omega⟩
    obtain ⟨q, hq⟩ : ∃ q : Int, max (min (N : Int) 5) 1 = q ∧ 0 ≤ q ∧ q ≤ 7 := ⟨_, rfl, by omega, by omega⟩
    have e1 := hN.1
    have e2 := hq.1
    go_wp2_with fail
    refine (l91Piles_any R (p + 1 + 1) q _ R2.out (by omega) hq.2.1 hq.2.2).mono ?_
    rintro e w3 ⟨ps, g, c, p3, rfl, ho, hsm, hf, hl13, hr3, hp3, hs3⟩
    have HO := Lib.hid (World.ownsRow.mono ho S2.out.size)
    have HS := Lib.hid (S2.out.trans hs3)
    have HM := Lib.hid hsm
    have HF := Lib.hid hf
    have HR := Lib.hid hr3
    clear ho hsm hf hr3 hs3 R2 S2
    go_wp2
    go_ret2
    exact ⟨ps, g, c, p3, N, rfl, HO.out, HM.out, HF.out, hl13, by omega, HR.out, HS.out, by omega⟩
  · go_wp2_with fail
    refine (pick_any R (p + 1 + 1) 7 _ R2.out (by omega) (by omega) (by omega)).mono ?_
    rintro e w3 ⟨N, rfl, hN, hr, hs⟩
    have R3 := Lib.hid hr
    have S3 := Lib.hid (S2.out.trans hs)
    clear hr hs R2 S2
    obtain ⟨q, hq⟩ : ∃ q : Int, max (min (N : Int) 5) 1 = q ∧ 0 ≤ q ∧ q ≤ 7 := ⟨_, rfl, by omega, by omega⟩
    have e2 := hq.1
    go_wp2_with fail
    refine (l91Piles_any R (p + 1 + 1 + 1) q _ R3.out (by omega) hq.2.1 hq.2.2).mono ?_
    rintro e w4 ⟨ps, g, c, p3, rfl, ho, hsm, hf, hl13, hr3, hp3, hs3⟩
    have HO := Lib.hid (World.ownsRow.mono ho S3.out.size)
    have HS := Lib.hid (S3.out.trans hs3)
    have HM := Lib.hid hsm
    have HF := Lib.hid hf
    have HR := Lib.hid hr3
    clear ho hsm hf hr3 hs3 R3 S3
    go_wp2
    go_ret2
    exact ⟨ps, g, c, p3, N, rfl, HO.out, HM.out, HF.out, hl13, by omega, HR.out, HS.out, by omega⟩

/-- What is drawn. -/
def DrewX (w : World) (e : Ending) (w' : World) : Prop := ∃ (ps : List Pl) (g c n : Nat), e = .returned (.tuple #[.slice (some ⟨g, 0, none⟩) ps.length c, .int .i64 (n : Int)]) ∧ HasP w w' ps g c ∧ n ≤ 6 ∧ Below w.heap.size w w'
set_option maxHeartbeats 2000000 in
/-- **DrawPlaceCounts**. -/
theorem drawXPlace_any (a : Option Addr) (len cap : Nat) (bs : List Int) (w : World) (h : IsBytes w a len bs) (hcap : len ≤ cap) (hl : len ≤ 1048600) :
    Calls Try.prog 27 #[.slice a len cap] w (DrewX w) := by
  have H := Lib.hid h; clear h
  go_enter Try.func27, Try.ntmps27
  go_wp2_with fail
  refine (open_any a len cap bs _ H.out hcap hl).mono ?_
  rintro e w1 ⟨rfl, hr, hb⟩
  have hw1 := hr.1
  go_wp2_with fail
  refine (l91Pairs_any w.heap.size 0 _ hr (by omega)).mono ?_
  rintro e w2 ⟨ps, g, c, p2, n, rfl, ho, hsm, hf, hl13, hn6, hr2, hs, -⟩
  have HO := Lib.hid (ho.mono hb.size)
  have HB := Lib.hid (hb.trans (hs.below (Nat.le_refl _) (Nat.le_of_lt hw1)))
  have HS := Lib.hid hsm
  have HF := Lib.hid hf
  clear ho hb hs hsm hf hr hr2
  go_wp2
  go_ret2
  exact ⟨ps, g, c, n, rfl, ⟨HO.out, HS.out, HF.out, hl13⟩, hn6, HB.out⟩
set_option maxHeartbeats 2000000 in
/-- **DrawLastCounts**. -/
theorem drawXLast_any (a : Option Addr) (len cap : Nat) (bs : List Int) (w : World) (h : IsBytes w a len bs) (hcap : len ≤ cap) (hl : len ≤ 1048600) :
    Calls Try.prog 38 #[.slice a len cap] w (DrewX w) := by
  have H := Lib.hid h; clear h
  go_enter Try.func38, Try.ntmps38
  go_wp2_with fail
  refine (open_any a len cap bs _ H.out hcap hl).mono ?_
  rintro e w1 ⟨rfl, hr, hb⟩
  have hw1 := hr.1
  go_wp2_with fail
  refine (l91Pairs_any w.heap.size 0 _ hr (by omega)).mono ?_
  rintro e w2 ⟨ps, g, c, p2, n, rfl, ho, hsm, hf, hl13, hn6, hr2, hs, -⟩
  have HO := Lib.hid (ho.mono hb.size)
  have HB := Lib.hid (hb.trans (hs.below (Nat.le_refl _) (Nat.le_of_lt hw1)))
  have HS := Lib.hid hsm
  have HF := Lib.hid hf
  clear ho hb hs hsm hf hr hr2
  go_wp2
  go_ret2
  exact ⟨ps, g, c, n, rfl, ⟨HO.out, HS.out, HF.out, hl13⟩, hn6, HB.out⟩

end Go.Proofs.Ytojfpnjnbpeniaa
