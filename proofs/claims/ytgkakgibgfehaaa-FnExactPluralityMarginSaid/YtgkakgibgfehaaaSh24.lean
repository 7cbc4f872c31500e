/-
  The function of our own, alone: what it answers.
  Runoffs, as lists: a majority at once, two candidates exchanged, ballots that name nobody. Of no memory.
-/
import Derived.Test.YtgkakgibgfehaaaSh33
import Derived.Test.YtgkakgibgfehaaaSh23
namespace Go.Proofs.Ytgkakgibgfehaaa
open Go.RowKit Go.Proofs.Ytgkakgibgfehaaa.Md

attribute [local go_sem] Oper.semAt_some

theorem rowI_info0 : (Tq.prog.info? 27).map (fun i => (i.zero, i.size, i.bytes)) = some (some (.slice none 0 0), 1, 24) := by kernel_rfl
theorem eql_nil {P : Program} {t e : TypeId} {pa : Option Addr} {l c : Nat} (hU : P.underlying t = some (.slice e)) (w : World) : Sem.run P (binOp .eql t (.slice pa l c) (.slice none 0 0)) w = .ok (.bool pa.isNone) w := by
  have : (Op.equal t (.slice pa l c) (.slice none 0 0)).run P w = .ok pa.isNone w := Sim.eqNil hU w 9999
  show ((do pure (.bool (← Op.equal t (.slice pa l c) (.slice none 0 0))) : Sem Value)).run P w = _
  simp [this]
set_option maxRecDepth 100000 in
set_option maxHeartbeats 4000000 in
theorem own_as (pa : Option Addr) (l ca : Nat) (ps : List Pl) (b2 o2 m cb : Nat) (L : List Bool) (w : World) (hps : IsPiles w pa l ca ps) (hsm : Small ps) (hbs : IsBools w (some ⟨b2, o2, none⟩) m cb L) (hm : 0 < m) :
    Calls Tq.prog 52 #[.slice pa l ca, .slice (some ⟨b2, o2, none⟩) m cb] w fun e w2 => ∃ C rb, e = .returned (.slice (some ⟨C, 0, none⟩) (partsOf l) (partsOf l)) ∧ RowsAt w w2 C (partsOf l) m (partsOf l) rb (rowOf L ps l) := by
  have HP := Lib.hid hps
  have HB := Lib.hid hbs
  have h1 : (l : Int) < 1048601 := by have := hps.2.2.1; omega
  have h2 : (m : Int) < 1048601 := by have := hbs.2.2.1; omega
  have h3 : (l : Int) ≤ (ca : Int) := by have := hps.2.1; omega
  have h4 : (m : Int) ≤ (cb : Int) := by have := hbs.2.1; omega
  have h5 : (0 : Int) < (m : Int) := by omega
  clear hps hbs
  obtain ⟨z, hz⟩ : ∃ z, pa.isNone = z := ⟨_, rfl⟩
  have HE : ∀ w, Sem.run Tq.prog (binOp .eql 23 (.slice pa l ca) (.slice none 0 0)) w = .ok (.bool z) w := by
    intro w
    rw [← hz]
    exact eql_nil Tq.underlying23 w
  have HE2 : ∀ w, Sem.run Tq.prog (binOp .eql 24 (.slice (some ⟨b2, o2, none⟩) m cb) (.slice none 0 0)) w = .ok (.bool false) w := fun w => eql_nil Tq.underlying24 w
  have h0 : z = true → decide ((0 : Int) < (l : Int)) = false := by
    intro e
    subst e
    by_cases hl : 0 < l
    · obtain ⟨b, off, e, -⟩ := HP.out.2.2.2 hl
      rw [e] at hz
      cases hz
    · exact decide_eq_false (by omega)
  go_enter Tq.func52, Tq.ntmps52
  have ht1 : decide ((l : Int) < 1048601) = true := decide_eq_true h1
  have ht2 : decide ((m : Int) < 1048601) = true := decide_eq_true h2
  have ht5 : decide (0 < m) = true := decide_eq_true hm
  clear hz
  have key : z = false ∨ (z = true ∧ decide (0 < l) = false) := by
    cases z
    · exact .inl rfl
    · refine .inr ⟨rfl, decide_eq_false fun h => ?_⟩
      have := of_decide_eq_false (h0 rfl)
      omega
  clear h0
  rcases key with rfl | ⟨rfl, h00⟩
  · go_wp2_with fail
    go_loop [13, 14, 15, 16, 17, 18, 19, 20, 21, 22, 23] (fun iv _ _ _ _ _ _ _ _ _ _ => ∃ i : Nat, i ≤ l ∧ iv = .int .i64 (i : Int)) (fun iv _ _ _ _ _ _ _ _ _ _ => l - (intOf iv).toNat)
    case atStart => exact ⟨0, Nat.zero_le _, rfl⟩
    case round =>
      obtain ⟨i, hil, rfl⟩ := hrel
      by_cases hlt : i < l
      · obtain ⟨b, off, rfl, hb, c0, c1⟩ := HP.out.at_text hlt
        obtain ⟨t, ht⟩ : ∃ t, tAt ps i = t := ⟨_, rfl⟩
        obtain ⟨x, hx⟩ : ∃ x, mAt ps i = x := ⟨_, rfl⟩
        have hst : (t.size : Int) < 1048601 := by have := hsm i; rw [ht] at this; omega
        have hst2 : decide ((t.size : Int) < 1048601) = true := decide_eq_true hst
        rw [ht] at c0
        rw [hx] at c1
        clear ht hx
        have hlt' : (i : Int) < (l : Int) := by omega
        go_wp2_with fail
        go_round
        case rel => exact ⟨i + 1, by omega, by go_num⟩
        case measure => simp [intOf]; omega
      · obtain rfl : l = i := by omega
        go_wp2_with fail
        go_loop [43, 44, 45, 46, 47] (fun iv _ _ _ _ => ∃ i : Nat, i ≤ m ∧ iv = .int .i64 (i : Int)) (fun iv _ _ _ _ => m - (intOf iv).toNat)
        case atStart => exact ⟨0, Nat.zero_le _, rfl⟩
        case round =>
          obtain ⟨j, hjl, rfl⟩ := hrel
          by_cases hlt : j < m
          · obtain ⟨b3, o3, e3, hb3, hc3⟩ := HB.out.2.2.2 hm
            cases e3
            have c3 := hc3 j hlt
            obtain ⟨u, hu⟩ : ∃ u, L[j]?.getD false = u := ⟨_, rfl⟩
            rw [hu] at c3
            clear hc3 hu
            have hlt' : (j : Int) < (m : Int) := by omega
            cases u
            all_goals
              go_wp2_with fail
              go_round
              case rel => exact ⟨j + 1, by omega, by go_num⟩
              case measure => simp [intOf]; omega
          · obtain rfl : m = j := by omega
            go_wp2_with fail
            refine (chunk_as pa l ca w).mono ?_
            rintro e w0 ⟨Bs, Bn, rfl, hBs, hBn, hc0, hc1, hb0⟩
            obtain ⟨b, off, hpa⟩ : ∃ b off, 0 < l → pa = some ⟨b, off, none⟩ := by
              by_cases h : 0 < l
              · obtain ⟨b, off, e, -⟩ := HP.out.2.2.2 h
                exact ⟨b, off, fun _ => e⟩
              · exact ⟨0, 0, fun h' => absurd h' h⟩
            have hCol := collectParts_as Bs Bn pa b off l ca hpa HP.out.2.2.1 HP.out.2.1 w0 hBs hBn hc0 hc1
            have HPA := Lib.hid hpa
            clear hpa hc0 hc1 hBs hBn
            go_wp2_with fail
            refine hCol.mono ?_
            rintro e w1 ⟨v, rfl, hrow, hb1⟩
            clear hCol
            obtain ⟨n, hn⟩ : ∃ n, partsOf l = n := ⟨_, rfl⟩
            rw [hn] at hrow
            have hn4 : n ≤ 1048600 := by rw [← hn]; unfold partsOf; omega
            have HN := Lib.hid hn
            have HBw : Hid (Below w.heap.size w w1) := hb0.trans (hb1.mono hb0.size)
            obtain ⟨pv, cp, hvs, hPP⟩ : ∃ pv cp, v = .slice pv n cp ∧ Hid (∀ j, j < n → ∃ g, pv = some ⟨g, 0, none⟩ ∧ g < w1.heap.size ∧ w1.cell? ⟨g, j, none⟩ = some (chunkV b off l j)) := by
              obtain ⟨-, ⟨h1, h2⟩ | ⟨g, cap, cur, h1, h2, h3, h4, h5, h6, h7⟩⟩ := hrow
              · exact ⟨none, 0, by rw [h1, h2], fun j hj => by omega⟩
              · refine ⟨_, _, h1, fun j hj => ⟨g, rfl, (Array.getElem?_eq_some_iff.1 h3).1, ?_⟩⟩
                have : cur[j]? = some (chunkV b off l j) := by
                  have e := congrArg (fun x => x[j]?) h7
                  simp only [Nat.mul_one] at e
                  rw [List.getElem?_take_of_lt hj] at e
                  simpa [upto, hj] using e
                simp [World.cell?, h3, this]
            subst hvs
            obtain ⟨i0, hi, hz0, hz1, hz2⟩ := info_parts rowI_info0
            clear hrow hb0 hb1 hn
            obtain ⟨C, hCe⟩ : ∃ C, w1.heap.size = C := ⟨_, rfl⟩
            go_wp2_with (at_make; refine wpList_make_full _ rfl _ _ 67 rfl w1.heap.size 27 i0 (.slice none 0 0) 1 Tq.underlying67 hi hz0 hz1 .i64 .i64 _ _ n rfl rfl rfl rfl (by rw [hz2]; omega) (by unfold maxLen; omega) (Nat.le_refl _) ?_; intro w3 hown hgrow)
            rw [hCe] at hown
            obtain ⟨-, hC3⟩ := row_block hown
            have hR3 : Hid (RowsAt w1 w3 C n m 0 (fun _ => 0) (rowOf L ps l)) := by
              refine ⟨(Below.refl _ w1).grown hgrow (Nat.le_refl _) (fun k e => by cases e), Nat.le_of_eq hCe, ?_, fun j h => by omega, fun j k _ h => by omega⟩
              rw [hC3, ← rowsC_made]
            have HCe := Lib.hid hCe
            clear hown hgrow hC3 hCe hi hz0 hz1 hz2
            go_wp2
            go_loopw [32, 33, 34, 35, 36, 37, 38] (fun iv _ _ _ _ _ _ wr => ∃ i : Nat, ∃ rb, i ≤ n ∧ iv = .int .i64 (i : Int) ∧ Hid (RowsAt w1 wr C n m i rb (rowOf L ps l))) (fun iv _ _ _ _ _ _ _ => n - (intOf iv).toNat)
            case atStart => exact ⟨0, _, Nat.zero_le _, rfl, hR3⟩
            case round =>
              obtain ⟨i, rb, hin, rfl, hR⟩ := hrel
              clear hR3
              by_cases hlt : i < n
              · have h4 : 4 * i < l := by have := HN.out; unfold partsOf at this; omega
                obtain ⟨g, rfl, hg, hcell⟩ := hPP.out i hlt
                have hpe := HPA.out (by omega)
                subst hpe
                have hsz := hR.out.below.size
                have hcw : wr.cell? ⟨g, i, none⟩ = some (chunkV b off l i) := (hR.out.below.cell (p := ⟨g, i, none⟩) hg).trans hcell
                have hBww : Below w.heap.size w wr := HBw.out.trans (hR.out.below.mono HBw.out.size)
                have hpi := IsPiles.chunk (p := i) (HP.out.below hBww) (by omega)
                have hbi := HB.out.below hBww
                have hCall := partCounts_as _ _ _ _ _ _ _ _ wr hpi (Small.chunk hsm l i) hbi
                obtain ⟨k, hk⟩ : ∃ k, min 4 (l - 4 * i) = k := ⟨_, rfl⟩
                obtain ⟨ok, hok⟩ : ∃ o, off + 8 * i = o := ⟨_, rfl⟩
                have hcv : chunkV b off l i = .slice (some ⟨b, ok, none⟩) k k := by unfold chunkV; rw [hk, hok]
                rw [hcv] at hcw
                rw [hk, hok] at hCall
                have hlt' : (i : Int) < (n : Int) := by omega
                clear hcv hk hok hpi hbi hBww hcell hsz
                go_wp2_with fail
                refine hCall.mono ?_
                rintro e w4 ⟨gr, rfl, hrow, hb4⟩
                obtain ⟨hg1, hg2⟩ := row_block hrow
                have hCl : C < wr.heap.size := (Array.getElem?_eq_some_iff.1 hR.out.cells).1
                have hc1 : w4.heap[C]? = some (.cells (rowsC n m i rb) 27 (0, 0)) := (hb4.block C hCl).trans hR.out.cells
                have hcc : w4.cell? ⟨C, i, none⟩ = some (.slice none 0 0) := by
                  have := rowsC_get (m := m) (i := i) (rb := rb) hlt
                  rw [if_neg (Nat.lt_irrefl i)] at this
                  simp [World.cell?, hc1, this]
                have hcf := frozen_of_row w4 C i _ _ hc1
                have hR1 := Lib.hid (hR.out.next (g := gr) hlt hb4 hg1 (by rw [hg2]; simp [rowOf]))
                clear hCall hrow hb4 hg1 hg2 hCl hc1 hR
                go_wp2_with fail
                go_roundw
                case rel => exact ⟨i + 1, _, by omega, by go_num, hR1⟩
                case measure => simp [intOf]; omega
              · obtain rfl : n = i := by omega
                go_wp2_with fail
                go_ret
                rw [HN.out]
                exact ⟨C, rb, rfl, ⟨HBw.out.trans (hR.out.below.mono HBw.out.size), Nat.le_trans HBw.out.size hR.out.c0, hR.out.cells, hR.out.rows, hR.out.inc⟩⟩
  · go_wp2_with fail
    go_loop [13, 14, 15, 16, 17, 18, 19, 20, 21, 22, 23] (fun iv _ _ _ _ _ _ _ _ _ _ => ∃ i : Nat, i ≤ l ∧ iv = .int .i64 (i : Int)) (fun iv _ _ _ _ _ _ _ _ _ _ => l - (intOf iv).toNat)
    case atStart => exact ⟨0, Nat.zero_le _, rfl⟩
    case round =>
      obtain ⟨i, hil, rfl⟩ := hrel
      by_cases hlt : i < l
      · obtain ⟨b, off, rfl, hb, c0, c1⟩ := HP.out.at_text hlt
        obtain ⟨t, ht⟩ : ∃ t, tAt ps i = t := ⟨_, rfl⟩
        obtain ⟨x, hx⟩ : ∃ x, mAt ps i = x := ⟨_, rfl⟩
        have hst : (t.size : Int) < 1048601 := by have := hsm i; rw [ht] at this; omega
        have hst2 : decide ((t.size : Int) < 1048601) = true := decide_eq_true hst
        rw [ht] at c0
        rw [hx] at c1
        clear ht hx
        have hlt' : (i : Int) < (l : Int) := by omega
        go_wp2_with fail
        go_round
        case rel => exact ⟨i + 1, by omega, by go_num⟩
        case measure => simp [intOf]; omega
      · obtain rfl : l = i := by omega
        go_wp2_with fail
        go_loop [43, 44, 45, 46, 47] (fun iv _ _ _ _ => ∃ i : Nat, i ≤ m ∧ iv = .int .i64 (i : Int)) (fun iv _ _ _ _ => m - (intOf iv).toNat)
        case atStart => exact ⟨0, Nat.zero_le _, rfl⟩
        case round =>
          obtain ⟨j, hjl, rfl⟩ := hrel
          by_cases hlt : j < m
          · obtain ⟨b3, o3, e3, hb3, hc3⟩ := HB.out.2.2.2 hm
            cases e3
            have c3 := hc3 j hlt
            obtain ⟨u, hu⟩ : ∃ u, L[j]?.getD false = u := ⟨_, rfl⟩
            rw [hu] at c3
            clear hc3 hu
            have hlt' : (j : Int) < (m : Int) := by omega
            cases u
            all_goals
              go_wp2_with fail
              go_round
              case rel => exact ⟨j + 1, by omega, by go_num⟩
              case measure => simp [intOf]; omega
          · obtain rfl : m = j := by omega
            go_wp2_with fail
            refine (chunk_as pa l ca w).mono ?_
            rintro e w0 ⟨Bs, Bn, rfl, hBs, hBn, hc0, hc1, hb0⟩
            obtain ⟨b, off, hpa⟩ : ∃ b off, 0 < l → pa = some ⟨b, off, none⟩ := by
              by_cases h : 0 < l
              · obtain ⟨b, off, e, -⟩ := HP.out.2.2.2 h
                exact ⟨b, off, fun _ => e⟩
              · exact ⟨0, 0, fun h' => absurd h' h⟩
            have hCol := collectParts_as Bs Bn pa b off l ca hpa HP.out.2.2.1 HP.out.2.1 w0 hBs hBn hc0 hc1
            have HPA := Lib.hid hpa
            clear hpa hc0 hc1 hBs hBn
            go_wp2_with fail
            refine hCol.mono ?_
            rintro e w1 ⟨v, rfl, hrow, hb1⟩
            clear hCol
            obtain ⟨n, hn⟩ : ∃ n, partsOf l = n := ⟨_, rfl⟩
            rw [hn] at hrow
            have hn4 : n ≤ 1048600 := by rw [← hn]; unfold partsOf; omega
            have HN := Lib.hid hn
            have HBw : Hid (Below w.heap.size w w1) := hb0.trans (hb1.mono hb0.size)
            obtain ⟨pv, cp, hvs, hPP⟩ : ∃ pv cp, v = .slice pv n cp ∧ Hid (∀ j, j < n → ∃ g, pv = some ⟨g, 0, none⟩ ∧ g < w1.heap.size ∧ w1.cell? ⟨g, j, none⟩ = some (chunkV b off l j)) := by
              obtain ⟨-, ⟨h1, h2⟩ | ⟨g, cap, cur, h1, h2, h3, h4, h5, h6, h7⟩⟩ := hrow
              · exact ⟨none, 0, by rw [h1, h2], fun j hj => by omega⟩
              · refine ⟨_, _, h1, fun j hj => ⟨g, rfl, (Array.getElem?_eq_some_iff.1 h3).1, ?_⟩⟩
                have : cur[j]? = some (chunkV b off l j) := by
                  have e := congrArg (fun x => x[j]?) h7
                  simp only [Nat.mul_one] at e
                  rw [List.getElem?_take_of_lt hj] at e
                  simpa [upto, hj] using e
                simp [World.cell?, h3, this]
            subst hvs
            obtain ⟨i0, hi, hz0, hz1, hz2⟩ := info_parts rowI_info0
            clear hrow hb0 hb1 hn
            obtain ⟨C, hCe⟩ : ∃ C, w1.heap.size = C := ⟨_, rfl⟩
            go_wp2_with (at_make; refine wpList_make_full _ rfl _ _ 67 rfl w1.heap.size 27 i0 (.slice none 0 0) 1 Tq.underlying67 hi hz0 hz1 .i64 .i64 _ _ n rfl rfl rfl rfl (by rw [hz2]; omega) (by unfold maxLen; omega) (Nat.le_refl _) ?_; intro w3 hown hgrow)
            rw [hCe] at hown
            obtain ⟨-, hC3⟩ := row_block hown
            have hR3 : Hid (RowsAt w1 w3 C n m 0 (fun _ => 0) (rowOf L ps l)) := by
              refine ⟨(Below.refl _ w1).grown hgrow (Nat.le_refl _) (fun k e => by cases e), Nat.le_of_eq hCe, ?_, fun j h => by omega, fun j k _ h => by omega⟩
              rw [hC3, ← rowsC_made]
            have HCe := Lib.hid hCe
            clear hown hgrow hC3 hCe hi hz0 hz1 hz2
            go_wp2
            go_loopw [32, 33, 34, 35, 36, 37, 38] (fun iv _ _ _ _ _ _ wr => ∃ i : Nat, ∃ rb, i ≤ n ∧ iv = .int .i64 (i : Int) ∧ Hid (RowsAt w1 wr C n m i rb (rowOf L ps l))) (fun iv _ _ _ _ _ _ _ => n - (intOf iv).toNat)
            case atStart => exact ⟨0, _, Nat.zero_le _, rfl, hR3⟩
            case round =>
              obtain ⟨i, rb, hin, rfl, hR⟩ := hrel
              clear hR3
              by_cases hlt : i < n
              · have h4 : 4 * i < l := by have := HN.out; unfold partsOf at this; omega
                obtain ⟨g, rfl, hg, hcell⟩ := hPP.out i hlt
                have hpe := HPA.out (by omega)
                subst hpe
                have hsz := hR.out.below.size
                have hcw : wr.cell? ⟨g, i, none⟩ = some (chunkV b off l i) := (hR.out.below.cell (p := ⟨g, i, none⟩) hg).trans hcell
                have hBww : Below w.heap.size w wr := HBw.out.trans (hR.out.below.mono HBw.out.size)
                have hpi := IsPiles.chunk (p := i) (HP.out.below hBww) (by omega)
                have hbi := HB.out.below hBww
                have hCall := partCounts_as _ _ _ _ _ _ _ _ wr hpi (Small.chunk hsm l i) hbi
                obtain ⟨k, hk⟩ : ∃ k, min 4 (l - 4 * i) = k := ⟨_, rfl⟩
                obtain ⟨ok, hok⟩ : ∃ o, off + 8 * i = o := ⟨_, rfl⟩
                have hcv : chunkV b off l i = .slice (some ⟨b, ok, none⟩) k k := by unfold chunkV; rw [hk, hok]
                rw [hcv] at hcw
                rw [hk, hok] at hCall
                have hlt' : (i : Int) < (n : Int) := by omega
                clear hcv hk hok hpi hbi hBww hcell hsz
                go_wp2_with fail
                refine hCall.mono ?_
                rintro e w4 ⟨gr, rfl, hrow, hb4⟩
                obtain ⟨hg1, hg2⟩ := row_block hrow
                have hCl : C < wr.heap.size := (Array.getElem?_eq_some_iff.1 hR.out.cells).1
                have hc1 : w4.heap[C]? = some (.cells (rowsC n m i rb) 27 (0, 0)) := (hb4.block C hCl).trans hR.out.cells
                have hcc : w4.cell? ⟨C, i, none⟩ = some (.slice none 0 0) := by
                  have := rowsC_get (m := m) (i := i) (rb := rb) hlt
                  rw [if_neg (Nat.lt_irrefl i)] at this
                  simp [World.cell?, hc1, this]
                have hcf := frozen_of_row w4 C i _ _ hc1
                have hR1 := Lib.hid (hR.out.next (g := gr) hlt hb4 hg1 (by rw [hg2]; simp [rowOf]))
                clear hCall hrow hb4 hg1 hg2 hCl hc1 hR
                go_wp2_with fail
                go_roundw
                case rel => exact ⟨i + 1, _, by omega, by go_num, hR1⟩
                case measure => simp [intOf]; omega
              · obtain rfl : n = i := by omega
                go_wp2_with fail
                go_ret
                rw [HN.out]
                exact ⟨C, rb, rfl, ⟨HBw.out.trans (hR.out.below.mono HBw.out.size), Nat.le_trans HBw.out.size hR.out.c0, hR.out.cells, hR.out.rows, hR.out.inc⟩⟩
end Go.Proofs.Ytgkakgibgfehaaa

namespace Go.Proofs.Ytgkakgibgfehaaa

/-! ### Two candidates exchanged. -/
end Go.Proofs.Ytgkakgibgfehaaa
