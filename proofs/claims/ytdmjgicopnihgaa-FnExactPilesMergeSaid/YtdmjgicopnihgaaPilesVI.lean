/-
  impl.PilesValid: for every slice of piles with texts of at most 1048600 bytes; it writes into no memory that was there.
-/
import Derived.Test.YtdmjgicopnihgaaCmp
namespace Go.Proofs.Ytdmjgicopnihgaa
open Go.RowKit

set_option maxRecDepth 100000 in
set_option maxHeartbeats 2000000 in
/-- **impl.PilesValid** answers as the model does. -/
theorem implPiles_any (a : Option Addr) (len cap : Nat) (ps : List Pl) (w : World) (h : IsPiles w a len cap ps) (hs : Small ps) :
    Calls Try.prog 20 #[.slice a len cap] w fun e w' => e = .returned (.bool (pilesB ps)) ∧ Below w.heap.size w w' := by
  obtain ⟨h1, h2, h3, h4⟩ := h
  have H1 := Lib.hid h1; clear h1
  have H4 := Lib.hid h4; clear h4
  have HS := Lib.hid hs; clear hs
  obtain ⟨g, hg⟩ : ∃ g, w.heap.size = g := ⟨_, rfl⟩
  by_cases hlong : 12 < len
  · have hgt : decide ((12 : Int) < (len : Int)) = true := decide_eq_true (by omega)
    have HE : Hid (pilesB ps = false) := by
      unfold Hid pilesB
      rw [H1.out, decide_eq_false (by omega)]; simp
    go_enter Try.func20, Try.ntmps20
    go_wp2
    go_ret
    exact ⟨ret_bool HE.out.symm, Below.refl _ _⟩
  · have hgt : decide ((12 : Int) < (len : Int)) = false := decide_eq_false (by omega)
    have hl12 : (len : Int) ≤ 12 := by omega
    go_enter Try.func20, Try.ntmps20
    go_wp2
    go_loopw [10] (fun i wr => ∃ k : Nat, k ≤ len ∧ i = .int .i64 k ∧ Hid (ascTo ps k = true) ∧ Below g w wr) (fun i _ => len - (intOf i).toNat)
    case atStart => exact ⟨0, Nat.zero_le _, rfl, rfl, Below.refl _ _⟩
    case round =>
      obtain ⟨k, hk, rfl, hA, hB⟩ := hrel
      by_cases hlt : k < len
      · obtain ⟨b, off, rfl, hb, hcell⟩ := H4.out (by omega)
        obtain ⟨t, ht⟩ : ∃ t, tAt ps k = t := ⟨_, rfl⟩
        obtain ⟨m, hm⟩ : ∃ m, mAt ps k = m := ⟨_, rfl⟩
        obtain ⟨v, hv⟩ : ∃ v, pileB t m = v := ⟨_, rfl⟩
        have hst : t.size ≤ 1048600 := by rw [← ht]; exact HS.out k
        have hbg : b < g := by rw [← hg]; exact hb
        have c0 : wr.cell? ⟨b, off + k * 2, none⟩ = some (.string t) := by rw [hB.cell (p := ⟨b, off + k * 2, none⟩) hbg, (hcell k hlt).1, ht]
        have c1 : wr.cell? ⟨b, off + k * 2 + 1, none⟩ = some (.int .i64 m) := by rw [hB.cell (p := ⟨b, off + k * 2 + 1, none⟩) hbg, (hcell k hlt).2, hm]
        have hbr : b < wr.heap.size := Nat.lt_of_lt_of_le (hg.symm ▸ hbg) hB.size
        obtain ⟨W, hW⟩ : ∃ W, wr.alloc (.cells #[.string t, .int .i64 m] 37) = W := ⟨_, rfl⟩
        have hBW : Below g w W := by rw [← hW]; exact hB.alloc (hg ▸ hB.size) _
        have hbW : b < W.heap.size := by rw [← hW]; simp; omega
        have d0 : W.cell? ⟨b, off + k * 2, none⟩ = some (.string t) := by rw [← hW, World.cell?_alloc_past _ _ _ hbr]; exact c0
        have d1 : W.cell? ⟨b, off + k * 2 + 1, none⟩ = some (.int .i64 m) := by rw [← hW, World.cell?_alloc_past _ _ _ hbr]; exact c1
        have e0 : W.cell? ⟨wr.heap.size, 0, none⟩ = some (.string t) := by rw [← hW]; exact World.cell?_alloc_new wr _ _ 0
        have e1 : W.cell? ⟨wr.heap.size, 1, none⟩ = some (.int .i64 m) := by rw [← hW]; exact World.cell?_alloc_new wr _ _ 1
        have hwW : wr.heap.size < W.heap.size := by rw [← hW]; simp
        have u0 : ∀ u : Beh W, u.w.cell? ⟨b, off + k * 2, none⟩ = some (.string t) := Beh.cell d0 hbW
        have u1 : ∀ u : Beh W, u.w.cell? ⟨b, off + k * 2 + 1, none⟩ = some (.int .i64 m) := Beh.cell d1 hbW
        have v0 : ∀ u : Beh W, u.w.cell? ⟨wr.heap.size, 0, none⟩ = some (.string t) := Beh.cell e0 hwW
        have v1 : ∀ u : Beh W, u.w.cell? ⟨wr.heap.size, 1, none⟩ = some (.int .i64 m) := Beh.cell e1 hwW
        have hgW : g ≤ W.heap.size := by have := hB.size; rw [hg] at this; omega
        rcases Nat.eq_zero_or_pos k with hk0 | hk0
        · have hgt0 : decide ((0 : Int) < (k : Int)) = false := decide_eq_false (by omega)
          have hgt1 : decide (0 < k) = false := decide_eq_false (by omega)
          have HN := Lib.hid (asc_first hA.out (by rw [ht, hm, hv]) hk0)
          have HV := Lib.hid hv
          have HCELL := Lib.hid hcell
          clear ht hm hv hcell hk0
          cases v
          · go_wp2_with fail
            refine wp_region_below (by kernel_rfl) (by kernel_rfl) ?_
            repeat (go_big_quiet_step ((go_at_call 44; exact Calls.beh (pileValid_as t m false _ hst HV.out))))
            refine wpQuiet_nil ?_
            rintro _ ⟨⟨w1, hb1⟩, rfl⟩
            have hB1 := hBW.trans (hb1.mono hgW)
            go_wp2
            go_ret
            exact ⟨ret_bool (pilesB_no HN.out hlt H1.out).symm, hg.symm ▸ hB1⟩
          · go_wp2_with fail
            refine wp_region_below (by kernel_rfl) (by kernel_rfl) ?_
            repeat (go_big_quiet_step ((go_at_call 44; exact Calls.beh (pileValid_as t m true _ hst HV.out))))
            refine wpQuiet_nil ?_
            rintro _ ⟨⟨w1, hb1⟩, rfl⟩
            have hB1 := hBW.trans (hb1.mono hgW)
            go_wp2
            go_roundw
            case rel => exact ⟨k + 1, by omega, by go_num, HN, hB1⟩
            case measure => simp [intOf]; omega
        · obtain ⟨j, rfl⟩ : ∃ j, k = j + 1 := ⟨k - 1, by omega⟩
          obtain ⟨t', ht'⟩ : ∃ t', tAt ps j = t' := ⟨_, rfl⟩
          obtain ⟨m', hm'⟩ : ∃ m', mAt ps j = m' := ⟨_, rfl⟩
          obtain ⟨u, hu⟩ : ∃ u, tl t' t = u := ⟨_, rfl⟩
          obtain ⟨r, hr⟩ : ∃ r, cmpP (t', m') (t, m) = r := ⟨_, rfl⟩
          have c2 : W.cell? ⟨b, off + j * 2, none⟩ = some (.string t') := by rw [hBW.cell (p := ⟨b, off + j * 2, none⟩) hbg, (hcell j (by omega)).1, ht']
          have c3 : W.cell? ⟨b, off + j * 2 + 1, none⟩ = some (.int .i64 m') := by rw [hBW.cell (p := ⟨b, off + j * 2 + 1, none⟩) hbg, (hcell j (by omega)).2, hm']
          have u2 : ∀ u : Beh W, u.w.cell? ⟨b, off + j * 2, none⟩ = some (.string t') := Beh.cell c2 hbW
          have u3 : ∀ u : Beh W, u.w.cell? ⟨b, off + j * 2 + 1, none⟩ = some (.int .i64 m') := Beh.cell c3 hbW
          have hgt0 : decide ((0 : Int) < (j : Int) + 1) = true := decide_eq_true (by omega)
          have hgt1 : decide (0 < j + 1) = true := decide_eq_true (by omega)
          have hji : (j : Int) < (len : Int) := by omega
          have HN := Lib.hid (asc_next hA.out (by rw [ht, hm, hv]) (by rw [ht', ht, hu]))
          have HR := Lib.hid hr
          have HGE : Hid (decide ((0 : Int) ≤ r) = !u) := by rw [Hid, ← hr, ← hu]; exact cmp_neg (t', m') (t, m)
          have HV := Lib.hid hv
          have HCELL := Lib.hid hcell
          clear ht ht' hm hm' hv hu hr hcell
          cases v
          · go_wp2_with fail
            refine wp_region_below (by kernel_rfl) (by kernel_rfl) ?_
            repeat (go_big_quiet_step ((go_at_call 44; exact Calls.beh (pileValid_as t m false _ hst HV.out))))
            refine wpQuiet_nil ?_
            rintro _ ⟨⟨w1, hb1⟩, rfl⟩
            have hB1 := hBW.trans (hb1.mono hgW)
            go_wp2
            go_ret
            exact ⟨ret_bool (pilesB_no HN.out hlt H1.out).symm, hg.symm ▸ hB1⟩
          · go_wp2_with fail
            refine wp_region_below (by kernel_rfl) (by kernel_rfl) ?_
            repeat (go_big_quiet_step ((first | (go_at_call 44; exact Calls.beh (pileValid_as t m true _ hst HV.out)) | (go_at_call 45; exact Calls.beh (compare_as t' m' t m r _ HR.out)))))
            refine wpQuiet_nil ?_
            rintro _ ⟨⟨w1, hb1⟩, rfl⟩
            have hB1 := hBW.trans (hb1.mono hgW)
            cases u
            · have hge : decide ((0 : Int) ≤ r) = true := HGE.out
              simp only [hge]
              go_wp2
              go_ret
              exact ⟨ret_bool (pilesB_no HN.out hlt H1.out).symm, hg.symm ▸ hB1⟩
            · have hge : decide ((0 : Int) ≤ r) = false := HGE.out
              simp only [hge]
              go_wp2
              go_roundw
              case rel => exact ⟨j + 1 + 1, by omega, by go_num, HN, hB1⟩
              case measure => simp [intOf]; omega
      · obtain rfl : k = len := by omega
        have hyes := pilesB_yes hA.out H1.out
        rw [decide_eq_true hl12] at hyes
        have HY := Lib.hid hyes; clear hyes
        go_wp2
        go_ret
        exact ⟨ret_bool HY.out.symm, hg.symm ▸ hB⟩

end Go.Proofs.Ytdmjgicopnihgaa
