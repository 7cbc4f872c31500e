/-
  spec.PilesValid: for every slice of piles with texts of at most 1048600 bytes; it writes into no memory that was there.
-/
import Derived.Test.YtdmjgicopnihgaaPileV
import Derived.Test.YtdmjgicopnihgaaQB
import Derived.Laws.IdiomStrings
namespace Go.Proofs.Ytdmjgicopnihgaa
open Go.RowKit

/-- All texts are of a size that a machine holds. -/
def Small (ps : List Pl) : Prop := ∀ i, (tAt ps i).size ≤ 1048600
theorem Small.of {ps : List Pl} (h : ∀ p ∈ ps, p.1.size ≤ 1048600) : Small ps := fun i => by
  unfold tAt
  cases e : ps[i]? with
  | none => simp
  | some p => exact h p (List.mem_of_getElem? e)
theorem asc_first {ps : List Pl} {k : Nat} (h : ascTo ps k = true) {v : Bool} (hv : pileB (tAt ps k) (mAt ps k) = v) (h0 : k = 0) : ascTo ps (k + 1) = v := by rw [ascTo_succ, h, hv, h0]; simp
theorem asc_next {ps : List Pl} {j : Nat} (h : ascTo ps (j + 1) = true) {v u : Bool} (hv : pileB (tAt ps (j + 1)) (mAt ps (j + 1)) = v) (hu : tl (tAt ps j) (tAt ps (j + 1)) = u) : ascTo ps (j + 1 + 1) = (v && u) := by rw [ascTo_succ, h, hv]; simp [hu]
theorem pilesB_no {ps : List Pl} {k len : Nat} (h : ascTo ps (k + 1) = false) (hk : k < len) (hl : ps.length = len) : pilesB ps = false := by
  rw [pilesB, ascTo_no h (by rw [hl]; exact hk)]; rfl
theorem pilesB_yes {ps : List Pl} {len : Nat} (h : ascTo ps len = true) (hl : ps.length = len) : pilesB ps = decide ((len : Int) ≤ 12) := by
  rw [pilesB, hl, h]; rfl

set_option maxRecDepth 100000 in
set_option maxHeartbeats 2000000 in
/-- **spec.PilesValid** answers as the model does. -/
theorem specPiles_any (a : Option Addr) (len cap : Nat) (ps : List Pl) (w : World) (h : IsPiles w a len cap ps) (hs : Small ps) :
    Calls Try.prog 29 #[.slice a len cap] w fun e w' => e = .returned (.bool (pilesB ps)) ∧ Below w.heap.size w w' := by
  obtain ⟨h1, h2, h3, h4⟩ := h
  have H1 := Lib.hid h1; clear h1
  have H4 := Lib.hid h4; clear h4
  have HS := Lib.hid hs; clear hs
  obtain ⟨g, hg⟩ : ∃ g, w.heap.size = g := ⟨_, rfl⟩
  go_enter Try.func29, Try.ntmps29
  go_wp2
  go_loopw [3] (fun i wr => ∃ k : Nat, k ≤ len ∧ i = .int .i64 k ∧ Hid (ascTo ps k = true) ∧ Below g w wr) (fun i _ => len - (intOf i).toNat)
  case atStart => exact ⟨0, Nat.zero_le _, rfl, rfl, Below.refl _ _⟩
  case round =>
    obtain ⟨k, hk, rfl, hA, hB⟩ := hrel
    by_cases hlt : k < len
    · obtain ⟨b, off, rfl, hb, hcell⟩ := H4.out (by omega)
      obtain ⟨t, ht⟩ : ∃ t, tAt ps k = t := ⟨_, rfl⟩
      obtain ⟨m, hm⟩ : ∃ m, mAt ps k = m := ⟨_, rfl⟩
      obtain ⟨v, hv⟩ : ∃ v, pileB t m = v := ⟨_, rfl⟩
      have hst : t.size ≤ 1048600 := by rw [← ht]; exact HS.out k
      have hbg : b < g := by rw [← hg]; exact hb
      have c0 : wr.cell? ⟨b, off + k * 2, none⟩ = some (.string t) := by rw [hB.cell (p := ⟨b, off + k * 2, none⟩) hbg, (hcell k hlt).1, ht]
      have c1 : wr.cell? ⟨b, off + k * 2 + 1, none⟩ = some (.int .i64 m) := by rw [hB.cell (p := ⟨b, off + k * 2 + 1, none⟩) hbg, (hcell k hlt).2, hm]
      have hbr : b < wr.heap.size := Nat.lt_of_lt_of_le (hg.symm ▸ hbg) hB.size
      have u0 : ∀ u : Beh wr, u.w.cell? ⟨b, off + k * 2, none⟩ = some (.string t) := Beh.cell c0 hbr
      have u1 : ∀ u : Beh wr, u.w.cell? ⟨b, off + k * 2 + 1, none⟩ = some (.int .i64 m) := Beh.cell c1 hbr
      rcases Nat.eq_zero_or_pos k with hk0 | hk0
      · have hgt : decide ((0 : Int) < (k : Int)) = false := decide_eq_false (by omega)
        have hgt' : decide (0 < k) = false := decide_eq_false (by omega)
        have HN := Lib.hid (asc_first hA.out (by rw [ht, hm, hv]) hk0)
        have HV := Lib.hid hv
        have HCELL := Lib.hid hcell
        clear ht hm hv hcell hk0
        cases v
        · go_wp2_with fail
          refine wp_region_below (by kernel_rfl) (by kernel_rfl) ?_
          repeat (go_big_quiet_step ((go_at_call 42; exact Calls.beh (l3Pile_as t m false _ hst HV.out))))
          refine wpQuiet_nil ?_
          rintro _ ⟨⟨w1, hb1⟩, rfl⟩
          have hB1 := hB.trans (hb1.mono (hg.symm ▸ hB.size))
          go_wp2
          go_ret
          exact ⟨ret_bool (pilesB_no HN.out hlt H1.out).symm, hg.symm ▸ hB1⟩
        · go_wp2_with fail
          refine wp_region_below (by kernel_rfl) (by kernel_rfl) ?_
          repeat (go_big_quiet_step ((go_at_call 42; exact Calls.beh (l3Pile_as t m true _ hst HV.out))))
          refine wpQuiet_nil ?_
          rintro _ ⟨⟨w1, hb1⟩, rfl⟩
          have hB1 := hB.trans (hb1.mono (hg.symm ▸ hB.size))
          go_wp2
          go_roundw
          case rel => exact ⟨k + 1, by omega, by go_num, HN, hB1⟩
          case measure => simp [intOf]; omega
      · obtain ⟨j, rfl⟩ : ∃ j, k = j + 1 := ⟨k - 1, by omega⟩
        obtain ⟨t', ht'⟩ : ∃ t', tAt ps j = t' := ⟨_, rfl⟩
        obtain ⟨u, hu⟩ : ∃ u, tl t' t = u := ⟨_, rfl⟩
        have c2 : wr.cell? ⟨b, off + j * 2, none⟩ = some (.string t') := by rw [hB.cell (p := ⟨b, off + j * 2, none⟩) hbg, (hcell j (by omega)).1, ht']
        have u2 : ∀ u : Beh wr, u.w.cell? ⟨b, off + j * 2, none⟩ = some (.string t') := Beh.cell c2 hbr
        have hgt : decide ((0 : Int) < (j : Int) + 1) = true := decide_eq_true (by omega)
        have hgt' : decide (0 < j + 1) = true := decide_eq_true (by omega)
        have hji : (j : Int) < (len : Int) := by omega
        have HN := Lib.hid (asc_next hA.out (by rw [ht, hm, hv]) (by rw [ht', ht, hu]))
        have HV := Lib.hid hv
        have HU := Lib.hid hu
        have HCELL := Lib.hid hcell
        clear ht ht' hm hv hu hcell
        cases v
        · go_wp2_with fail
          refine wp_region_below (by kernel_rfl) (by kernel_rfl) ?_
          repeat (go_big_quiet_step ((go_at_call 42; exact Calls.beh (l3Pile_as t m false _ hst HV.out))))
          refine wpQuiet_nil ?_
          rintro _ ⟨⟨w1, hb1⟩, rfl⟩
          have hB1 := hB.trans (hb1.mono (hg.symm ▸ hB.size))
          go_wp2
          go_ret
          exact ⟨ret_bool (pilesB_no HN.out hlt H1.out).symm, hg.symm ▸ hB1⟩
        · go_wp2_with fail
          refine wp_region_below (by kernel_rfl) (by kernel_rfl) ?_
          repeat (go_big_quiet_step ((go_at_call 42; exact Calls.beh (l3Pile_as t m true _ hst HV.out))))
          refine wpQuiet_nil ?_
          rintro _ ⟨⟨w1, hb1⟩, rfl⟩
          have hB1 := hB.trans (hb1.mono (hg.symm ▸ hB.size))
          have hbl : Op.bytesLess t'.toList t.toList = u := HU.out
          cases u
          · simp only [hbl, Bool.not_false]
            go_wp2
            go_ret
            exact ⟨ret_bool (pilesB_no HN.out hlt H1.out).symm, hg.symm ▸ hB1⟩
          · simp only [hbl, Bool.not_true]
            go_wp2
            go_roundw
            case rel => exact ⟨j + 1 + 1, by omega, by go_num, HN, hB1⟩
            case measure => simp [intOf]; omega
    · obtain rfl : k = len := by omega
      go_wp2
      go_ret
      exact ⟨ret_bool (pilesB_yes hA.out H1.out).symm, hg.symm ▸ hB⟩

end Go.Proofs.Ytdmjgicopnihgaa
