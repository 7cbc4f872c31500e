/-
  laws.FnMarksAgreeTurned returns true for every code: impl.MarksAgree is the same with the first of the drawn readers as the last one. No condition.
-/
import Derived.Test.YtpgnneaaemfkoaaOpen
import Derived.Test.YtpgnneaaemfkoaaAgreeI
import Derived.Test.YtpgnneaaemfkoaaDrawG
import Derived.Test.YtpgnneaaemfkoaaSame
import Derived.RangeFuncBox
import Derived.Test.YtpgnneaaemfkoaaStepA
namespace Go.Proofs.Ytpgnneaaemfkoaa.fnMarksAgreeTurned
open Go.RowKit
set_option linter.unusedVariables false

/-- The values of the rows behind the first. -/
def rowVals (w : World) (b off N : Nat) : List Value := (List.range (N - 1)).map fun j => (w.cell? ⟨b, off + 1 + j, none⟩).getD undef
theorem rowVals_length (w : World) (b off N : Nat) : (rowVals w b off N).length = N - 1 := by simp [rowVals]
theorem rowVals_cells {w w' : World} {b off N : Nat} (h : ∀ j, j < N → ∃ v, w.cell? ⟨b, off + j, none⟩ = some v) (hk : ∀ j, j < N → w'.cell? ⟨b, off + j, none⟩ = w.cell? ⟨b, off + j, none⟩) :
    ∀ j u, (rowVals w b off N)[j]? = some u → w'.cell? ((⟨b, off + 1, none⟩ : Addr).add j) = some u := by
  intro j u hu
  have hj : j < N - 1 := by
    rcases Nat.lt_or_ge j (N - 1) with h1 | h1
    · exact h1
    · rw [List.getElem?_eq_none (by rw [rowVals_length]; exact h1)] at hu; cases hu
  obtain ⟨v, hv⟩ := h (1 + j) (by omega)
  have hv' := (hk (1 + j) (by omega)).trans hv
  have e : off + 1 + j = off + (1 + j) := by omega
  rw [add_spot, e, hv', ← hu]
  simp [rowVals, hj, e, hv]
theorem rowVals_one {w : World} {b off N : Nat} (h : ∀ j, j < N → ∃ a l c, w.cell? ⟨b, off + j, none⟩ = some (.slice a l c)) : ∀ u ∈ rowVals w b off N, u.oneCell' = true := by
  intro u hu
  obtain ⟨j, hj, rfl⟩ := List.mem_map.1 hu
  have hj := List.mem_range.1 hj
  obtain ⟨a, l, c, hv⟩ := h (1 + j) (by omega)
  have e : off + 1 + j = off + (1 + j) := by omega
  rw [e, hv]
  simp [Value.oneCell']
/-- The rows with the first one behind them. -/
theorem rows_turned {w w6 : World} {b off N c1 base c6 lx cx : Nat} {ax a6 : Option Addr} {rs : List (List Int)} (hJ : IsRows w (some ⟨b, off, none⟩) N c1 rs) (hN : 0 < N) (h0 : w.cell? ⟨b, off, none⟩ = some (.slice ax lx cx))
    (ho : w6.ownsRow base 25 1 (.slice a6 N c6) N (rowVals w b off N ++ [.slice ax lx cx])) (hb : Below w.heap.size w w6) : IsRows w6 a6 N c6 (turnL rs) := by
  obtain ⟨h1, _, h3, h4⟩ := hJ
  obtain ⟨b', off', e, hlt, hc⟩ := h4 hN
  cases e
  rcases ho.2 with ⟨e, e0⟩ | ⟨g, c, cur, e, hbb, hgb, hcc, _⟩
  · omega
  · injection e with e1 e2 e3
    subst e1; subst e3
    have hlen : (turnL rs).length = N := by rw [(turn_perm (by omega)).length_eq]; exact h1
    refine ⟨hlen, hcc, h3, fun hp => ⟨g, 0, rfl, (ho.lt g rfl).2, fun j hj => ?_⟩⟩
    rw [Nat.zero_add, ho.cellAt j (by omega)]
    by_cases hjl : j < N - 1
    · obtain ⟨aj, lj, cj, k1, k2⟩ := hc (1 + j) (by omega)
      refine ⟨aj, lj, cj, ?_, ?_⟩
      · rw [List.getElem?_append_left (by rw [rowVals_length]; exact hjl)]
        have e : off + 1 + j = off + (1 + j) := by omega
        simp [rowVals, hjl, e, k1]
      · have e : (turnL rs)[j]?.getD [] = rs[1 + j]?.getD [] := by
          unfold turnL
          rw [List.getElem?_append_left (by simp; omega), List.getElem?_drop]
        rw [e]
        exact k2.below hb
    · obtain rfl : j = N - 1 := by omega
      obtain ⟨aj, lj, cj, k1, k2⟩ := hc 0 (by omega)
      rw [Nat.add_zero] at k1
      rw [h0] at k1
      cases k1
      refine ⟨ax, lx, cx, ?_, ?_⟩
      · rw [List.getElem?_append_right (by rw [rowVals_length]; exact Nat.le_refl _), rowVals_length, Nat.sub_self]
        rfl
      · have e : (turnL rs)[N - 1]?.getD [] = rs[0]?.getD [] := by
          unfold turnL
          rw [List.getElem?_append_right (by simp; omega)]
          have : N - 1 - (rs.drop 1).length = 0 := by simp; omega
          rw [this]
          rfl
        rw [e]
        exact k2.below hb

set_option maxHeartbeats 2000000 in
/-- The law's walk: it returns true, and writes nothing that was there. -/
theorem walk (a0 : Option Addr) (len0 cap0 : Nat) (z0 : List Int) (w : World) (w0 : IsRow .u8 w a0 len0 cap0 z0) :
    Calls Try.prog 4 #[.slice a0 len0 cap0] w fun e w' => e = .returned (.bool true) ∧ Below w.heap.size w w' := by
  by_cases hl : len0 ≤ 1048576
  · have hcap := w0.cap
    have HB := Lib.hid w0.bytes; clear w0
    go_enter Try.func4, Try.ntmps4
    go_wp2_with fail
    refine (drawAgree_any a0 len0 cap0 _ _ HB.out hcap (by omega)).mono ?_
    rintro e w1 ⟨rs, a1, c1, rfl, hI, hz, hb⟩
    have I1 := Lib.hid hI; clear hI
    have B1 := Lib.hid hb; clear hb HB
    obtain ⟨pl, hpl⟩ : ∃ pl, agreeL rs = pl := ⟨_, rfl⟩
    obtain ⟨ok, hok⟩ : ∃ ok, agreeB rs = ok := ⟨_, rfl⟩
    have hp5 : pl.length ≤ 5 := by rw [← hpl]; exact agreeL_short rs
    have HP := Lib.hid hpl
    have HK := Lib.hid hok
    clear hpl hok
    have he : eqB pl pl = true := eqB_self pl
    have hne : (ok != ok) = false := by cases ok <;> rfl
    have heq : (ok == ok) = true := by cases ok <;> rfl
    go_wp2_with fail
    refine (implAgree_as _ _ _ rs pl ok _ I1.out HP.out HK.out).mono ?_
    rintro e w2 ⟨a2, c2, rfl, ho, hb⟩
    have I2 := Lib.hid (IsInts.of_owned ho (by omega)); clear ho
    have J2 := Lib.hid (I1.out.below hb)
    have B2 := Lib.hid (B1.out.trans (hb.mono B1.out.size)); clear hb I1 B1
    go_wp2_with fail
    refine (specAgree_as _ _ _ rs pl ok _ J2.out HP.out HK.out).mono ?_
    rintro e w3 ⟨a3, c3, rfl, ho, hb⟩
    have I3 := Lib.hid (IsInts.of_owned ho (by omega)); clear ho
    have I2 := Lib.hid (I2.out.below hb)
    have J3 := Lib.hid (J2.out.below hb)
    have B3 := Lib.hid (B2.out.trans (hb.mono B2.out.size)); clear hb J2 B2
    go_wp2_with fail
    refine (sameInts_any _ _ _ pl _ _ _ pl _ I2.out I3.out).mono ?_
    rintro e w4 ⟨rfl, hd⟩
    have I2 := Lib.hid (I2.out.dr hd)
    have I3 := Lib.hid (I3.out.dr hd)
    have J4 := Lib.hid (J3.out.dr hd)
    have B4 := Lib.hid (B3.out.trans (hd.below _)); clear hd B3 J3
    obtain ⟨N, hN⟩ : ∃ N, rs.length = N := ⟨_, rfl⟩
    rw [hN] at J4 hz ⊢
    have HN := Lib.hid hN
    clear hN
    rcases Nat.eq_zero_or_pos N with hn0 | hn0
    · subst hn0
      go_wp2_with fail
      refine (sameInts_any _ _ _ pl _ _ _ pl _ I2.out I3.out).mono ?_
      rintro e w5 ⟨rfl, hd⟩
      have B5 := Lib.hid (B4.out.trans (hd.below _)); clear hd B4
      go_wp2
      go_ret
      exact ⟨rfl, B5.out⟩
    · have hN0 : ((N : Int) == 0) = false := by simp; omega
      obtain ⟨is, hsi, hs0, hs1, hs2⟩ := info_parts slice_info
      obtain ⟨-, hNc, -, h4⟩ := J4.out
      obtain ⟨b, off, rfl, hb, hcell⟩ := h4 (by omega)
      obtain ⟨ax, lx, cx, hc0, hI0⟩ := hcell 0 (by omega)
      rw [Nat.add_zero] at hc0
      have hcells : ∀ j, j < N → ∃ a l c, w4.cell? ⟨b, off + j, none⟩ = some (.slice a l c) := fun j hj => by
        obtain ⟨aj, lj, cj, k1, _⟩ := hcell j hj
        exact ⟨aj, lj, cj, k1⟩
      have HCE := Lib.hid hcells
      have HC0 := Lib.hid hc0
      have HTP : Hid (agreeL (turnL rs) = pl) := by unfold Hid; rw [(agree_turn (by rw [HN.out]; exact hn0)).2, HP.out]
      have HTK : Hid (agreeB (turnL rs) = ok) := by unfold Hid; rw [(agree_turn (by rw [HN.out]; exact hn0)).1, HK.out]
      clear h4 hcell hI0 hcells
      have h1c : (1 : Int) ≤ (c1 : Int) := by omega
      have h1n : (1 : Int) ≤ (N : Int) := by omega
      have hnc : (N : Int) ≤ (c1 : Int) := by omega
      have B1a : Hid (Below w4.heap.size w4 (w4.alloc (.cells #[] 25)).drew) := ((Below.refl _ w4).alloc (Nat.le_refl _) _).drew
      have B2a : Hid (Below w4.heap.size w4 ((w4.alloc (.cells #[] 25)).alloc (.cells #[.slice ax lx cx] 25)).drew) := (((Below.refl _ w4).alloc (Nat.le_refl _) _).alloc (by simp) _).drew
      have B3a : Hid (Below w4.heap.size w4 ((w4.alloc (.cells #[.slice ax lx cx] 25)).alloc (.cells #[] 25)).drew) := (((Below.refl _ w4).alloc (Nat.le_refl _) _).alloc (by simp) _).drew
      have E1 : Hid ((w4.alloc (.cells #[] 25)).drew.ownsRow w4.heap.size 25 1 (.slice (some ⟨w4.heap.size, 0, none⟩) 0 0) 0 []) := (World.ownsRow_lit (base := w4.heap.size) (e := 25) (size := 1) w4 #[] 0 (Nat.le_refl _) (by unfold maxLen; omega) rfl).drew
      have E2 : Hid (((w4.alloc (.cells #[] 25)).alloc (.cells #[.slice ax lx cx] 25)).drew.ownsRow w4.heap.size 25 1 (.slice (some ⟨w4.heap.size, 0, none⟩) 0 0) 0 []) := ((World.ownsRow_lit (base := w4.heap.size) (e := 25) (size := 1) w4 #[] 0 (Nat.le_refl _) (by unfold maxLen; omega) rfl).alloc _).drew
      have E3 : Hid (((w4.alloc (.cells #[.slice ax lx cx] 25)).alloc (.cells #[] 25)).drew.ownsRow w4.heap.size 25 1 (.slice (some ⟨w4.heap.size + 1, 0, none⟩) 0 0) 0 []) := by
        have h := (World.ownsRow_lit (base := w4.heap.size) (e := 25) (size := 1) (w4.alloc (.cells #[.slice ax lx cx] 25)) #[] 0 (by simp) (by unfold maxLen; omega) rfl).drew
        rw [World.size_alloc] at h
        exact h
      have S1 : w4.heap.size ≤ (w4.alloc (.cells #[] 25)).drew.heap.size := by simp
      have S2 : w4.heap.size ≤ ((w4.alloc (.cells #[] 25)).alloc (.cells #[.slice ax lx cx] 25)).drew.heap.size := by simp; omega
      have S3 : w4.heap.size ≤ ((w4.alloc (.cells #[.slice ax lx cx] 25)).alloc (.cells #[] 25)).drew.heap.size := by simp; omega
      have Q2 : Hid (((w4.alloc (.cells #[] 25)).alloc (.cells #[.slice ax lx cx] 25)).drew.cell? ⟨w4.heap.size + 1, 0, none⟩ = some (.slice ax lx cx)) := by
        have h := (Boxed.new (w4.alloc (.cells #[] 25)) 25 (.slice ax lx cx)).cell
        rw [World.size_alloc] at h
        exact h
      have Q3 : Hid (((w4.alloc (.cells #[.slice ax lx cx] 25)).alloc (.cells #[] 25)).drew.cell? ⟨w4.heap.size, 0, none⟩ = some (.slice ax lx cx)) := ((Boxed.new w4 25 (.slice ax lx cx)).alloc _).cell
      by_cases hck : c1 = 1
      · subst hck
        obtain rfl : N = 1 := by omega
        have hv0 : rowVals w4 b off 1 = [] := rfl
        have LN : Hid (([] : List Value).length = 0 * 1) := rfl
        have ON : Hid (∀ u ∈ ([] : List Value), u.oneCell' = true) := fun u h => by cases h
        have PC1 : Hid (∀ j u, ([] : List Value)[j]? = some u → (w4.alloc (.cells #[] 25)).drew.cell? ((⟨b, off, none⟩ : Addr).add j) = some u) := fun j u h => by simp at h
        have PC2 : Hid (∀ j u, ([] : List Value)[j]? = some u → ((w4.alloc (.cells #[] 25)).alloc (.cells #[.slice ax lx cx] 25)).drew.cell? ((⟨b, off, none⟩ : Addr).add j) = some u) := fun j u h => by simp at h
        have PC3 : Hid (∀ j u, ([] : List Value)[j]? = some u → ((w4.alloc (.cells #[.slice ax lx cx] 25)).alloc (.cells #[] 25)).drew.cell? ((⟨b, off, none⟩ : Addr).add j) = some u) := fun j u h => by simp at h
        have M1 : 0 + 0 ≤ maxLen := by unfold maxLen; omega
        have N1 : (0 + 0) * 24 ≤ 140737488355328 := by omega
        have M2 : 0 + 1 ≤ maxLen := by unfold maxLen; omega
        have N2 : (0 + 1) * 24 ≤ 140737488355328 := by omega
        have HT6 : Hid (∀ (w6 : World) (a6 : Option Addr) (c6 : Nat), w6.ownsRow w4.heap.size 25 1 (.slice a6 (0 + 1) c6) (0 + 1) ([] ++ [.slice ax lx cx]) → Below w4.heap.size w4 w6 → IsRows w6 a6 (0 + 1) c6 (turnL rs)) := fun w6 a6 c6 h hb => rows_turned J4.out (by omega) HC0.out (by rw [hv0]; exact h) hb
        clear hv0
        go_wp2_with fail
        go_region_law (first
          | (refine step_append_own (by rfl) _ _ _ (by rfl) w4.heap.size 25 is (.slice none 0 0) 1 24 Try.underlying23 hsi hs0 hs1 hs2 rfl Nat.one_pos (.slice (some ⟨w4.heap.size, 0, none⟩) 0 0) 0 [] (by rfl) E1.out ⟨b, off, none⟩ (0) _ ([]) (by rfl) LN.out PC1.out ON.out M1 N1 S1 ?_; intro v5 w5 hown5 hgrow5 _; simp only [Nat.zero_add, List.nil_append] at hown5; obtain ⟨a5, c5, rfl⟩ := owns_slice hown5; have B5 := Lib.hid (B1a.out.grown hgrow5 S1 (fun j ej => by have := own_at ej; omega)); have hc5 : w5.cell? ⟨b, off, none⟩ = some (.slice ax lx cx) := (B5.out.cell (p := ⟨b, off, none⟩) hb).trans hc0; have O5a := Lib.hid hown5; clear hown5 hgrow5)
          | (refine step_append_own (by rfl) _ _ _ (by rfl) w4.heap.size 25 is (.slice none 0 0) 1 24 Try.underlying23 hsi hs0 hs1 hs2 rfl Nat.one_pos (.slice (some ⟨w4.heap.size, 0, none⟩) 0 0) 0 [] (by rfl) E2.out ⟨b, off, none⟩ (0) _ ([]) (by rfl) LN.out PC2.out ON.out M1 N1 S2 ?_; intro v5 w5 hown5 hgrow5 _; simp only [Nat.zero_add, List.nil_append] at hown5; obtain ⟨a5, c5, rfl⟩ := owns_slice hown5; have B5 := Lib.hid (B2a.out.grown hgrow5 S2 (fun j ej => by have := own_at ej; omega)); have hq2 := Lib.hid ((World.cell?_of_block (hgrow5.block (w4.heap.size + 1) (by simp) (by simp [Value.ownBlock]))).trans Q2.out); have O5b := Lib.hid hown5; clear hown5 hgrow5)
          | (refine step_append_own (by rfl) _ _ _ (by rfl) w4.heap.size 25 is (.slice none 0 0) 1 24 Try.underlying23 hsi hs0 hs1 hs2 rfl Nat.one_pos (.slice (some ⟨w4.heap.size + 1, 0, none⟩) 0 0) 0 [] (by rfl) E3.out ⟨b, off, none⟩ (0) _ ([]) (by rfl) LN.out PC3.out ON.out M1 N1 S3 ?_; intro v5 w5 hown5 hgrow5 _; simp only [Nat.zero_add, List.nil_append] at hown5; obtain ⟨a5, c5, rfl⟩ := owns_slice hown5; have B5 := Lib.hid (B3a.out.grown hgrow5 S3 (fun j ej => by have := own_at ej; omega)); have hq3 := Lib.hid ((World.cell?_of_block (hgrow5.block w4.heap.size (by simp; omega) (by simp [Value.ownBlock]))).trans Q3.out); have O5c := Lib.hid hown5; clear hown5 hgrow5)
          | (refine step_append_own (by rfl) _ _ _ (by rfl) w4.heap.size 25 is (.slice none 0 0) 1 24 Try.underlying23 hsi hs0 hs1 hs2 rfl Nat.one_pos (.slice a5 (0) c5) (0) ([]) (by rfl) (O5a.out.alloc _) ⟨w5.heap.size, 0, none⟩ 1 _ [.slice ax lx cx] (by rfl) (by rfl) (cell_one_new _ _ _) (one_slice _ _ _) M2 N2 (base_alloc B5.out.size _) ?_; intro v6 w6 hown6 hgrow6 _; obtain ⟨a6, c6, rfl⟩ := owns_slice hown6; have B6 := Lib.hid ((B5.out.alloc B5.out.size _).grown hgrow6 (base_alloc B5.out.size _) (fun j ej => (O5a.out.lt j ej).1)); have X6 := Lib.hid hown6; clear hown6 hgrow6)
          | (refine step_append_own (by rfl) _ _ _ (by rfl) w4.heap.size 25 is (.slice none 0 0) 1 24 Try.underlying23 hsi hs0 hs1 hs2 rfl Nat.one_pos (.slice a5 (0) c5) (0) ([]) (by rfl) O5b.out ⟨w4.heap.size + 1, 0, none⟩ 1 _ [.slice ax lx cx] (by rfl) (by rfl) (one_cell hq2.out) (one_slice _ _ _) M2 N2 B5.out.size ?_; intro v6 w6 hown6 hgrow6 _; obtain ⟨a6, c6, rfl⟩ := owns_slice hown6; have B6 := Lib.hid (B5.out.grown hgrow6 B5.out.size (fun j ej => (O5b.out.lt j ej).1)); have X6 := Lib.hid hown6; clear hown6 hgrow6)
          | (refine step_append_own (by rfl) _ _ _ (by rfl) w4.heap.size 25 is (.slice none 0 0) 1 24 Try.underlying23 hsi hs0 hs1 hs2 rfl Nat.one_pos (.slice a5 (0) c5) (0) ([]) (by rfl) O5c.out ⟨w4.heap.size, 0, none⟩ 1 _ [.slice ax lx cx] (by rfl) (by rfl) (one_cell hq3.out) (one_slice _ _ _) M2 N2 B5.out.size ?_; intro v6 w6 hown6 hgrow6 _; obtain ⟨a6, c6, rfl⟩ := owns_slice hown6; have B6 := Lib.hid (B5.out.grown hgrow6 B5.out.size (fun j ej => (O5c.out.lt j ej).1)); have X6 := Lib.hid hown6; clear hown6 hgrow6)
          | (go_simp; go_at_call 9; refine (implAgree_as _ _ _ (turnL rs) pl ok _ (HT6.out _ _ _ X6.out B6.out) HTP.out HTK.out).mono ?_; rintro e w7 ⟨a7, c7, rfl, ho7, hb7⟩; have I7 := Lib.hid (IsInts.of_owned ho7 (Nat.le_trans hp5 (by decide))); have Z7 := Lib.hid ((I2.out.below B6.out).below hb7); have B7 := Lib.hid (B4.out.trans ((B6.out.trans (hb7.mono B6.out.size)).mono B4.out.size)); clear ho7 hb7))
        all_goals
          go_wp2_with fail
          refine (sameInts_any _ _ _ pl _ _ _ pl _ I7.out Z7.out).mono ?_
          rintro e w8 ⟨rfl, hd⟩
          have B8 := Lib.hid (B7.out.trans (hd.below _)); clear hd B7
          go_wp2
          go_ret
          exact ⟨rfl, B8.out⟩
      · have LN : Hid ((rowVals w4 b off N).length = (N - 1) * 1) := by unfold Hid; rw [rowVals_length]; omega
        have ON := Lib.hid (rowVals_one HCE.out)
        have PC1 := Lib.hid (rowVals_cells (fun j hj => by obtain ⟨a, l, c, h⟩ := HCE.out j hj; exact ⟨_, h⟩) (fun j hj => B1a.out.cell (p := ⟨b, off + j, none⟩) hb))
        have PC2 := Lib.hid (rowVals_cells (fun j hj => by obtain ⟨a, l, c, h⟩ := HCE.out j hj; exact ⟨_, h⟩) (fun j hj => B2a.out.cell (p := ⟨b, off + j, none⟩) hb))
        have PC3 := Lib.hid (rowVals_cells (fun j hj => by obtain ⟨a, l, c, h⟩ := HCE.out j hj; exact ⟨_, h⟩) (fun j hj => B3a.out.cell (p := ⟨b, off + j, none⟩) hb))
        have M1 : 0 + (N - 1) ≤ maxLen := by unfold maxLen; omega
        have N1 : (0 + (N - 1)) * 24 ≤ 140737488355328 := by omega
        have M2 : (N - 1) + 1 ≤ maxLen := by unfold maxLen; omega
        have N2 : ((N - 1) + 1) * 24 ≤ 140737488355328 := by omega
        have HT6 : Hid (∀ (w6 : World) (a6 : Option Addr) (c6 : Nat), w6.ownsRow w4.heap.size 25 1 (.slice a6 (N - 1 + 1) c6) (N - 1 + 1) (rowVals w4 b off N ++ [.slice ax lx cx]) → Below w4.heap.size w4 w6 → IsRows w6 a6 (N - 1 + 1) c6 (turnL rs)) := fun w6 a6 c6 h hb => by
          have e : N - 1 + 1 = N := by omega
          rw [e] at h ⊢
          exact rows_turned J4.out hn0 HC0.out h hb
        go_wp2_with fail
        go_region_law (first
          | (refine step_append_own (by rfl) _ _ _ (by rfl) w4.heap.size 25 is (.slice none 0 0) 1 24 Try.underlying23 hsi hs0 hs1 hs2 rfl Nat.one_pos (.slice (some ⟨w4.heap.size, 0, none⟩) 0 0) 0 [] (by rfl) E1.out ⟨b, off + 1, none⟩ (N - 1) _ (rowVals w4 b off N) (by rfl) LN.out PC1.out ON.out M1 N1 S1 ?_; intro v5 w5 hown5 hgrow5 _; simp only [Nat.zero_add, List.nil_append] at hown5; obtain ⟨a5, c5, rfl⟩ := owns_slice hown5; have B5 := Lib.hid (B1a.out.grown hgrow5 S1 (fun j ej => by have := own_at ej; omega)); have hc5 : w5.cell? ⟨b, off, none⟩ = some (.slice ax lx cx) := (B5.out.cell (p := ⟨b, off, none⟩) hb).trans hc0; have O5a := Lib.hid hown5; clear hown5 hgrow5)
          | (refine step_append_own (by rfl) _ _ _ (by rfl) w4.heap.size 25 is (.slice none 0 0) 1 24 Try.underlying23 hsi hs0 hs1 hs2 rfl Nat.one_pos (.slice (some ⟨w4.heap.size, 0, none⟩) 0 0) 0 [] (by rfl) E2.out ⟨b, off + 1, none⟩ (N - 1) _ (rowVals w4 b off N) (by rfl) LN.out PC2.out ON.out M1 N1 S2 ?_; intro v5 w5 hown5 hgrow5 _; simp only [Nat.zero_add, List.nil_append] at hown5; obtain ⟨a5, c5, rfl⟩ := owns_slice hown5; have B5 := Lib.hid (B2a.out.grown hgrow5 S2 (fun j ej => by have := own_at ej; omega)); have hq2 := Lib.hid ((World.cell?_of_block (hgrow5.block (w4.heap.size + 1) (by simp) (by simp [Value.ownBlock]))).trans Q2.out); have O5b := Lib.hid hown5; clear hown5 hgrow5)
          | (refine step_append_own (by rfl) _ _ _ (by rfl) w4.heap.size 25 is (.slice none 0 0) 1 24 Try.underlying23 hsi hs0 hs1 hs2 rfl Nat.one_pos (.slice (some ⟨w4.heap.size + 1, 0, none⟩) 0 0) 0 [] (by rfl) E3.out ⟨b, off + 1, none⟩ (N - 1) _ (rowVals w4 b off N) (by rfl) LN.out PC3.out ON.out M1 N1 S3 ?_; intro v5 w5 hown5 hgrow5 _; simp only [Nat.zero_add, List.nil_append] at hown5; obtain ⟨a5, c5, rfl⟩ := owns_slice hown5; have B5 := Lib.hid (B3a.out.grown hgrow5 S3 (fun j ej => by have := own_at ej; omega)); have hq3 := Lib.hid ((World.cell?_of_block (hgrow5.block w4.heap.size (by simp; omega) (by simp [Value.ownBlock]))).trans Q3.out); have O5c := Lib.hid hown5; clear hown5 hgrow5)
          | (refine step_append_own (by rfl) _ _ _ (by rfl) w4.heap.size 25 is (.slice none 0 0) 1 24 Try.underlying23 hsi hs0 hs1 hs2 rfl Nat.one_pos (.slice a5 (N - 1) c5) (N - 1) (rowVals w4 b off N) (by rfl) (O5a.out.alloc _) ⟨w5.heap.size, 0, none⟩ 1 _ [.slice ax lx cx] (by rfl) (by rfl) (cell_one_new _ _ _) (one_slice _ _ _) M2 N2 (base_alloc B5.out.size _) ?_; intro v6 w6 hown6 hgrow6 _; obtain ⟨a6, c6, rfl⟩ := owns_slice hown6; have B6 := Lib.hid ((B5.out.alloc B5.out.size _).grown hgrow6 (base_alloc B5.out.size _) (fun j ej => (O5a.out.lt j ej).1)); have X6 := Lib.hid hown6; clear hown6 hgrow6)
          | (refine step_append_own (by rfl) _ _ _ (by rfl) w4.heap.size 25 is (.slice none 0 0) 1 24 Try.underlying23 hsi hs0 hs1 hs2 rfl Nat.one_pos (.slice a5 (N - 1) c5) (N - 1) (rowVals w4 b off N) (by rfl) O5b.out ⟨w4.heap.size + 1, 0, none⟩ 1 _ [.slice ax lx cx] (by rfl) (by rfl) (one_cell hq2.out) (one_slice _ _ _) M2 N2 B5.out.size ?_; intro v6 w6 hown6 hgrow6 _; obtain ⟨a6, c6, rfl⟩ := owns_slice hown6; have B6 := Lib.hid (B5.out.grown hgrow6 B5.out.size (fun j ej => (O5b.out.lt j ej).1)); have X6 := Lib.hid hown6; clear hown6 hgrow6)
          | (refine step_append_own (by rfl) _ _ _ (by rfl) w4.heap.size 25 is (.slice none 0 0) 1 24 Try.underlying23 hsi hs0 hs1 hs2 rfl Nat.one_pos (.slice a5 (N - 1) c5) (N - 1) (rowVals w4 b off N) (by rfl) O5c.out ⟨w4.heap.size, 0, none⟩ 1 _ [.slice ax lx cx] (by rfl) (by rfl) (one_cell hq3.out) (one_slice _ _ _) M2 N2 B5.out.size ?_; intro v6 w6 hown6 hgrow6 _; obtain ⟨a6, c6, rfl⟩ := owns_slice hown6; have B6 := Lib.hid (B5.out.grown hgrow6 B5.out.size (fun j ej => (O5c.out.lt j ej).1)); have X6 := Lib.hid hown6; clear hown6 hgrow6)
          | (go_simp; go_at_call 9; refine (implAgree_as _ _ _ (turnL rs) pl ok _ (HT6.out _ _ _ X6.out B6.out) HTP.out HTK.out).mono ?_; rintro e w7 ⟨a7, c7, rfl, ho7, hb7⟩; have I7 := Lib.hid (IsInts.of_owned ho7 (Nat.le_trans hp5 (by decide))); have Z7 := Lib.hid ((I2.out.below B6.out).below hb7); have B7 := Lib.hid (B4.out.trans ((B6.out.trans (hb7.mono B6.out.size)).mono B4.out.size)); clear ho7 hb7))
        all_goals
          go_wp2_with fail
          refine (sameInts_any _ _ _ pl _ _ _ pl _ I7.out Z7.out).mono ?_
          rintro e w8 ⟨rfl, hd⟩
          have B8 := Lib.hid (B7.out.trans (hd.below _)); clear hd B7
          go_wp2
          go_ret
          exact ⟨rfl, B8.out⟩
  · have hl' : (1048576 : Int) < (len0 : Int) := by omega
    clear w0
    go_enter Try.func4, Try.ntmps4
    go_wp2
    go_ret
    exact ⟨rfl, Below.refl _ _⟩

end Go.Proofs.Ytpgnneaaemfkoaa.fnMarksAgreeTurned
