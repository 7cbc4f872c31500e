/-
  impl.BallotFirst: for every ballot of at most 1048600 ints and every list of at most 1048600 bools; neither writes into memory that was there.
  Whether piles fit n candidates: spec.l3Fits, for every list of piles (at most 1048600, with texts of at most 1048600 bytes) and every number; it does not write into memory that was there.
  A region that draws its order, whose last operations are one forced order and whose others only read: the others by the cheap steps of a quiet walk, in one world. No function of the seat.
-/
import Derived.Test.YtgkakgibgfehaaaSh5
import Derived.Test.YtgkakgibgfehaaaSh8
import Derived.Test.YtgkakgibgfehaaaSh3
import Derived.Test.YtgkakgibgfehaaaSh6
import Derived.Test.YtgkakgibgfehaaaSh7
import Derived.BigQuiet
import Derived.StillTailTactics
namespace Go.Proofs.Ytgkakgibgfehaaa
open Go.RowKit Go.Shelf

attribute [local go_sem] Oper.semAt_some

set_option maxRecDepth 100000 in
set_option maxHeartbeats 2000000 in
/-- **impl.BallotFirst**, at a valid ballot. -/
theorem implFirst_yes (a : Option Addr) (len cap : Nat) (zs : List Int) (a' : Option Addr) (len' cap' : Nat) (L : List Bool) (w : World) (h : IsInts w a len cap zs) (h' : IsBools w a' len' cap' L) (hv : validB zs (len' : Int) = true) :
    CallsIn Fence.wide 8 Tq.prog 119 #[.slice a len cap, .slice a' len' cap'] w fun e w' => e = .returned (.int .i64 (firstL zs L)) ∧ Below w.heap.size w w' := by
  have hro : Fence.wide.round = none := rfl
  have HR := Lib.hid (validB_mem hv).2.2
  have hm := h'.2.2.1
  have H := Lib.hid h; clear h
  have H' := Lib.hid h'; clear h'
  refine callsIn_of_wp_marks Tq.func119 rfl trivial ?_ hro
  simp only [Tq.ntmps119, List.size_toArray, List.length_cons, List.length_nil, Nat.reduceAdd, Nat.reduceSub, Array.replicate_succ, Array.replicate_zero, List.push_toArray, List.append_toArray, List.nil_append, List.cons_append]
  gi_wp2
  refine ⟨trivial, ?_⟩
  gi_at_call 82
  refine (implValid_wide _ _ _ _ zs _ _ (H.out.below (((Below.refl _ w).alloc (Nat.le_refl _) _).alloc (by simp) _))).mono ?_
  rintro e w1 ⟨rfl, hb1⟩
  have hB1 : Below w.heap.size w w1 := (((Below.refl _ w).alloc (Nat.le_refl _) _).alloc (by simp) _).trans (hb1.mono (by simp; omega))
  have hsz : w.heap.size + 1 + 1 ≤ w1.heap.size := by have := hb1.size; simpa using this
  gi_wp2
  refine ⟨trivial, ?_⟩
  gi_at_call 103
  refine (candidates_in Fence.wide _ (by omega) trivial trivial hro _ _ _ _).mono ?_
  rintro e w' ⟨rfl, rfl⟩
  gi_wp2
  have bL0 := (Boxed.new w 24 (.slice a' len' cap')).alloc (.cells #[.int .i64 0] 3)
  have bR0 := Boxed.new (w.alloc (.cells #[.slice a' len' cap'] 24)) 3 (.int .i64 0)
  simp only [World.size_alloc] at bL0 bR0
  have bL : Boxed w1 w.heap.size 24 (.slice a' len' cap') := (hb1.block _ (by simp; omega)).trans bL0
  have bR : Boxed w1 (w.heap.size + 1) 3 (.int .i64 0) := (hb1.block _ (by simp)).trans bR0
  clear bL0 bR0
  have bV := Boxed.new w1 27 (.slice a len cap)
  have hB2 : Below w.heap.size w (w1.alloc (.cells #[.slice a len cap] 27)) := hB1.alloc (by omega) _
  refine wpIn_rangeFunc_ownG hro (by omega) (gf := 140) (lb := #[.pointer (some ⟨w1.heap.size, 0, none⟩)]) rfl trivial (enters_of Tq.func140 (by kernel_rfl) rfl)
    (values_stops_g (fun z : { z : Int // 0 ≤ z ∧ z < (len' : Int) } => z.1) (zs.pmap Subtype.mk HR.out) Fence.wide 7 trivial hro (by omega) w1.heap.size a len cap zs (by simp [List.map_pmap]) w _ (by simp) hB2 bV.cell H.out) belowK_t (belowK_b (by simp; omega)) (Below.refl _ _) (fun _ => rfl)
    (fun pre W => (W.cell? ⟨w.heap.size, 0, none⟩ = some (.slice a' len' cap') ∧ (W.cell? ⟨w.heap.size + 1, 0, none⟩ = some (.int .i64 0) ∧ W.frozen? ⟨w.heap.size + 1, 0, none⟩ = false) ∧ ∀ z ∈ pre.map Subtype.val, L[z.toNat]?.getD false = true) ∧ Below w.heap.size w W)
    (fun c pre W => (c = .ret ∧ ∃ r, (∀ rest, firstL (pre.map Subtype.val ++ rest) L = r) ∧ W.cell? ⟨w.heap.size + 1, 0, none⟩ = some (.int .i64 r)) ∧ Below w.heap.size w W)
    (OwnFrom.and (Own.from (fun s A B row hs hg hr => ⟨cell_kept hs.1 hg hr, ⟨cell_kept hs.2.1.1 hg hr, (frozen_kept hs.2.1.1 hg hr).trans hs.2.1.2⟩, hs.2.2⟩) _) (ownFrom_below (Nat.le_refl _) (by simp; omega)))
    (fun c => OwnFrom.and (Own.from (fun s A B row hs hg hr => by obtain ⟨e1, r, e2, e3⟩ := hs; exact ⟨e1, r, e2, cell_kept e3 hg hr⟩) _) (ownFrom_below (Nat.le_refl _) (by simp; omega)))
    ⟨⟨(bL.alloc _).cell, ⟨(bR.alloc _).cell, (bR.alloc _).frozen⟩, by simp⟩, hB2⟩
    (fun z => { tmps := #[.slice a len cap, .slice a' len' cap', undef, .pointer (some ⟨w.heap.size, 0, none⟩), .pointer (some ⟨w.heap.size + 1, 0, none⟩), .int .i64 z.1,
      .slice a len cap, .slice a' len' cap', .int .i64 (len' : Int), .bool true, .bool false, .slice a len cap, .func (.func 140) #[] #[.pointer (some ⟨w1.heap.size, 0, none⟩)], .int .i64 z.1,
      undef, undef, undef, undef, undef, undef], defers := [] }) ?assign ?body ?done ?stop
  case assign =>
    intro l z W K hK
    gi_wp2
    exact hK
  case body =>
    rintro l pre ⟨z, hz0, hz1⟩ W ⟨⟨hcl, ⟨hcr, hfr⟩, hfree⟩, hB⟩ hlt
    have HF := Lib.hid hfree; clear hfree
    obtain ⟨c, rfl⟩ := Int.eq_ofNat_of_zero_le hz0
    have hc : c < len' := by omega
    obtain ⟨lb, lo, rfl, hlb, hlc⟩ := (H'.out.below hB).2.2.2 (by omega)
    have hcell := hlc c hc
    clear hlc
    cases hL : L[c]?.getD false
    · have HL := Lib.hid hL
      gi_wp2
      refine ⟨(KeepsOthers.setCell _ _ _).from _, ⟨rfl, (c : Int), fun rest => ?_, World.cell?_setCell_same' _ _ _ (by rw [hcr]; rfl)⟩, hB.setCell (p := ⟨w.heap.size + 1, 0, none⟩) (by simp) _⟩
      rw [List.map_append, List.append_assoc, firstL_app HF.out]
      show (if L[(c : Int).toNat]?.getD false = true then _ else _) = _
      rw [if_neg (by rw [Int.toNat_natCast, HL.out]; simp)]
    · have HL := Lib.hid hL
      gi_wp2
      refine ⟨KeepsFrom.refl _ _, Below.refl _ _, ⟨hcl, ⟨hcr, hfr⟩, fun u hu => ?_⟩, hB⟩
      rw [List.map_append] at hu
      refine (List.mem_append.1 hu).elim (HF.out u) (fun e => ?_)
      simp at e
      subst e
      rw [Int.toNat_natCast]; exact HL.out
  case done =>
    rintro D ys W hD rfl ⟨⟨hcl, ⟨hcr, hfr⟩, hfree⟩, hB⟩ hK
    have HF := Lib.hid hfree; clear hfree
    gi_wp2
    have hK' := (KeepsOthers.setCell W ⟨w.heap.size + 1, 0, none⟩ (.int .i64 (-1))).same D _ hK rfl
    refine ⟨by simp, .inl ⟨_, _, rfl, run_takeDeferred hK', ?_⟩⟩
    have hc5 := cell_kept (World.cell?_setCell_same' W ⟨w.heap.size + 1, 0, none⟩ (.int .i64 (-1)) (by rw [hcr]; rfl)) (grownBy_putObj' _ D (.deferred none)) (fun r e => by cases e; exact ⟨_, hK', rfl⟩)
    refine ⟨.int .i64 (-1), ?_, ret_int ?_, (hB.setCell (p := ⟨w.heap.size + 1, 0, none⟩) (by simp) _).trans (belowK_b (w := w) (Nat.le_refl _) _ D _ _ (by simp at hD; omega) hK' rfl rfl)⟩
    · simp [results, Tq.f119, go_sem, hc5]
    · have := firstL_app HF.out []
      rw [List.append_nil, List.map_pmap] at this
      simp at this
      rw [this]; rfl
  case stop =>
    rintro D c pre W hD ⟨t, ht⟩ ⟨⟨rfl, r, hr, hcr⟩, hB⟩ hK
    have HQ : Hid (firstL zs L = r) := by
      have e : pre.map Subtype.val ++ t.map Subtype.val = zs := by rw [← List.map_append, ht]; simp [List.map_pmap]
      unfold Hid; rw [← e]; exact hr _
    clear hr ht
    gi_wp2
    refine ⟨by simp, .inl ⟨_, _, rfl, run_takeDeferred hK, ?_⟩⟩
    have hc5 := cell_kept hcr (grownBy_putObj' _ D (.deferred none)) (fun r e => by cases e; exact ⟨_, hK, rfl⟩)
    refine ⟨.int .i64 r, ?_, ret_int HQ.out.symm, hB.trans (belowK_b (w := w) (Nat.le_refl _) W D _ _ (by simp at hD; omega) hK rfl rfl)⟩
    simp [results, Tq.f119, go_sem, hc5]

set_option maxRecDepth 100000 in
set_option maxHeartbeats 1000000 in
/-- **impl.BallotFirst** answers as the model does. -/
theorem implFirst_any (a : Option Addr) (len cap : Nat) (zs : List Int) (a' : Option Addr) (len' cap' : Nat) (L : List Bool) (w : World) (h : IsInts w a len cap zs) (h' : IsBools w a' len' cap' L) :
    Calls Tq.prog 119 #[.slice a len cap, .slice a' len' cap'] w fun e w' => e = .returned (.int .i64 (firstB zs L)) ∧ Below w.heap.size w w' := by
  refine (callsIn_wide (n := 8)).1 ?_
  have hE : Hid (firstB zs L = if validB zs (len' : Int) = true then firstL zs L else -1) := by unfold Hid firstB; rw [h'.1]
  cases hv : validB zs (len' : Int)
  · have e : Hid (firstB zs L = -1) := by unfold Hid; rw [hE.out, hv]; rfl
    have hm := h'.2.2.1
    have H := Lib.hid h; clear h h' hE
    refine callsIn_of_wp Tq.func119 rfl trivial ?_ rfl
    simp only [Tq.ntmps119, List.size_toArray, List.length_cons, List.length_nil, Nat.reduceAdd, Nat.reduceSub, Array.replicate_succ, Array.replicate_zero, List.push_toArray, List.append_toArray, List.nil_append, List.cons_append]
    gi_wp2
    refine ⟨trivial, ?_⟩
    gi_at_call 82
    refine (implValid_wide _ _ _ _ zs _ _ (H.out.below (((Below.refl _ w).alloc (Nat.le_refl _) _).alloc (by simp) _))).mono ?_
    rintro e1 w1 ⟨rfl, hb1⟩
    have hB1 : Below w.heap.size w w1 := (((Below.refl _ w).alloc (Nat.le_refl _) _).alloc (by simp) _).trans (hb1.mono (by simp; omega))
    have bR0 := Boxed.new (w.alloc (.cells #[.slice a' len' cap'] 24)) 3 (.int .i64 0)
    simp only [World.size_alloc] at bR0
    have bR : Boxed w1 (w.heap.size + 1) 3 (.int .i64 0) := (hb1.block _ (by simp)).trans bR0
    have hcr := bR.cell
    have hfr := bR.frozen
    clear bR0 bR
    gi_wp2
    have hc5 := World.cell?_setCell_same' w1 ⟨w.heap.size + 1, 0, none⟩ (.int .i64 (-1)) (by rw [hcr]; rfl)
    exact bodyPost_ret (v := .int .i64 (-1)) (by simp [results, Tq.f119, go_sem, hc5]) rfl ⟨ret_int e.out.symm, hB1.setCell (p := ⟨w.heap.size + 1, 0, none⟩) (by simp) _⟩
  · rw [hE.out, hv]
    exact implFirst_yes a len cap zs a' len' cap' L w h h' hv

end Go.Proofs.Ytgkakgibgfehaaa

namespace Go.Proofs.Ytgkakgibgfehaaa
open Go.RowKit

attribute [local go_sem] Oper.semAt_some

theorem pile_mem {ps : List Pl} {k : Nat} (h : k < ps.length) : (tAt ps k, mAt ps k) ∈ ps := by
  have : (tAt ps k, mAt ps k) = ps[k] := by simp [tAt, mAt, h]
  rw [this]; exact List.getElem_mem h
theorem fits_no {ps : List Pl} {n : Int} {k : Nat} (hk : k < ps.length) (h : validB (parseL (tAt ps k)) n = false) : fitsB ps n = false := by
  cases hf : fitsB ps n
  · rfl
  · exfalso
    simp only [fitsB, Bool.and_eq_true, List.all_eq_true] at hf
    have hm := pile_mem hk
    have h1 := hf.2.2 _ hm
    have h2 := (pilesB_pos hf.1).2.2.2.1 _ hm
    rw [parseL_ok h2, h1] at h
    cases h
theorem fits_all {ps : List Pl} {n : Int} (h : ∀ i, i < ps.length → validB (parseL (tAt ps i)) n = true) : fitsB ps n = (pilesB ps && inB n 1 5) := by
  unfold fitsB
  cases hp : pilesB ps
  · rfl
  · have e : (ps.all fun p => validB (nums p.1) n) = true := by
      rw [List.all_eq_true]
      intro p hm
      obtain ⟨i, hi, rfl⟩ := List.mem_iff_getElem.1 hm
      have h1 := h i hi
      have h2 := (pilesB_pos hp).2.2.2.1 _ hm
      have e : tAt ps i = (ps[i]).1 := by simp [tAt, hi]
      rw [e, parseL_ok h2] at h1
      exact h1
    rw [e, Bool.and_true]
theorem fits_parts {ps : List Pl} {n : Int} (h : fitsB ps n = true) : pilesB ps = true ∧ 1 ≤ n ∧ n ≤ 5 ∧ ∀ i, i < ps.length → validB (parseL (tAt ps i)) n = true := by
  simp only [fitsB, Bool.and_eq_true, List.all_eq_true] at h
  refine ⟨h.1, ?_, ?_, fun i hi => ?_⟩
  · have := h.2.1; simp [inB] at this; omega
  · have := h.2.1; simp [inB] at this; omega
  · have hm := pile_mem hi
    have h1 := h.2.2 _ hm
    have h2 := (pilesB_pos h.1).2.2.2.1 _ hm
    rw [parseL_ok h2]; exact h1
theorem IsPiles.at_text {w : World} {a : Option Addr} {len cap : Nat} {ps : List Pl} (h : IsPiles w a len cap ps) {k : Nat} (hk : k < len) : ∃ b off, a = some ⟨b, off, none⟩ ∧ b < w.heap.size ∧ w.cell? ⟨b, off + k * 2, none⟩ = some (.string (tAt ps k)) ∧ w.cell? ⟨b, off + k * 2 + 1, none⟩ = some (.int .i64 (mAt ps k)) := by
  obtain ⟨h1, h2, h3, h4⟩ := h
  obtain ⟨b, off, e, hb, hc⟩ := h4 (by omega)
  exact ⟨b, off, e, hb, (hc k hk).1, (hc k hk).2⟩

set_option maxRecDepth 100000 in
set_option maxHeartbeats 2000000 in
/-- **spec.l3Fits**. -/
theorem specFits_as (a : Option Addr) (len cap : Nat) (ps : List Pl) (n : Int) (v : Bool) (w : World) (h : IsPiles w a len cap ps) (hs : Small ps) (hv : fitsB ps n = v) :
    Calls Tq.prog 53 #[.slice a len cap, .int .i64 n] w fun e w' => e = .returned (.bool v) ∧ Below w.heap.size w w' := by
  have HI := Lib.hid h
  have HS := Lib.hid hs
  have HV := Lib.hid hv
  have H1 := Lib.hid h.1
  have hlm := h.2.2.1
  clear h hs hv
  obtain ⟨G, hG⟩ : ∃ G, w.heap.size = G := ⟨_, rfl⟩
  go_enter Tq.func53, Tq.ntmps53
  go_wp2
  go_loopw [5, 6, 7] (fun i _ _ wr => ∃ k : Nat, k ≤ len ∧ i = .int .i64 k ∧ Hid (∀ j, j < k → validB (parseL (tAt ps j)) n = true) ∧ Below G w wr) (fun i _ _ _ => len - (intOf i).toNat)
  case atStart => exact ⟨0, Nat.zero_le _, rfl, fun j hj => by omega, Below.refl _ _⟩
  case round =>
    obtain ⟨k, hk, rfl, hA, hB⟩ := hrel
    have hBw : Below w.heap.size w wr := hG.symm ▸ hB
    by_cases hlt : k < len
    · obtain ⟨b, off, rfl, hb, c0, -⟩ := (HI.out.below hBw).at_text hlt
      obtain ⟨t, ht⟩ : ∃ t, tAt ps k = t := ⟨_, rfl⟩
      obtain ⟨pl, hpl⟩ : ∃ pl, parseL t = pl := ⟨_, rfl⟩
      obtain ⟨u, hu⟩ : ∃ u, validB pl n = u := ⟨_, rfl⟩
      have hst : t.size ≤ 1048600 := by rw [← ht]; exact HS.out k
      have hl5 : pl.length ≤ 5 := by rw [← hpl]; exact parseL_short t
      rw [ht] at c0
      have HT := Lib.hid ht
      have HPL := Lib.hid hpl
      have HU := Lib.hid hu
      clear ht hpl hu hBw
      go_wp2_with fail
      refine (specParse_as t pl _ _ hst HPL.out rfl).mono ?_
      rintro e w3 ⟨a3, c3, rfl, ho3, hb3⟩
      have I3 := Lib.hid (IsInts.of_owned ho3 (by omega))
      have B3 := Lib.hid (hB.trans (hb3.mono (by have := hB.size; rw [hG] at this; exact this)))
      clear ho3 hb3
      go_wp2_with fail
      refine (specValid_any _ _ _ pl n _ I3.out).mono ?_
      rintro e w4 ⟨he, hd⟩
      rw [HU.out] at he
      subst he
      have B4 := Lib.hid (B3.out.trans (hd.below _))
      clear hd
      have HN : Hid (validB (parseL (tAt ps k)) n = u) := by unfold Hid; rw [HT.out, HPL.out, HU.out]
      cases u
      · go_wp2
        go_ret
        exact ⟨ret_bool (by rw [← HV.out]; exact (fits_no (by rw [H1.out]; exact hlt) HN.out).symm), hG.symm ▸ B4.out⟩
      · go_wp2
        go_roundw
        case rel =>
          refine ⟨k + 1, by omega, by go_num, fun j hj => ?_, B4.out⟩
          by_cases e : j = k
          · subst e; exact HN.out
          · exact hA.out j (by omega)
        case measure => simp [intOf]; omega
    · obtain rfl : k = len := by omega
      have HE : Hid (fitsB ps n = (pilesB ps && inB n 1 5)) := fits_all (fun i hi => hA.out i (by rw [← H1.out]; exact hi))
      cases hp : pilesB ps
      · have HP := Lib.hid hp; clear hp
        go_wp2_with fail
        refine (specPiles_as _ _ _ ps false _ (HI.out.below hBw) HS.out HP.out).mono ?_
        rintro e w3 ⟨rfl, hb3⟩
        have B3 := Lib.hid (hB.trans (hb3.mono (by have := hB.size; rw [hG] at this; exact this)))
        clear hb3
        go_wp2
        go_ret
        exact ⟨ret_bool (by rw [← HV.out, HE.out, HP.out]; rfl), hG.symm ▸ B3.out⟩
      · have HP := Lib.hid hp; clear hp
        go_wp2_with fail
        refine (specPiles_as _ _ _ ps true _ (HI.out.below hBw) HS.out HP.out).mono ?_
        rintro e w3 ⟨rfl, hb3⟩
        have B3 := Lib.hid (hB.trans (hb3.mono (by have := hB.size; rw [hG] at this; exact this)))
        clear hb3
        go_wp2_with fail
        refine (l6In_any _ _ _ _).mono ?_
        rintro e w4 ⟨rfl, rfl⟩
        go_wp2
        go_ret
        exact ⟨ret_bool (by rw [← HV.out, HE.out, HP.out]; rfl), hG.symm ▸ B3.out⟩

end Go.Proofs.Ytgkakgibgfehaaa

namespace Go.Proofs.Ytgkakgibgfehaaa
open Go.RowKit

theorem still_of_quiet {P : Program} {ops : Array Oper} {w0 : World} {Q : Act → Prop} : ∀ (l : List Oper) (a : Act), wpQuiet P ops (fun w' => w' = w0) Q l a → wpStill P ops w0 Q l a
  | [], _, h => h
  | o :: rest, a, h => by
    have ih := still_of_quiet (P := P) (ops := ops) (w0 := w0) (Q := Q) rest
    simp only [wpQuiet] at h
    simp only [wpStill]
    by_cases hw : Region.wanted o (yielded ops a.tmps) = true
    · rw [if_pos hw] at h ⊢
      obtain ⟨v, h1, h2⟩ := h
      have h3 := h1 w0 rfl
      unfold Oper.quietAt at h3
      unfold Oper.still
      generalize (execOp a.eval o).run P w0 = r at h3
      cases r with
      | ok n w' =>
        cases n <;> simp only [Oper.quietUpon] at h3 <;> simp only [Oper.stillUpon]
        case value u =>
          obtain ⟨e1, e2⟩ := h3
          subst e2
          exact ⟨e1, ih _ h2⟩
        case skip =>
          obtain ⟨e1, e2⟩ := h3
          subst e2
          exact ⟨e1, ih _ h2⟩
        case enter f args =>
          obtain ⟨e1, e2⟩ := h3
          exact ⟨e1, v, e2, ih _ h2⟩
      | halt x w' => simp only [Oper.quietUpon] at h3
    · rw [if_neg hw] at h ⊢
      exact ih _ h

/-- **The others by a quiet walk, then the tail.** -/
theorem region_quiet_tail {P : Program} {id : Nat} {Q : Exit → Act → World → Prop} {a : Act} {w : World} {l : List Oper} (n : Nat) (hm : P.follows .mixedOrders = true) (hB : Region.lexTailB .any l.toArray n = true)
    (h : wpQuiet P l.toArray (fun w' => w' = w.drew) (fun a' => wpList P l.toArray Q (l.drop n) a' w.drew) (l.take n) a) : (Code.region id l.toArray true).wp P Q a w :=
  wp_region_still_tail n hm hB (still_of_quiet _ _ h)

end Go.Proofs.Ytgkakgibgfehaaa
