/-
  spec.BallotFirst and impl.BallotFirst answer alike: for every ballot of at most 1048600 ints and every list of at most 1048600 bools; neither writes into memory that was there.
-/
import Derived.Test.YtppnngccjlnejaaValid
import Derived.Test.YtppnngccjlnejaaOpen
namespace Go.Proofs.Ytppnngccjlnejaa
open Go.RowKit Go.Shelf

attribute [local go_sem] Oper.semAt_some

theorem goodTo_mem {zs : List Int} {m : Int} (h : goodTo zs m zs.length = true) : ∀ z ∈ zs, 0 ≤ z ∧ z ≤ m := by
  intro z hz
  obtain ⟨i, hi, rfl⟩ := List.getElem_of_mem hz
  simp only [goodTo, List.all_eq_true, List.mem_range] at h
  have := h i hi
  simp [inB, hi] at this
  exact this.1
theorem validB_mem {zs : List Int} {n : Int} (h : validB zs n = true) : 1 ≤ n ∧ n ≤ 5 ∧ ∀ z ∈ zs, 0 ≤ z ∧ z < n := by
  by_cases h1 : 1 ≤ n
  · by_cases h5 : n ≤ 5
    · rw [validB_in h1 h5] at h
      exact ⟨h1, h5, fun z hz => by have := goodTo_mem h z hz; omega⟩
    · rw [validB_out (.inr (by omega))] at h; cases h
  · rw [validB_out (.inl (by omega))] at h; cases h

/-- The first of zs who has not left, or -1. -/
def firstL : List Int → List Bool → Int
  | [], _ => -1
  | z :: t, L => if L[z.toNat]?.getD false = true then firstL t L else z
theorem firstL_app {pre : List Int} {L : List Bool} (h : ∀ z ∈ pre, L[z.toNat]?.getD false = true) (rest : List Int) : firstL (pre ++ rest) L = firstL rest L := by
  induction pre with
  | nil => rfl
  | cons z t ih =>
    rw [List.cons_append, firstL, if_pos (h z (by simp))]
    exact ih (fun u hu => h u (by simp [hu]))
def firstB (zs : List Int) (L : List Bool) : Int := if validB zs (L.length : Int) = true then firstL zs L else -1

set_option maxHeartbeats 1000000 in
theorem l1First_any (a : Option Addr) (len cap : Nat) (zs : List Int) (a' : Option Addr) (len' cap' : Nat) (L : List Bool) (w : World) (h : IsInts w a len cap zs) (h' : IsBools w a' len' cap' L) (hr : ∀ z ∈ zs, 0 ≤ z ∧ z < (len' : Int)) :
    Calls Try.prog 49 #[.slice a len cap, .slice a' len' cap'] w fun e w' => e = .returned (.int .i64 (firstL zs L)) ∧ w = w' := by
  obtain ⟨h1, h2, h3, h4⟩ := h
  obtain ⟨g1, g2, g3, g4⟩ := h'
  have H1 := Lib.hid h1; clear h1
  have H4 := Lib.hid h4; clear h4
  have G4 := Lib.hid g4; clear g4 g1
  have HR := Lib.hid hr; clear hr
  go_enter Try.func49, Try.ntmps49
  go_wp2
  go_loop [5] (fun i => ∃ k : Nat, k ≤ len ∧ i = .int .i64 k ∧ Hid (firstL zs L = firstL (zs.drop k) L)) (fun i => len - (intOf i).toNat)
  case atStart => exact ⟨0, Nat.zero_le _, rfl, by simp [Hid]⟩
  case round =>
    obtain ⟨k, hk, rfl, hp⟩ := hrel
    by_cases hlt : k < len
    · obtain ⟨b, o, rfl, hb, hc⟩ := H4.out (by omega)
      have hz := hc k hlt
      have hkz : k < zs.length := by rw [H1.out]; exact hlt
      have hr := HR.out (zs[k]?.getD 0) (by simp [hkz])
      obtain ⟨c, hcz⟩ := Int.eq_ofNat_of_zero_le hr.1
      obtain ⟨lb, lo, rfl, hlb, hlc⟩ := G4.out (by omega)
      have hcl : c < len' := by omega
      have hcell := hlc c hcl
      rw [hcz] at hz
      have HD := drop_cons zs k hkz
      rw [hcz] at HD
      have HD := Lib.hid HD
      clear hc hlc hr hcz hkz
      cases hL : L[c]?.getD false
      · have HL := Lib.hid hL
        go_wp2
        go_ret
        refine ⟨ret_int ?_, rfl⟩
        rw [hp.out, HD.out, firstL, if_neg (by rw [Int.toNat_natCast, HL.out]; simp)]
      · have HL := Lib.hid hL
        go_wp2
        go_round
        case rel =>
          refine ⟨k + 1, by omega, by go_num, ?_⟩
          unfold Hid
          rw [hp.out, HD.out, firstL, if_pos (by rw [Int.toNat_natCast]; exact HL.out)]
        case measure => simp [intOf]; omega
    · obtain rfl : k = len := by omega
      go_wp2
      go_ret
      refine ⟨ret_int ?_, rfl⟩
      rw [hp.out, List.drop_of_length_le (by rw [H1.out]; omega)]; rfl

set_option maxHeartbeats 1000000 in
/-- **spec.BallotFirst**. -/
theorem specFirst_any (a : Option Addr) (len cap : Nat) (zs : List Int) (a' : Option Addr) (len' cap' : Nat) (L : List Bool) (w : World) (h : IsInts w a len cap zs) (h' : IsBools w a' len' cap' L) :
    Calls Try.prog 27 #[.slice a len cap, .slice a' len' cap'] w fun e w' => e = .returned (.int .i64 (firstB zs L)) ∧ Dr w w' := by
  have hE : Hid (firstB zs L = if validB zs (len' : Int) = true then firstL zs L else -1) := by unfold Hid firstB; rw [h'.1]
  have hm := h'.2.2.1
  have H := Lib.hid h; clear h
  have H' := Lib.hid h'; clear h'
  cases hv : validB zs (len' : Int)
  · have HV := Lib.hid hv
    go_enter Try.func27, Try.ntmps27
    go_wp2_with fail
    refine (specValid_any _ _ _ zs _ _ H.out).mono ?_
    rintro e w1 ⟨rfl, hd⟩
    go_wp2
    go_ret
    refine ⟨ret_int ?_, hd⟩
    rw [hE.out, HV.out]; rfl
  · have HV := Lib.hid hv
    go_enter Try.func27, Try.ntmps27
    go_wp2_with fail
    refine (specValid_any _ _ _ zs _ _ H.out).mono ?_
    rintro e w1 ⟨rfl, hd⟩
    go_wp2_with fail
    refine (l1First_any _ _ _ zs _ _ _ L _ (H.out.dr hd) (H'.out.dr hd) (validB_mem HV.out).2.2).mono ?_
    rintro e w2 ⟨rfl, rfl⟩
    go_wp2
    go_ret
    refine ⟨ret_int ?_, hd⟩
    rw [hE.out, HV.out]; rfl

set_option maxRecDepth 100000 in
set_option maxHeartbeats 2000000 in
/-- **impl.BallotFirst**, at a valid ballot. -/
theorem implFirst_yes (a : Option Addr) (len cap : Nat) (zs : List Int) (a' : Option Addr) (len' cap' : Nat) (L : List Bool) (w : World) (h : IsInts w a len cap zs) (h' : IsBools w a' len' cap' L) (hv : validB zs (len' : Int) = true) :
    CallsIn Fence.wide 8 Try.prog 26 #[.slice a len cap, .slice a' len' cap'] w fun e w' => e = .returned (.int .i64 (firstL zs L)) ∧ Below w.heap.size w w' := by
  have hro : Fence.wide.round = none := rfl
  have HR := Lib.hid (validB_mem hv).2.2
  have hm := h'.2.2.1
  have H := Lib.hid h; clear h
  have H' := Lib.hid h'; clear h'
  refine callsIn_of_wp_marks Try.func26 rfl trivial ?_ hro
  simp only [Try.ntmps26, List.size_toArray, List.length_cons, List.length_nil, Nat.reduceAdd, Nat.reduceSub, Array.replicate_succ, Array.replicate_zero, List.push_toArray, List.append_toArray, List.nil_append, List.cons_append]
  gi_wp2
  refine ⟨trivial, ?_⟩
  gi_at_call 23
  refine (implValid_wide _ _ _ _ zs _ _ (H.out.below (((Below.refl _ w).alloc (Nat.le_refl _) _).alloc (by simp) _))).mono ?_
  rintro e w1 ⟨rfl, hb1⟩
  have hB1 : Below w.heap.size w w1 := (((Below.refl _ w).alloc (Nat.le_refl _) _).alloc (by simp) _).trans (hb1.mono (by simp; omega))
  have hsz : w.heap.size + 1 + 1 ≤ w1.heap.size := by have := hb1.size; simpa using this
  gi_wp2
  refine ⟨trivial, ?_⟩
  gi_at_call 41
  refine (candidates_in Fence.wide _ (by omega) trivial trivial hro _ _ _ _).mono ?_
  rintro e w' ⟨rfl, rfl⟩
  gi_wp2
  have bL0 := (Boxed.new w 35 (.slice a' len' cap')).alloc (.cells #[.int .i64 0] 3)
  have bR0 := Boxed.new (w.alloc (.cells #[.slice a' len' cap'] 35)) 3 (.int .i64 0)
  simp only [World.size_alloc] at bL0 bR0
  have bL : Boxed w1 w.heap.size 35 (.slice a' len' cap') := (hb1.block _ (by simp; omega)).trans bL0
  have bR : Boxed w1 (w.heap.size + 1) 3 (.int .i64 0) := (hb1.block _ (by simp)).trans bR0
  clear bL0 bR0
  have bV := Boxed.new w1 23 (.slice a len cap)
  have hB2 : Below w.heap.size w (w1.alloc (.cells #[.slice a len cap] 23)) := hB1.alloc (by omega) _
  refine wpIn_rangeFunc_ownG hro (by omega) (gf := 53) (lb := #[.pointer (some ⟨w1.heap.size, 0, none⟩)]) rfl trivial (enters_of Try.func53 (by kernel_rfl) rfl)
    (values_stops_g (fun z : { z : Int // 0 ≤ z ∧ z < (len' : Int) } => z.1) (zs.pmap Subtype.mk HR.out) Fence.wide 7 trivial hro (by omega) w1.heap.size a len cap zs (by simp [List.map_pmap]) w _ (by simp) hB2 bV.cell H.out) belowK_t (belowK_b (by simp; omega)) (Below.refl _ _) (fun _ => rfl)
    (fun pre W => (W.cell? ⟨w.heap.size, 0, none⟩ = some (.slice a' len' cap') ∧ (W.cell? ⟨w.heap.size + 1, 0, none⟩ = some (.int .i64 0) ∧ W.frozen? ⟨w.heap.size + 1, 0, none⟩ = false) ∧ ∀ z ∈ pre.map Subtype.val, L[z.toNat]?.getD false = true) ∧ Below w.heap.size w W)
    (fun c pre W => (c = .ret ∧ ∃ r, (∀ rest, firstL (pre.map Subtype.val ++ rest) L = r) ∧ W.cell? ⟨w.heap.size + 1, 0, none⟩ = some (.int .i64 r)) ∧ Below w.heap.size w W)
    (OwnFrom.and (Own.from (fun s A B row hs hg hr => ⟨cell_kept hs.1 hg hr, ⟨cell_kept hs.2.1.1 hg hr, (frozen_kept hs.2.1.1 hg hr).trans hs.2.1.2⟩, hs.2.2⟩) _) (ownFrom_below (Nat.le_refl _) (by simp; omega)))
    (fun c => OwnFrom.and (Own.from (fun s A B row hs hg hr => by obtain ⟨e1, r, e2, e3⟩ := hs; exact ⟨e1, r, e2, cell_kept e3 hg hr⟩) _) (ownFrom_below (Nat.le_refl _) (by simp; omega)))
    ⟨⟨(bL.alloc _).cell, ⟨(bR.alloc _).cell, (bR.alloc _).frozen⟩, by simp⟩, hB2⟩
    (fun z => { tmps := #[.slice a len cap, .slice a' len' cap', undef, .pointer (some ⟨w.heap.size, 0, none⟩), .pointer (some ⟨w.heap.size + 1, 0, none⟩), .int .i64 z.1,
      .slice a len cap, .slice a' len' cap', .int .i64 (len' : Int), .bool true, .bool false, .slice a len cap, .func (.func 53) #[] #[.pointer (some ⟨w1.heap.size, 0, none⟩)], .int .i64 z.1,
      undef, undef, undef, undef, undef, undef], defers := [] }) ?assign ?body ?done ?stop
  case assign =>
    intro l z W K hK
    gi_wp2
    exact hK
  case body =>
    rintro l pre ⟨z, hz0, hz1⟩ W ⟨⟨hcl, ⟨hcr, hfr⟩, hfree⟩, hB⟩ hlt
    have HF := Lib.hid hfree; clear hfree
    obtain ⟨c, rfl⟩ := Int.eq_ofNat_of_zero_le hz0
    have hc : c < len' := by omega
    obtain ⟨lb, lo, rfl, hlb, hlc⟩ := (H'.out.below hB).2.2.2 (by omega)
    have hcell := hlc c hc
    clear hlc
    cases hL : L[c]?.getD false
    · have HL := Lib.hid hL
      gi_wp2
      refine ⟨(KeepsOthers.setCell _ _ _).from _, ⟨rfl, (c : Int), fun rest => ?_, World.cell?_setCell_same' _ _ _ (by rw [hcr]; rfl)⟩, hB.setCell (p := ⟨w.heap.size + 1, 0, none⟩) (by simp) _⟩
      rw [List.map_append, List.append_assoc, firstL_app HF.out]
      show (if L[(c : Int).toNat]?.getD false = true then _ else _) = _
      rw [if_neg (by rw [Int.toNat_natCast, HL.out]; simp)]
    · have HL := Lib.hid hL
      gi_wp2
      refine ⟨KeepsFrom.refl _ _, Below.refl _ _, ⟨hcl, ⟨hcr, hfr⟩, fun u hu => ?_⟩, hB⟩
      rw [List.map_append] at hu
      refine (List.mem_append.1 hu).elim (HF.out u) (fun e => ?_)
      simp at e
      subst e
      rw [Int.toNat_natCast]; exact HL.out
  case done =>
    rintro D ys W hD rfl ⟨⟨hcl, ⟨hcr, hfr⟩, hfree⟩, hB⟩ hK
    have HF := Lib.hid hfree; clear hfree
    gi_wp2
    have hK' := (KeepsOthers.setCell W ⟨w.heap.size + 1, 0, none⟩ (.int .i64 (-1))).same D _ hK rfl
    refine ⟨by simp, .inl ⟨_, _, rfl, run_takeDeferred hK', ?_⟩⟩
    have hc5 := cell_kept (World.cell?_setCell_same' W ⟨w.heap.size + 1, 0, none⟩ (.int .i64 (-1)) (by rw [hcr]; rfl)) (grownBy_putObj' _ D (.deferred none)) (fun r e => by cases e; exact ⟨_, hK', rfl⟩)
    refine ⟨.int .i64 (-1), ?_, ret_int ?_, (hB.setCell (p := ⟨w.heap.size + 1, 0, none⟩) (by simp) _).trans (belowK_b (w := w) (Nat.le_refl _) _ D _ _ (by simp at hD; omega) hK' rfl rfl)⟩
    · simp [results, Try.f26, go_sem, hc5]
    · have := firstL_app HF.out []
      rw [List.append_nil, List.map_pmap] at this
      simp at this
      rw [this]; rfl
  case stop =>
    rintro D c pre W hD ⟨t, ht⟩ ⟨⟨rfl, r, hr, hcr⟩, hB⟩ hK
    have HQ : Hid (firstL zs L = r) := by
      have e : pre.map Subtype.val ++ t.map Subtype.val = zs := by rw [← List.map_append, ht]; simp [List.map_pmap]
      unfold Hid; rw [← e]; exact hr _
    clear hr ht
    gi_wp2
    refine ⟨by simp, .inl ⟨_, _, rfl, run_takeDeferred hK, ?_⟩⟩
    have hc5 := cell_kept hcr (grownBy_putObj' _ D (.deferred none)) (fun r e => by cases e; exact ⟨_, hK, rfl⟩)
    refine ⟨.int .i64 r, ?_, ret_int HQ.out.symm, hB.trans (belowK_b (w := w) (Nat.le_refl _) W D _ _ (by simp at hD; omega) hK rfl rfl)⟩
    simp [results, Try.f26, go_sem, hc5]

set_option maxRecDepth 100000 in
set_option maxHeartbeats 1000000 in
/-- **impl.BallotFirst** answers as the model does. -/
theorem implFirst_any (a : Option Addr) (len cap : Nat) (zs : List Int) (a' : Option Addr) (len' cap' : Nat) (L : List Bool) (w : World) (h : IsInts w a len cap zs) (h' : IsBools w a' len' cap' L) :
    Calls Try.prog 26 #[.slice a len cap, .slice a' len' cap'] w fun e w' => e = .returned (.int .i64 (firstB zs L)) ∧ Below w.heap.size w w' := by
  refine (callsIn_wide (n := 8)).1 ?_
  have hE : Hid (firstB zs L = if validB zs (len' : Int) = true then firstL zs L else -1) := by unfold Hid firstB; rw [h'.1]
  cases hv : validB zs (len' : Int)
  · have e : Hid (firstB zs L = -1) := by unfold Hid; rw [hE.out, hv]; rfl
    have hm := h'.2.2.1
    have H := Lib.hid h; clear h h' hE
    refine callsIn_of_wp Try.func26 rfl trivial ?_ rfl
    simp only [Try.ntmps26, List.size_toArray, List.length_cons, List.length_nil, Nat.reduceAdd, Nat.reduceSub, Array.replicate_succ, Array.replicate_zero, List.push_toArray, List.append_toArray, List.nil_append, List.cons_append]
    gi_wp2
    refine ⟨trivial, ?_⟩
    gi_at_call 23
    refine (implValid_wide _ _ _ _ zs _ _ (H.out.below (((Below.refl _ w).alloc (Nat.le_refl _) _).alloc (by simp) _))).mono ?_
    rintro e1 w1 ⟨rfl, hb1⟩
    have hB1 : Below w.heap.size w w1 := (((Below.refl _ w).alloc (Nat.le_refl _) _).alloc (by simp) _).trans (hb1.mono (by simp; omega))
    have bR0 := Boxed.new (w.alloc (.cells #[.slice a' len' cap'] 35)) 3 (.int .i64 0)
    simp only [World.size_alloc] at bR0
    have bR : Boxed w1 (w.heap.size + 1) 3 (.int .i64 0) := (hb1.block _ (by simp)).trans bR0
    have hcr := bR.cell
    have hfr := bR.frozen
    clear bR0 bR
    gi_wp2
    have hc5 := World.cell?_setCell_same' w1 ⟨w.heap.size + 1, 0, none⟩ (.int .i64 (-1)) (by rw [hcr]; rfl)
    exact bodyPost_ret (v := .int .i64 (-1)) (by simp [results, Try.f26, go_sem, hc5]) rfl ⟨ret_int e.out.symm, hB1.setCell (p := ⟨w.heap.size + 1, 0, none⟩) (by simp) _⟩
  · rw [hE.out, hv]
    exact implFirst_yes a len cap zs a' len' cap' L w h h' hv

end Go.Proofs.Ytppnngccjlnejaa
