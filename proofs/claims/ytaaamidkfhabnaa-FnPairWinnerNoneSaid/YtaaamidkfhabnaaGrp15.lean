/-
  impl.PairTop and impl.PairBest: for every list of piles and every number of candidates, in memory of the call's own.
  turned: two candidates exchanged; the winner of pairs of turned piles.
  The library's cuts. Of no function of the seat.
-/
import Derived.Test.YtaaamidkfhabnaaGrp11
import Derived.Test.YtaaamidkfhabnaaStrB
import Derived.Test.YtaaamidkfhabnaaWinsS
import Derived.Test.YtaaamidkfhabnaaGrp8
import Derived.Test.YtaaamidkfhabnaaBase
import Derived.Deep.Cut
import Derived.Deep.CutRange
namespace Go.Proofs.Ytaaamidkfhabnaa
open Go.RowKit

attribute [local go_sem] Oper.semAt_some

set_option maxHeartbeats 2000000 in
/-- The row of x, for a table that is kept in a variable. -/
theorem lead_tells {base base' lo hi : Nat} {w w' : World} {n g bl bx x y : Nat} {G : Nat → Nat} {F : Nat → Nat → Bool} (hT : Tb 4 69 w base' (some ⟨g, 0, none⟩) n n n n G (fun _ => n) (fun x y => .bool (F x y))) (hn : Near base lo hi w w') (hgb : g < base) (hT2 : ∀ i, i < n → G i < base) (hl : w'.cell? ⟨bl, 0, none⟩ = some (.slice (some ⟨g, 0, none⟩) n n)) (hb : w'.cell? ⟨bx, 0, none⟩ = some (.int .i64 (x : Int))) (hx : x < n) (hy : y < n) :
    Calls Try.prog 60 #[.int .i64 (y : Int), .pointer (some ⟨bl, 0, none⟩), .pointer (some ⟨bx, 0, none⟩)] w' fun e w'' => e = .returned (.bool (F x y)) ∧ Dr w' w'' := by
  have rx := (hn.cell x (.inl hgb)).trans (hT.row_cell hx (Nat.le_refl _))
  have cxy := (hn.cell y (.inl (hT2 x hx))).trans (hT.cell hx hy)
  obtain ⟨gx, hgx⟩ : ∃ gx, G x = gx := ⟨_, rfl⟩
  obtain ⟨v, hv⟩ : ∃ v, F x y = v := ⟨_, rfl⟩
  rw [hgx] at rx cxy
  rw [hv] at cxy ⊢
  clear hgx hv hT
  have hxi : (x : Int) < (n : Int) := by omega
  have hyi : (y : Int) < (n : Int) := by omega
  go_enter Try.func60, Try.ntmps60
  go_wp2
  go_ret
  exact ⟨rfl, Dr.refl _⟩

set_option maxHeartbeats 2000000 in
theorem lead_row {base' : Nat} {w : World} {n g bl : Nat} {G : Nat → Nat} {F : Nat → Nat → Bool} (hT : Tb 4 69 w base' (some ⟨g, 0, none⟩) n n n n G (fun _ => n) (fun x y => .bool (F x y))) (hn1 : 1 ≤ n) (hl : w.cell? ⟨bl, 0, none⟩ = some (.slice (some ⟨g, 0, none⟩) n n)) (hbl : bl < w.heap.size) :
    RowOf w 59 #[] #[.pointer (some ⟨bl, 0, none⟩)] n 60 (fun x y => .bool (F x y)) := by
  intro x hx w' hb
  have e0 : (#[] ++ #[Value.int .i64 (x : Int)] ++ #[Value.pointer (some ⟨bl, 0, none⟩)] : Array Value) = #[.int .i64 (x : Int), .pointer (some ⟨bl, 0, none⟩)] := rfl
  rw [e0]
  obtain ⟨g', e1, _, hgl, _⟩ := hT.head (by omega)
  injection e1 with e1
  injection e1 with e1
  subst e1
  have HT := Lib.hid hT
  have HB := Lib.hid hb
  have HLL := Lib.hid hl
  clear hT hb hl
  go_enter Try.func59, Try.ntmps59
  go_wp2
  go_ret
  refine ⟨bl, w'.heap.size, rfl, fun w3 hb3 y hy => ?_, (Below.refl _ w').alloc (Nat.le_refl _) _⟩
  have hbw : Below w.heap.size w (w'.alloc (.cells #[.int .i64 (x : Int)] 3)) := HB.out.alloc HB.out.size _
  have hT4 := HT.out.under hbw
  refine lead_tells hT4 hb3 hgl (fun i hi => (HT.out.lt hi).2) ?_ ?_ hx hy
  · exact (hb3.cell 0 (.inl hbl)).trans ((hbw.cell (p := ⟨bl, 0, none⟩) hbl).trans HLL.out)
  · exact (hb3.cell 0 (.inr ⟨Nat.le_refl _, by simp⟩)).trans (cell_first w' _ _)
theorem lead_ent : Ent 59 := Go.Proofs.enters_of Try.func59 (by kernel_rfl) rfl
theorem lead1_ent : Ent 60 := Go.Proofs.enters_of Try.func60 (by kernel_rfl) rfl

set_option maxHeartbeats 2000000 in
/-- The row of x, for a table that is kept in a variable. -/
theorem best_tells {base base' lo hi : Nat} {w w' : World} {n g bl bx x y : Nat} {G : Nat → Nat} {F : Nat → Nat → Int} (hT : Tb 3 30 w base' (some ⟨g, 0, none⟩) n n n n G (fun _ => n) (fun x y => .int .i64 (F x y))) (hn : Near base lo hi w w') (hgb : g < base) (hT2 : ∀ i, i < n → G i < base) (hl : w'.cell? ⟨bl, 0, none⟩ = some (.slice (some ⟨g, 0, none⟩) n n)) (hb : w'.cell? ⟨bx, 0, none⟩ = some (.int .i64 (x : Int))) (hx : x < n) (hy : y < n) :
    Calls Try.prog 62 #[.int .i64 (y : Int), .pointer (some ⟨bl, 0, none⟩), .pointer (some ⟨bx, 0, none⟩)] w' fun e w'' => e = .returned (.bool (decide (F y x ≤ F x y))) ∧ Dr w' w'' := by
  have rx := (hn.cell x (.inl hgb)).trans (hT.row_cell hx (Nat.le_refl _))
  have ry := (hn.cell y (.inl hgb)).trans (hT.row_cell hy (Nat.le_refl _))
  have cxy := (hn.cell y (.inl (hT2 x hx))).trans (hT.cell hx hy)
  have cyx := (hn.cell x (.inl (hT2 y hy))).trans (hT.cell hy hx)
  obtain ⟨gx, hgx⟩ : ∃ gx, G x = gx := ⟨_, rfl⟩
  obtain ⟨gy, hgy⟩ : ∃ gy, G y = gy := ⟨_, rfl⟩
  obtain ⟨p, hp⟩ : ∃ p, F x y = p := ⟨_, rfl⟩
  obtain ⟨q, hq⟩ : ∃ q, F y x = q := ⟨_, rfl⟩
  rw [hgx] at rx cxy
  rw [hgy] at ry cyx
  rw [hp] at cxy
  rw [hq] at cyx
  rw [hp, hq]
  obtain ⟨v, hv⟩ : ∃ v, decide (q ≤ p) = v := ⟨_, rfl⟩
  rw [hv]
  clear hgx hgy hp hq hT
  have hxi : (x : Int) < (n : Int) := by omega
  have hyi : (y : Int) < (n : Int) := by omega
  go_enter Try.func62, Try.ntmps62
  go_wp2_with fail
  go_quiet (fail)
  go_wp2
  go_ret
  exact ⟨rfl, Dr.drewN (Dr.refl _) _⟩

set_option maxHeartbeats 2000000 in
theorem best_row {base' : Nat} {w : World} {n g bl : Nat} {G : Nat → Nat} {F : Nat → Nat → Int} (hT : Tb 3 30 w base' (some ⟨g, 0, none⟩) n n n n G (fun _ => n) (fun x y => .int .i64 (F x y))) (hn1 : 1 ≤ n) (hl : w.cell? ⟨bl, 0, none⟩ = some (.slice (some ⟨g, 0, none⟩) n n)) (hbl : bl < w.heap.size) :
    RowOf w 61 #[] #[.pointer (some ⟨bl, 0, none⟩)] n 62 (fun x y => .bool (decide (F y x ≤ F x y))) := by
  intro x hx w' hb
  have e0 : (#[] ++ #[Value.int .i64 (x : Int)] ++ #[Value.pointer (some ⟨bl, 0, none⟩)] : Array Value) = #[.int .i64 (x : Int), .pointer (some ⟨bl, 0, none⟩)] := rfl
  rw [e0]
  obtain ⟨g', e1, _, hgl, _⟩ := hT.head (by omega)
  injection e1 with e1
  injection e1 with e1
  subst e1
  have HT := Lib.hid hT
  have HB := Lib.hid hb
  have HLL := Lib.hid hl
  clear hT hb hl
  go_enter Try.func61, Try.ntmps61
  go_wp2
  go_ret
  refine ⟨bl, w'.heap.size, rfl, fun w3 hb3 y hy => ?_, (Below.refl _ w').alloc (Nat.le_refl _) _⟩
  have hbw : Below w.heap.size w (w'.alloc (.cells #[.int .i64 (x : Int)] 3)) := HB.out.alloc HB.out.size _
  have hT4 := HT.out.under hbw
  refine best_tells hT4 hb3 hgl (fun i hi => (HT.out.lt hi).2) ?_ ?_ hx hy
  · exact (hb3.cell 0 (.inl hbl)).trans ((hbw.cell (p := ⟨bl, 0, none⟩) hbl).trans HLL.out)
  · exact (hb3.cell 0 (.inr ⟨Nat.le_refl _, by simp⟩)).trans (cell_first w' _ _)
theorem best_ent : Ent 61 := Go.Proofs.enters_of Try.func61 (by kernel_rfl) rfl
theorem best1_ent : Ent 62 := Go.Proofs.enters_of Try.func62 (by kernel_rfl) rfl

theorem atLeast_self (M : Nat → Nat → Int) (x : Nat) : atLeast M x x = true := by unfold atLeast; exact decide_eq_true (Int.le_refl _)
theorem over_top (M : Nat → Nat → Int) (n : Nat) : candTo (overB (fun x y => reachL M n x y) n) n = candTo (ptopB M n) n :=
  candTo_congr (fun x _ => allTo_congr (fun y _ => by
    by_cases e : x = y
    · subst e; rw [reach_of (Int.le_refl _)]; simp
    · rw [decide_eq_false e]; rfl))
theorem over_best (M : Nat → Nat → Int) (n : Nat) : candTo (overB (fun x y => decide (pathL M n y x ≤ pathL M n x y)) n) n = candTo (pbestB M n) n :=
  candTo_congr (fun x _ => allTo_congr (fun y _ => by
    by_cases e : x = y
    · subst e; rw [decide_eq_true (Int.le_refl _)]; simp
    · rw [decide_eq_false e]; rfl))

/-- A list of the call's own. -/
def GaveL (w : World) (L : List Int) (e : Ending) (w' : World) : Prop :=
  ∃ a c, e = .returned (.slice a L.length c) ∧ w'.ownsRow w.heap.size 3 1 (.slice a L.length c) L.length (L.map (Value.int .i64)) ∧ Below w.heap.size w w'

set_option maxRecDepth 100000 in
set_option maxHeartbeats 4000000 in
/-- **impl.PairTop**. -/
theorem implPairTop_as (a : Option Addr) (len cap : Nat) (ps : List Pl) (n : Int) (r : List Int) (w : World) (h : IsPiles w a len cap ps) (hs : Small ps) (hr : ptopF ps n = r) :
    Calls Try.prog 24 #[.slice a len cap, .int .i64 n] w (GaveL w r) := by
  have HI := Lib.hid h
  have HS := Lib.hid hs
  clear h hs
  obtain ⟨v, hv⟩ : ∃ v, fitsB ps n = v := ⟨_, rfl⟩
  have hn : v = true → 1 ≤ n ∧ n ≤ 5 := fun e => by subst e; obtain ⟨_, h1, h5, _⟩ := fits_parts hv; exact ⟨h1, h5⟩
  have HV := Lib.hid hv
  have HR0 := Lib.hid hr
  clear hv hr
  go_enter Try.func24, Try.ntmps24
  go_wp2_with fail
  refine (newPairTable_as _ len cap ps n v _ HI.out HS.out HV.out).mono ?_
  rintro e1 w1 (⟨rfl, rfl, hb1⟩ | ⟨rfl, g, rfl, hT, hb1⟩)
  · have B1 := Lib.hid hb1
    have e : Hid (r = []) := by rw [Hid, ← HR0.out, ptopF, HV.out]; rfl
    clear hb1 hn
    go_wp2
    go_ret
    exact ⟨none, 0, by rw [e.out]; rfl, by rw [e.out]; exact ⟨rfl, .inl ⟨rfl, rfl⟩⟩, B1.out⟩
  · obtain ⟨h1, h5⟩ := hn rfl
    obtain ⟨N, rfl⟩ : ∃ N : Nat, n = (N : Int) := ⟨n.toNat, by omega⟩
    rw [Int.toNat_natCast] at hT
    have e : Hid (candTo (overB (fun x y => reachL (pairF ps) N x y) N) N = r) := by rw [Hid, over_top, ← HR0.out, ptopF, HV.out]; rfl
    have HR := Lib.hid (holds_row hT (by omega))
    have B1 := Lib.hid hb1
    clear hb1 hn hT
    go_wp2_with fail
    refine (strongB_any N _ _ _ _ (pairF ps) _ holds_ent holds1_ent HR.out (by omega) (by omega)).mono ?_
    rintro e2 w2 ⟨gt, G, rfl, hT2, -, hb2⟩
    have B2 := Lib.hid (B1.out.trans (hb2.mono B1.out.size))
    obtain ⟨w3, hw3⟩ : ∃ w3, w2.alloc (.cells #[.slice (some ⟨gt, 0, none⟩) N N] 65) = w3 := ⟨_, rfl⟩
    have hB3 : Below w2.heap.size w2 w3 := hw3 ▸ (Below.refl _ w2).alloc (Nat.le_refl _) _
    have c3 : w3.cell? ⟨w2.heap.size, 0, none⟩ = some (.slice (some ⟨gt, 0, none⟩) N N) := hw3 ▸ cell_first w2 _ _
    have l3 : w2.heap.size < w3.heap.size := by rw [← hw3, World.size_alloc]; omega
    have HR3 := Lib.hid (lead_row (hT2.under hB3) (by omega) c3 l3)
    have B3 := Lib.hid (B2.out.trans (hB3.mono B2.out.size))
    clear hT2 hb2 HR c3 hB3
    go_wp2_with fail
    refine (over_any N _ _ _ _ (fun x y => reachL (pairF ps) N x y) r _ lead_ent lead1_ent HR3.out (by omega) e.out).mono ?_
    rintro e2 w4 ⟨ao, co, rfl, ho, hb4⟩
    have HO := Lib.hid (World.ownsRow.mono ho B3.out.size)
    have B4 := Lib.hid (B3.out.trans (hb4.mono B3.out.size))
    clear ho hb4 HR3
    go_wp2
    go_ret
    exact ⟨ao, co, rfl, HO.out, B4.out⟩

set_option maxRecDepth 100000 in
set_option maxHeartbeats 4000000 in
/-- **impl.PairBest**. -/
theorem implPairBest_as (a : Option Addr) (len cap : Nat) (ps : List Pl) (n : Int) (r : List Int) (w : World) (h : IsPiles w a len cap ps) (hs : Small ps) (hr : pbestF ps n = r) :
    Calls Try.prog 25 #[.slice a len cap, .int .i64 n] w (GaveL w r) := by
  have HI := Lib.hid h
  have HS := Lib.hid hs
  clear h hs
  obtain ⟨v, hv⟩ : ∃ v, fitsB ps n = v := ⟨_, rfl⟩
  have hn : v = true → 1 ≤ n ∧ n ≤ 5 := fun e => by subst e; obtain ⟨_, h1, h5, _⟩ := fits_parts hv; exact ⟨h1, h5⟩
  have HV := Lib.hid hv
  have HR0 := Lib.hid hr
  clear hv hr
  go_enter Try.func25, Try.ntmps25
  go_wp2_with fail
  refine (implPairPaths_as _ len cap ps n v _ HI.out HS.out HV.out).mono ?_
  rintro e1 w1 (⟨rfl, rfl, hb1⟩ | ⟨rfl, gt, G, rfl, hT2, -, hb1⟩)
  · have B1 := Lib.hid (hb1.alloc hb1.size (.cells #[.slice none 0 0] 26))
    have e : Hid (r = []) := by rw [Hid, ← HR0.out, pbestF, HV.out]; rfl
    clear hb1 hn
    go_wp2
    go_ret
    exact ⟨none, 0, by rw [e.out]; rfl, by rw [e.out]; exact ⟨rfl, .inl ⟨rfl, rfl⟩⟩, B1.out⟩
  · obtain ⟨h1, h5⟩ := hn rfl
    obtain ⟨N, rfl⟩ : ∃ N : Nat, n = (N : Int) := ⟨n.toNat, by omega⟩
    rw [Int.toNat_natCast] at hT2
    have e : Hid (candTo (overB (fun x y => decide (pathL (pairF ps) N y x ≤ pathL (pairF ps) N x y)) N) N = r) := by rw [Hid, over_best, ← HR0.out, pbestF, HV.out]; rfl
    have B2 := Lib.hid hb1
    rw [Int.toNat_natCast]
    obtain ⟨w3, hw3⟩ : ∃ w3, w1.alloc (.cells #[.slice (some ⟨gt, 0, none⟩) N N] 26) = w3 := ⟨_, rfl⟩
    have hB3 : Below w1.heap.size w1 w3 := hw3 ▸ (Below.refl _ w1).alloc (Nat.le_refl _) _
    have c3 : w3.cell? ⟨w1.heap.size, 0, none⟩ = some (.slice (some ⟨gt, 0, none⟩) N N) := hw3 ▸ cell_first w1 _ _
    have l3 : w1.heap.size < w3.heap.size := by rw [← hw3, World.size_alloc]; omega
    have HR3 := Lib.hid (best_row (hT2.under hB3) (by omega) c3 l3)
    have B3 := Lib.hid (B2.out.trans (hB3.mono B2.out.size))
    clear hT2 hb1 c3 hB3 hn
    go_wp2_with fail
    refine (over_any N _ _ _ _ (fun x y => decide (pathL (pairF ps) N y x ≤ pathL (pairF ps) N x y)) r _ best_ent best1_ent HR3.out (by omega) e.out).mono ?_
    rintro e2 w4 ⟨ao, co, rfl, ho, hb4⟩
    have HO := Lib.hid (World.ownsRow.mono ho B3.out.size)
    have B4 := Lib.hid (B3.out.trans (hb4.mono B3.out.size))
    clear ho hb4 HR3
    go_wp2
    go_ret
    exact ⟨ao, co, rfl, HO.out, B4.out⟩

end Go.Proofs.Ytaaamidkfhabnaa

namespace Go.Proofs.Ytaaamidkfhabnaa
open Go.RowKit

set_option maxHeartbeats 1000000 in
/-- **turned**. -/
theorem turned_any (k x y : Int) (w : World) : Calls Try.prog 35 #[.int .i64 k, .int .i64 x, .int .i64 y] w fun e w' => e = .returned (.int .i64 (swapC x y k)) ∧ w = w' := by
  by_cases h1 : k = x
  · have e1 : (k == x) = true := by rw [h1]; simp
    have e2 : Hid (swapC x y k = y) := by unfold Hid swapC; rw [if_pos h1]
    clear h1
    go_enter Try.func35, Try.ntmps35
    go_wp2
    go_ret
    exact ⟨ret_int e2.out.symm, rfl⟩
  · have e1 : (k == x) = false := beq_eq_false_iff_ne.2 h1
    by_cases h2 : k = y
    · have e3 : (k == y) = true := by rw [h2]; simp
      have e2 : Hid (swapC x y k = x) := by unfold Hid swapC; rw [if_neg h1, if_pos h2]
      clear h1 h2
      go_enter Try.func35, Try.ntmps35
      go_wp2
      go_ret
      exact ⟨ret_int e2.out.symm, rfl⟩
    · have e3 : (k == y) = false := beq_eq_false_iff_ne.2 h2
      have e2 : Hid (swapC x y k = k) := by unfold Hid swapC; rw [if_neg h1, if_neg h2]
      clear h1 h2
      go_enter Try.func35, Try.ntmps35
      go_wp2
      go_ret
      exact ⟨ret_int e2.out.symm, rfl⟩

theorem swap_in {x y z : Int} {n : Int} (hx : 0 ≤ x ∧ x < n) (hy : 0 ≤ y ∧ y < n) (hz : 0 ≤ z ∧ z < n) : 0 ≤ swapC x y z ∧ swapC x y z < n := by
  unfold swapC
  split
  · omega
  · split <;> omega
theorem validB_five {zs : List Int} {n : Int} (h5 : validB zs 5 = true) (hn : 1 ≤ n ∧ n ≤ 5) (h : ∀ z ∈ zs, 0 ≤ z ∧ z < n) : validB zs n = true := by
  rw [validB_in hn.1 hn.2]
  rw [validB_in (by omega) (by omega)] at h5
  unfold goodL goodTo at h5 ⊢
  rw [List.all_eq_true] at h5 ⊢
  intro i hi
  have h1 := h5 i hi
  rw [Bool.and_eq_true] at h1 ⊢
  refine ⟨?_, h1.2⟩
  have hi' := List.mem_range.1 hi
  have hm : zs[i]?.getD 0 ∈ zs := by rw [List.getElem?_eq_getElem hi']; exact List.getElem_mem hi'
  have := h _ hm
  simp [inB]; omega
theorem fits_turn {ps : List Pl} {n x y : Nat} (hf : fitsB ps (n : Int) = true) (hx : x < n) (hy : y < n) : fitsB (turnPs (x : Int) (y : Int) ps) (n : Int) = true := by
  obtain ⟨hp, h1, h5, hv⟩ := fits_parts hf
  have hx4 : 0 ≤ (x : Int) ∧ (x : Int) ≤ 4 := by omega
  have hy4 : 0 ≤ (y : Int) ∧ (y : Int) ≤ 4 := by omega
  have hp2 := turn_valid hx4 hy4 hp
  simp only [fitsB, Bool.and_eq_true, List.all_eq_true]
  refine ⟨hp2, by simp [inB]; omega, fun q hq => ?_⟩
  refine validB_five ((pilesB_pos hp2).2.2.2.1 q hq) ⟨by omega, by omega⟩ (fun z hz => ?_)
  rcases merge_texts q hq with ⟨p, hp', _⟩ | ⟨p, hp', e⟩
  · cases hp'
  · obtain ⟨p0, hp0, rfl⟩ := List.mem_map.1 hp'
    obtain ⟨i, hi, rfl⟩ := List.mem_iff_getElem.1 hp0
    have hvi := hv i hi
    have e0 : tAt ps i = (ps[i]).1 := by simp [tAt, hi]
    rw [e0] at hvi
    have h5v := (pilesB_pos hp).2.2.2.1 _ hp0
    rw [← e] at hz
    have hz2 : z ∈ turnB (x : Int) (y : Int) (parseL (ps[i]).1) := by
      have e3 := parse_turn hx4 hy4 h5v
      have e4 := parseL_ok (turnT_valid hx4 hy4 h5v)
      rw [← e3, e4]; exact hz
    obtain ⟨u, hu, rfl⟩ := List.mem_map.1 hz2
    have := (validB_mem hvi).2.2 u hu
    exact swap_in ⟨by omega, by omega⟩ ⟨by omega, by omega⟩ this
theorem winner_turn {ps : List Pl} {n x y x0 : Nat} (hf : fitsB ps (n : Int) = true) (hx : x < n) (hy : y < n) (h0 : x0 < n) (hw : Wins (pairF ps) n x0) : winnerF (turnPs (x : Int) (y : Int) ps) (n : Int) = swapC (x : Int) (y : Int) (x0 : Int) := by
  obtain ⟨hp, h1, h5, _⟩ := fits_parts hf
  have hs := swap_in (n := (n : Int)) (x := x) (y := y) (z := x0) ⟨by omega, by omega⟩ ⟨by omega, by omega⟩ ⟨by omega, by omega⟩
  have hw2 := wins_turn (ps := ps) (n := n) (by omega) (x := x) (y := y) ⟨by omega, by omega⟩ ⟨by omega, by omega⟩ (pilesB_pos hp).2.2.2.1 hw
  unfold winnerF
  rw [if_pos (fits_turn hf hx hy), Int.toNat_natCast, pairW_yes (by omega) ((winsB_iff _ _ _).2 hw2)]
  omega

end Go.Proofs.Ytaaamidkfhabnaa


