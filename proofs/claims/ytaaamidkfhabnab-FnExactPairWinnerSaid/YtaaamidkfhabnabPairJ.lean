/-
  impl.PairTop and impl.PairBest: for every list of piles and every number of candidates, in memory of the call's own.
-/
import Derived.Test.YtaaamidkfhabnabPairI
import Derived.Test.YtaaamidkfhabnabStrB
namespace Go.Proofs.Ytaaamidkfhabnab
open Go.RowKit

attribute [local go_sem] Oper.semAt_some

set_option maxHeartbeats 2000000 in
/-- The row of x, for a table that is kept in a variable. -/
theorem lead_tells {base base' lo hi : Nat} {w w' : World} {n g bl bx x y : Nat} {G : Nat → Nat} {F : Nat → Nat → Bool} (hT : Tb 4 55 w base' (some ⟨g, 0, none⟩) n n n n G (fun _ => n) (fun x y => .bool (F x y))) (hn : Near base lo hi w w') (hgb : g < base) (hT2 : ∀ i, i < n → G i < base) (hl : w'.cell? ⟨bl, 0, none⟩ = some (.slice (some ⟨g, 0, none⟩) n n)) (hb : w'.cell? ⟨bx, 0, none⟩ = some (.int .i64 (x : Int))) (hx : x < n) (hy : y < n) :
    Calls Try.prog 41 #[.int .i64 (y : Int), .pointer (some ⟨bl, 0, none⟩), .pointer (some ⟨bx, 0, none⟩)] w' fun e w'' => e = .returned (.bool (F x y)) ∧ Dr w' w'' := by
  have rx := (hn.cell x (.inl hgb)).trans (hT.row_cell hx (Nat.le_refl _))
  have cxy := (hn.cell y (.inl (hT2 x hx))).trans (hT.cell hx hy)
  obtain ⟨gx, hgx⟩ : ∃ gx, G x = gx := ⟨_, rfl⟩
  obtain ⟨v, hv⟩ : ∃ v, F x y = v := ⟨_, rfl⟩
  rw [hgx] at rx cxy
  rw [hv] at cxy ⊢
  clear hgx hv hT
  have hxi : (x : Int) < (n : Int) := by omega
  have hyi : (y : Int) < (n : Int) := by omega
  go_enter Try.func41, Try.ntmps41
  go_wp2
  go_ret
  exact ⟨rfl, Dr.refl _⟩

set_option maxHeartbeats 2000000 in
theorem lead_row {base' : Nat} {w : World} {n g bl : Nat} {G : Nat → Nat} {F : Nat → Nat → Bool} (hT : Tb 4 55 w base' (some ⟨g, 0, none⟩) n n n n G (fun _ => n) (fun x y => .bool (F x y))) (hn1 : 1 ≤ n) (hl : w.cell? ⟨bl, 0, none⟩ = some (.slice (some ⟨g, 0, none⟩) n n)) (hbl : bl < w.heap.size) :
    RowOf w 40 #[] #[.pointer (some ⟨bl, 0, none⟩)] n 41 (fun x y => .bool (F x y)) := by
  intro x hx w' hb
  have e0 : (#[] ++ #[Value.int .i64 (x : Int)] ++ #[Value.pointer (some ⟨bl, 0, none⟩)] : Array Value) = #[.int .i64 (x : Int), .pointer (some ⟨bl, 0, none⟩)] := rfl
  rw [e0]
  obtain ⟨g', e1, _, hgl, _⟩ := hT.head (by omega)
  injection e1 with e1
  injection e1 with e1
  subst e1
  have HT := Lib.hid hT
  have HB := Lib.hid hb
  have HLL := Lib.hid hl
  clear hT hb hl
  go_enter Try.func40, Try.ntmps40
  go_wp2
  go_ret
  refine ⟨bl, w'.heap.size, rfl, fun w3 hb3 y hy => ?_, (Below.refl _ w').alloc (Nat.le_refl _) _⟩
  have hbw : Below w.heap.size w (w'.alloc (.cells #[.int .i64 (x : Int)] 3)) := HB.out.alloc HB.out.size _
  have hT4 := HT.out.under hbw
  refine lead_tells hT4 hb3 hgl (fun i hi => (HT.out.lt hi).2) ?_ ?_ hx hy
  · exact (hb3.cell 0 (.inl hbl)).trans ((hbw.cell (p := ⟨bl, 0, none⟩) hbl).trans HLL.out)
  · exact (hb3.cell 0 (.inr ⟨Nat.le_refl _, by simp⟩)).trans (cell_first w' _ _)
theorem lead_ent : Ent 40 := Go.Proofs.enters_of Try.func40 (by kernel_rfl) rfl
theorem lead1_ent : Ent 41 := Go.Proofs.enters_of Try.func41 (by kernel_rfl) rfl

set_option maxHeartbeats 2000000 in
/-- The row of x, for a table that is kept in a variable. -/
theorem best_tells {base base' lo hi : Nat} {w w' : World} {n g bl bx x y : Nat} {G : Nat → Nat} {F : Nat → Nat → Int} (hT : Tb 3 29 w base' (some ⟨g, 0, none⟩) n n n n G (fun _ => n) (fun x y => .int .i64 (F x y))) (hn : Near base lo hi w w') (hgb : g < base) (hT2 : ∀ i, i < n → G i < base) (hl : w'.cell? ⟨bl, 0, none⟩ = some (.slice (some ⟨g, 0, none⟩) n n)) (hb : w'.cell? ⟨bx, 0, none⟩ = some (.int .i64 (x : Int))) (hx : x < n) (hy : y < n) :
    Calls Try.prog 49 #[.int .i64 (y : Int), .pointer (some ⟨bl, 0, none⟩), .pointer (some ⟨bx, 0, none⟩)] w' fun e w'' => e = .returned (.bool (decide (F y x ≤ F x y))) ∧ Dr w' w'' := by
  have rx := (hn.cell x (.inl hgb)).trans (hT.row_cell hx (Nat.le_refl _))
  have ry := (hn.cell y (.inl hgb)).trans (hT.row_cell hy (Nat.le_refl _))
  have cxy := (hn.cell y (.inl (hT2 x hx))).trans (hT.cell hx hy)
  have cyx := (hn.cell x (.inl (hT2 y hy))).trans (hT.cell hy hx)
  obtain ⟨gx, hgx⟩ : ∃ gx, G x = gx := ⟨_, rfl⟩
  obtain ⟨gy, hgy⟩ : ∃ gy, G y = gy := ⟨_, rfl⟩
  obtain ⟨p, hp⟩ : ∃ p, F x y = p := ⟨_, rfl⟩
  obtain ⟨q, hq⟩ : ∃ q, F y x = q := ⟨_, rfl⟩
  rw [hgx] at rx cxy
  rw [hgy] at ry cyx
  rw [hp] at cxy
  rw [hq] at cyx
  rw [hp, hq]
  obtain ⟨v, hv⟩ : ∃ v, decide (q ≤ p) = v := ⟨_, rfl⟩
  rw [hv]
  clear hgx hgy hp hq hT
  have hxi : (x : Int) < (n : Int) := by omega
  have hyi : (y : Int) < (n : Int) := by omega
  go_enter Try.func49, Try.ntmps49
  go_wp2_with fail
  go_quiet (fail)
  go_wp2
  go_ret
  exact ⟨rfl, Dr.drewN (Dr.refl _) _⟩

set_option maxHeartbeats 2000000 in
theorem best_row {base' : Nat} {w : World} {n g bl : Nat} {G : Nat → Nat} {F : Nat → Nat → Int} (hT : Tb 3 29 w base' (some ⟨g, 0, none⟩) n n n n G (fun _ => n) (fun x y => .int .i64 (F x y))) (hn1 : 1 ≤ n) (hl : w.cell? ⟨bl, 0, none⟩ = some (.slice (some ⟨g, 0, none⟩) n n)) (hbl : bl < w.heap.size) :
    RowOf w 48 #[] #[.pointer (some ⟨bl, 0, none⟩)] n 49 (fun x y => .bool (decide (F y x ≤ F x y))) := by
  intro x hx w' hb
  have e0 : (#[] ++ #[Value.int .i64 (x : Int)] ++ #[Value.pointer (some ⟨bl, 0, none⟩)] : Array Value) = #[.int .i64 (x : Int), .pointer (some ⟨bl, 0, none⟩)] := rfl
  rw [e0]
  obtain ⟨g', e1, _, hgl, _⟩ := hT.head (by omega)
  injection e1 with e1
  injection e1 with e1
  subst e1
  have HT := Lib.hid hT
  have HB := Lib.hid hb
  have HLL := Lib.hid hl
  clear hT hb hl
  go_enter Try.func48, Try.ntmps48
  go_wp2
  go_ret
  refine ⟨bl, w'.heap.size, rfl, fun w3 hb3 y hy => ?_, (Below.refl _ w').alloc (Nat.le_refl _) _⟩
  have hbw : Below w.heap.size w (w'.alloc (.cells #[.int .i64 (x : Int)] 3)) := HB.out.alloc HB.out.size _
  have hT4 := HT.out.under hbw
  refine best_tells hT4 hb3 hgl (fun i hi => (HT.out.lt hi).2) ?_ ?_ hx hy
  · exact (hb3.cell 0 (.inl hbl)).trans ((hbw.cell (p := ⟨bl, 0, none⟩) hbl).trans HLL.out)
  · exact (hb3.cell 0 (.inr ⟨Nat.le_refl _, by simp⟩)).trans (cell_first w' _ _)
theorem best_ent : Ent 48 := Go.Proofs.enters_of Try.func48 (by kernel_rfl) rfl
theorem best1_ent : Ent 49 := Go.Proofs.enters_of Try.func49 (by kernel_rfl) rfl

theorem atLeast_self (M : Nat → Nat → Int) (x : Nat) : atLeast M x x = true := by unfold atLeast; exact decide_eq_true (Int.le_refl _)
theorem over_top (M : Nat → Nat → Int) (n : Nat) : candTo (overB (fun x y => reachL M n x y) n) n = candTo (ptopB M n) n :=
  candTo_congr (fun x _ => allTo_congr (fun y _ => by
    by_cases e : x = y
    · subst e; rw [reach_of (Int.le_refl _)]; simp
    · rw [decide_eq_false e]; rfl))
theorem over_best (M : Nat → Nat → Int) (n : Nat) : candTo (overB (fun x y => decide (pathL M n y x ≤ pathL M n x y)) n) n = candTo (pbestB M n) n :=
  candTo_congr (fun x _ => allTo_congr (fun y _ => by
    by_cases e : x = y
    · subst e; rw [decide_eq_true (Int.le_refl _)]; simp
    · rw [decide_eq_false e]; rfl))

/-- A list of the call's own. -/
def GaveL (w : World) (L : List Int) (e : Ending) (w' : World) : Prop :=
  ∃ a c, e = .returned (.slice a L.length c) ∧ w'.ownsRow w.heap.size 3 1 (.slice a L.length c) L.length (L.map (Value.int .i64)) ∧ Below w.heap.size w w'

set_option maxRecDepth 100000 in
set_option maxHeartbeats 4000000 in
/-- **impl.PairTop**. -/
theorem implPairTop_as (a : Option Addr) (len cap : Nat) (ps : List Pl) (n : Int) (r : List Int) (w : World) (h : IsPiles w a len cap ps) (hs : Small ps) (hr : ptopF ps n = r) :
    Calls Try.prog 13 #[.slice a len cap, .int .i64 n] w (GaveL w r) := by
  have HI := Lib.hid h
  have HS := Lib.hid hs
  clear h hs
  obtain ⟨v, hv⟩ : ∃ v, fitsB ps n = v := ⟨_, rfl⟩
  have hn : v = true → 1 ≤ n ∧ n ≤ 5 := fun e => by subst e; obtain ⟨_, h1, h5, _⟩ := fits_parts hv; exact ⟨h1, h5⟩
  have HV := Lib.hid hv
  have HR0 := Lib.hid hr
  clear hv hr
  go_enter Try.func13, Try.ntmps13
  go_wp2_with fail
  refine (newPairTable_as _ len cap ps n v _ HI.out HS.out HV.out).mono ?_
  rintro e1 w1 (⟨rfl, rfl, hb1⟩ | ⟨rfl, g, rfl, hT, hb1⟩)
  · have B1 := Lib.hid hb1
    have e : Hid (r = []) := by rw [Hid, ← HR0.out, ptopF, HV.out]; rfl
    clear hb1 hn
    go_wp2
    go_ret
    exact ⟨none, 0, by rw [e.out]; rfl, by rw [e.out]; exact ⟨rfl, .inl ⟨rfl, rfl⟩⟩, B1.out⟩
  · obtain ⟨h1, h5⟩ := hn rfl
    obtain ⟨N, rfl⟩ : ∃ N : Nat, n = (N : Int) := ⟨n.toNat, by omega⟩
    rw [Int.toNat_natCast] at hT
    have e : Hid (candTo (overB (fun x y => reachL (pairF ps) N x y) N) N = r) := by rw [Hid, over_top, ← HR0.out, ptopF, HV.out]; rfl
    have HR := Lib.hid (holds_row hT (by omega))
    have B1 := Lib.hid hb1
    clear hb1 hn hT
    go_wp2_with fail
    refine (strongB_any N _ _ _ _ (pairF ps) _ holds_ent holds1_ent HR.out (by omega) (by omega)).mono ?_
    rintro e2 w2 ⟨gt, G, rfl, hT2, -, hb2⟩
    have B2 := Lib.hid (B1.out.trans (hb2.mono B1.out.size))
    obtain ⟨w3, hw3⟩ : ∃ w3, w2.alloc (.cells #[.slice (some ⟨gt, 0, none⟩) N N] 53) = w3 := ⟨_, rfl⟩
    have hB3 : Below w2.heap.size w2 w3 := hw3 ▸ (Below.refl _ w2).alloc (Nat.le_refl _) _
    have c3 : w3.cell? ⟨w2.heap.size, 0, none⟩ = some (.slice (some ⟨gt, 0, none⟩) N N) := hw3 ▸ cell_first w2 _ _
    have l3 : w2.heap.size < w3.heap.size := by rw [← hw3, World.size_alloc]; omega
    have HR3 := Lib.hid (lead_row (hT2.under hB3) (by omega) c3 l3)
    have B3 := Lib.hid (B2.out.trans (hB3.mono B2.out.size))
    clear hT2 hb2 HR c3 hB3
    go_wp2_with fail
    refine (over_any N _ _ _ _ (fun x y => reachL (pairF ps) N x y) r _ lead_ent lead1_ent HR3.out (by omega) e.out).mono ?_
    rintro e2 w4 ⟨ao, co, rfl, ho, hb4⟩
    have HO := Lib.hid (World.ownsRow.mono ho B3.out.size)
    have B4 := Lib.hid (B3.out.trans (hb4.mono B3.out.size))
    clear ho hb4 HR3
    go_wp2
    go_ret
    exact ⟨ao, co, rfl, HO.out, B4.out⟩

set_option maxRecDepth 100000 in
set_option maxHeartbeats 4000000 in
/-- **impl.PairBest**. -/
theorem implPairBest_as (a : Option Addr) (len cap : Nat) (ps : List Pl) (n : Int) (r : List Int) (w : World) (h : IsPiles w a len cap ps) (hs : Small ps) (hr : pbestF ps n = r) :
    Calls Try.prog 24 #[.slice a len cap, .int .i64 n] w (GaveL w r) := by
  have HI := Lib.hid h
  have HS := Lib.hid hs
  clear h hs
  obtain ⟨v, hv⟩ : ∃ v, fitsB ps n = v := ⟨_, rfl⟩
  have hn : v = true → 1 ≤ n ∧ n ≤ 5 := fun e => by subst e; obtain ⟨_, h1, h5, _⟩ := fits_parts hv; exact ⟨h1, h5⟩
  have HV := Lib.hid hv
  have HR0 := Lib.hid hr
  clear hv hr
  go_enter Try.func24, Try.ntmps24
  go_wp2_with fail
  refine (implPairPaths_as _ len cap ps n v _ HI.out HS.out HV.out).mono ?_
  rintro e1 w1 (⟨rfl, rfl, hb1⟩ | ⟨rfl, gt, G, rfl, hT2, -, hb1⟩)
  · have B1 := Lib.hid (hb1.alloc hb1.size (.cells #[.slice none 0 0] 33))
    have e : Hid (r = []) := by rw [Hid, ← HR0.out, pbestF, HV.out]; rfl
    clear hb1 hn
    go_wp2
    go_ret
    exact ⟨none, 0, by rw [e.out]; rfl, by rw [e.out]; exact ⟨rfl, .inl ⟨rfl, rfl⟩⟩, B1.out⟩
  · obtain ⟨h1, h5⟩ := hn rfl
    obtain ⟨N, rfl⟩ : ∃ N : Nat, n = (N : Int) := ⟨n.toNat, by omega⟩
    rw [Int.toNat_natCast] at hT2
    have e : Hid (candTo (overB (fun x y => decide (pathL (pairF ps) N y x ≤ pathL (pairF ps) N x y)) N) N = r) := by rw [Hid, over_best, ← HR0.out, pbestF, HV.out]; rfl
    have B2 := Lib.hid hb1
    rw [Int.toNat_natCast]
    obtain ⟨w3, hw3⟩ : ∃ w3, w1.alloc (.cells #[.slice (some ⟨gt, 0, none⟩) N N] 33) = w3 := ⟨_, rfl⟩
    have hB3 : Below w1.heap.size w1 w3 := hw3 ▸ (Below.refl _ w1).alloc (Nat.le_refl _) _
    have c3 : w3.cell? ⟨w1.heap.size, 0, none⟩ = some (.slice (some ⟨gt, 0, none⟩) N N) := hw3 ▸ cell_first w1 _ _
    have l3 : w1.heap.size < w3.heap.size := by rw [← hw3, World.size_alloc]; omega
    have HR3 := Lib.hid (best_row (hT2.under hB3) (by omega) c3 l3)
    have B3 := Lib.hid (B2.out.trans (hB3.mono B2.out.size))
    clear hT2 hb1 c3 hB3 hn
    go_wp2_with fail
    refine (over_any N _ _ _ _ (fun x y => decide (pathL (pairF ps) N y x ≤ pathL (pairF ps) N x y)) r _ best_ent best1_ent HR3.out (by omega) e.out).mono ?_
    rintro e2 w4 ⟨ao, co, rfl, ho, hb4⟩
    have HO := Lib.hid (World.ownsRow.mono ho B3.out.size)
    have B4 := Lib.hid (B3.out.trans (hb4.mono B3.out.size))
    clear ho hb4 HR3
    go_wp2
    go_ret
    exact ⟨ao, co, rfl, HO.out, B4.out⟩

end Go.Proofs.Ytaaamidkfhabnab
