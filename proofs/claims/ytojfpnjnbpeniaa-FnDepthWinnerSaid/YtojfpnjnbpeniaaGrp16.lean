/-
  impl.pairTable.add and impl.newPairTable: the table of preferences of piles that fit.
  impl.newPairTable: the table of preferences of piles that fit, or nothing.
  impl.writeOut at int: what rows tell, in memory of the call's own. For every function value whose rows are closures over two variables.
  Warshall's loops in place: what the table holds within a stage. Of no memory.
  impl.strongestPaths at int: in memory of the call's own, for every function value whose rows are closures over two variables.
  impl.PairCounts, impl.PairPaths and impl.PairWinner: for every list of piles and every number of candidates.
-/
import Derived.Test.YtojfpnjnbpeniaaGrp15
import Derived.Test.YtojfpnjnbpeniaaGrp11
import Derived.Test.YtojfpnjnbpeniaaGrp14
import Derived.Deep.RegionWith
import Derived.Test.YtojfpnjnbpeniaaGrp4
import Derived.Test.YtojfpnjnbpeniaaGrp8
namespace Go.Proofs.Ytojfpnjnbpeniaa
open Go.RowKit

attribute [local go_sem] Oper.semAt_some

/-- A table of the call's own. -/
structure OwnPT (w : World) (g n : Nat) (M : Nat → Nat → Int) : Prop where
  is : IsPT w g n M
  free : ∀ o, w.frozen? ⟨g, o, none⟩ = false
theorem OwnPT.below {w w' : World} {g n : Nat} {M : Nat → Nat → Int} (h : OwnPT w g n M) (hb : Below w.heap.size w w') : OwnPT w' g n M :=
  ⟨h.is.below hb, fun o => (hb.frozen (p := ⟨g, o, none⟩) h.is.lt).trans (h.free o)⟩
theorem cell_inj {x y x' y' : Nat} (hy : y < 5) (hy' : y' < 5) (h : 1 + x * 5 + y = 1 + x' * 5 + y') : x = x' ∧ y = y' := by omega
theorem OwnPT.set {w : World} {g n : Nat} {M : Nat → Nat → Int} (h : OwnPT w g n M) (hn : n ≤ 5) {x y : Nat} (hx : x < n) (hy : y < n) (z : Int) :
    OwnPT (w.setCell ⟨g, 1 + x * 5 + y, none⟩ (.int .i64 z)) g n (fun i j => if i = x ∧ j = y then z else M i j) := by
  have hset : (w.setCell ⟨g, 1 + x * 5 + y, none⟩ (.int .i64 z)).cell? ⟨g, 1 + x * 5 + y, none⟩ = some (.int .i64 z) := World.cell?_setCell_same _ _ _ (h.is.cell x y hx hy)
  refine ⟨⟨by simpa [World.setCell] using h.is.lt, ?_, fun i j hi hj => ?_⟩, fun o => by rw [World.frozen?_setCell]; exact h.free o⟩
  · rw [World.cell?_setCell_other _ _ _ _ (by intro e; injection e with _ e; omega)]; exact h.is.num
  · by_cases e : i = x ∧ j = y
    · obtain ⟨rfl, rfl⟩ := e
      rw [hset, if_pos ⟨rfl, rfl⟩]
    · rw [if_neg e, World.cell?_setCell_other _ _ _ _ (by
        intro e2
        injection e2 with _ e2
        exact e (cell_inj (by omega) (by omega) e2.symm))]
      exact h.is.cell i j hi hj
theorem OwnPT.congr {w : World} {g n : Nat} {M M' : Nat → Nat → Int} (h : OwnPT w g n M) (he : ∀ i j, i < n → j < n → M i j = M' i j) : OwnPT w g n M' :=
  ⟨⟨h.is.lt, h.is.num, fun i j hi hj => by rw [← he i j hi hj]; exact h.is.cell i j hi hj⟩, h.free⟩

/-- What add leaves: the rows before x, and the first y cells of row x, have the ballots, too. -/
def addF (zs : List Int) (m : Int) (F : Nat → Nat → Int) (x y : Nat) : Nat → Nat → Int := fun i j => if (i < x ∨ (i = x ∧ j < y)) ∧ prefB zs (i : Int) (j : Int) = true then F i j + m else F i j
theorem addF_start (zs : List Int) (m : Int) (F : Nat → Nat → Int) (i j : Nat) : addF zs m F 0 0 i j = F i j := by unfold addF; rw [if_neg (by rintro ⟨h, _⟩; omega)]
theorem addF_at (zs : List Int) (m : Int) (F : Nat → Nat → Int) (x y : Nat) : addF zs m F x y x y = F x y := by unfold addF; rw [if_neg (by rintro ⟨h, _⟩; omega)]
theorem addF_hit {zs : List Int} {m : Int} {F : Nat → Nat → Int} {x y : Nat} (h : prefB zs (x : Int) (y : Int) = true) (i j : Nat) : (if i = x ∧ j = y then F x y + m else addF zs m F x y i j) = addF zs m F x (y + 1) i j := by
  unfold addF
  by_cases e : i = x ∧ j = y
  · obtain ⟨rfl, rfl⟩ := e
    rw [if_pos ⟨rfl, rfl⟩, if_pos ⟨by omega, h⟩]
  · rw [if_neg e]
    by_cases e2 : (i < x ∨ (i = x ∧ j < y)) ∧ prefB zs (i : Int) (j : Int) = true
    · rw [if_pos e2, if_pos ⟨by omega, e2.2⟩]
    · rw [if_neg e2, if_neg (fun g => e2 ⟨by omega, g.2⟩)]
theorem addF_miss {zs : List Int} {m : Int} {F : Nat → Nat → Int} {x y : Nat} (h : prefB zs (x : Int) (y : Int) = false) (i j : Nat) : addF zs m F x y i j = addF zs m F x (y + 1) i j := by
  unfold addF
  by_cases e : i = x ∧ j = y
  · obtain ⟨rfl, rfl⟩ := e
    rw [if_neg (by rintro ⟨h, _⟩; omega), if_neg (by rintro ⟨_, h2⟩; rw [h] at h2; cases h2)]
  · by_cases e2 : (i < x ∨ (i = x ∧ j < y)) ∧ prefB zs (i : Int) (j : Int) = true
    · rw [if_pos e2, if_pos ⟨by omega, e2.2⟩]
    · rw [if_neg e2, if_neg (fun g => e2 ⟨by omega, g.2⟩)]
theorem addF_row (zs : List Int) (m : Int) (F : Nat → Nat → Int) (x n i j : Nat) (hj : j < n) : addF zs m F x n i j = addF zs m F (x + 1) 0 i j := by
  unfold addF
  by_cases e2 : (i < x ∨ (i = x ∧ j < n)) ∧ prefB zs (i : Int) (j : Int) = true
  · rw [if_pos e2, if_pos ⟨by omega, e2.2⟩]
  · rw [if_neg e2, if_neg (fun g => e2 ⟨by omega, g.2⟩)]
theorem addF_end {zs : List Int} {m : Int} {F : Nat → Nat → Int} {n i j : Nat} (hi : i < n) : addF zs m F n 0 i j = F i j + (if prefB zs (i : Int) (j : Int) = true then m else 0) := by
  unfold addF
  by_cases e : prefB zs (i : Int) (j : Int) = true
  · rw [if_pos ⟨.inl hi, e⟩, if_pos e]
  · rw [if_neg (fun g => e g.2), if_neg e, Int.add_zero]

set_option maxRecDepth 100000 in
set_option maxHeartbeats 4000000 in
/-- **add**. -/
theorem add_any (g n gb : Nat) (a : Option Addr) (c : Nat) (zs : List Int) (m : Int) (F : Nat → Nat → Int) (w : World) (hP : OwnPT w g n F) (hI : w.ownsRow gb 3 1 (.slice a zs.length c) zs.length (zs.map (Value.int .i64))) (hg : g < gb) (hz : zs.length ≤ 5) (hn : n ≤ 5) (hm : 0 ≤ m ∧ m ≤ 99) (hF : ∀ i j, 0 ≤ F i j ∧ F i j ≤ 1188) :
    Calls Try.prog 101 #[.pointer (some ⟨g, 0, none⟩), .slice a zs.length c, .int .i64 m] w fun e w' => e = .returned (.tuple #[]) ∧ OwnPT w' g n (addF zs m F n 0) ∧ Below g w w' := by
  have HP := Lib.hid hP
  have HI := Lib.hid hI
  have HF := Lib.hid hF
  have hnum := hP.is.num
  have HP0 : Hid (OwnPT w g n (addF zs m F 0 0)) := hP.congr (fun i j _ _ => (addF_start zs m F i j).symm)
  clear hP hI hF
  go_enter Try.func101, Try.ntmps101
  go_wp2
  clear hnum
  go_loopw [6, 7, 12, 19] (fun _ _ xv _ wr => ∃ x : Nat, x ≤ n ∧ xv = .int .i64 (x : Int) ∧ Hid (OwnPT wr g n (addF zs m F x 0)) ∧ Hid (wr.ownsRow gb 3 1 (.slice a zs.length c) zs.length (zs.map (Value.int .i64))) ∧ Below g w wr) (fun _ _ xv _ _ => n - (intOf xv).toNat)
  case atStart => exact ⟨0, Nat.zero_le _, rfl, HP0, HI, Below.refl _ _⟩
  case round =>
    clear HP0 HI HP
    obtain ⟨x, hx, rfl, hPx, hIx, hB⟩ := hrel
    by_cases hlt : x < n
    · have hnum := hPx.out.is.num
      go_wp2
      clear hnum
      go_loopw [7, 19] (fun _ yv wr => ∃ y : Nat, y ≤ n ∧ yv = .int .i64 (y : Int) ∧ Hid (OwnPT wr g n (addF zs m F x y)) ∧ Hid (wr.ownsRow gb 3 1 (.slice a zs.length c) zs.length (zs.map (Value.int .i64))) ∧ Below g w wr) (fun _ yv _ => n - (intOf yv).toNat)
      case atStart => exact ⟨0, Nat.zero_le _, rfl, hPx, hIx, hB⟩
      case round =>
        clear hPx hIx hB
        obtain ⟨y, hy, rfl, hPy, hIy, hB⟩ := hrel
        by_cases hlt2 : y < n
        · obtain ⟨u, hu⟩ : ∃ u, prefB zs (x : Int) (y : Int) = u := ⟨_, rfl⟩
          have HU := Lib.hid hu
          clear hu
          go_wp2_with fail
          refine (implPrefers_any _ _ _ zs _ _ _ (IsInts.of_owned hIy.out (by omega))).mono ?_
          rintro e w5 ⟨he, hb5⟩
          rw [HU.out] at he
          subst he
          have P5 := Lib.hid (hPy.out.below hb5)
          have I5 := Lib.hid (owns_under hIy.out hb5)
          have B5 : Below g w w5 := hB.trans (hb5.mono (by have := hPy.out.is.lt; omega))
          clear hPy hIy hB hb5
          cases u
          · go_wp2
            go_roundw
            case rel => exact ⟨y + 1, by omega, by go_num, P5.out.congr (fun i j _ _ => addF_miss HU.out i j), I5, B5⟩
            case measure => simp [intOf]; omega
          · have cxy := P5.out.is.cell x y hlt hlt2
            rw [addF_at] at cxy
            have fxy := P5.out.free (1 + x * 5 + y)
            obtain ⟨z, hz0⟩ : ∃ z, F x y = z := ⟨_, rfl⟩
            have hzb : 0 ≤ z ∧ z ≤ 1188 := by rw [← hz0]; exact HF.out x y
            rw [hz0] at cxy
            have P6 := P5.out.set hn hlt hlt2 (z + m)
            have P7 : Hid (OwnPT (w5.drew.setCell ⟨g, 1 + x * 5 + y, none⟩ (.int .i64 (z + m))) g n (addF zs m F x (y + 1))) :=
              (P6.congr (fun i j _ _ => by rw [← hz0]; exact addF_hit HU.out i j)).below (Below.refl _ _).drew
            have B7 : Below g w (w5.drew.setCell ⟨g, 1 + x * 5 + y, none⟩ (.int .i64 (z + m))) := (B5.setCell (p := ⟨g, 1 + x * 5 + y, none⟩) (Nat.le_refl _) _).drew
            have I7 : Hid ((w5.drew.setCell ⟨g, 1 + x * 5 + y, none⟩ (.int .i64 (z + m))).ownsRow gb 3 1 (.slice a zs.length c) zs.length (zs.map (Value.int .i64))) := by
              refine World.ownsRow.kept I5.out (row := some g) (w' := w5.drew.setCell ⟨g, 1 + x * 5 + y, none⟩ (.int .i64 (z + m))) ⟨rfl, rfl, rfl, by simp [World.setCell], fun k hk hne => Below.heap_setCell _ _ _ _ (by show k ≠ g; intro e; exact hne (by rw [e]))⟩ ?_
              cases hbl : (Value.slice a zs.length c).ownBlock with
              | none => exact .inl rfl
              | some j => right; intro e; injection e with e; have := (I5.out.lt j hbl).1; omega
            have hxi : (x : Int) < 5 := by omega
            have hyi : (y : Int) < 5 := by omega
            have cxyd : w5.drew.cell? ⟨g, 1 + x * 5 + y, none⟩ = some (.int .i64 z) := cxy
            have fxyd : w5.drew.frozen? ⟨g, 1 + x * 5 + y, none⟩ = false := fxy
            clear P6 P5 I5 B5 hz0 fxy
            go_wp2_with fail
            refine region_quiet_tail 14 (by kernel_rfl) (by kernel_rfl) ?_
            simp only [List.take_succ_cons, List.take_zero, List.drop_succ_cons, List.drop_zero]
            repeat (go_big_quiet_step (fail))
            refine wpQuiet_nil ?_
            generalize w5.drew = w6 at P7 B7 I7 cxyd fxyd ⊢
            go_wp2
            go_roundw
            case rel => exact ⟨y + 1, by omega, by go_num, P7, I7, B7⟩
            case measure => simp [intOf]; omega
        · obtain rfl : y = n := by omega
          go_wp2
          go_roundw
          case rel => exact ⟨x + 1, by omega, by go_num, hPy.out.congr (fun i j _ hj => addF_row zs m F x y i j hj), hIy, hB⟩
          case measure => simp [intOf]; omega
    · obtain rfl : x = n := by omega
      go_wp2
      go_end0
      exact ⟨rfl, hPx.out, hB⟩

end Go.Proofs.Ytojfpnjnbpeniaa

namespace Go.Proofs.Ytojfpnjnbpeniaa
open Go.RowKit

attribute [local go_sem] Oper.semAt_some

/-- A new table holds nothing. -/
theorem new_table (w : World) (n : Nat) (hn : n ≤ 5) (t : TypeId) : OwnPT (w.alloc (.cells #[.int .i64 (n : Int), .int .i64 0, .int .i64 0, .int .i64 0, .int .i64 0, .int .i64 0, .int .i64 0, .int .i64 0, .int .i64 0, .int .i64 0, .int .i64 0, .int .i64 0, .int .i64 0, .int .i64 0, .int .i64 0, .int .i64 0, .int .i64 0, .int .i64 0, .int .i64 0, .int .i64 0, .int .i64 0, .int .i64 0, .int .i64 0, .int .i64 0, .int .i64 0, .int .i64 0] t)) w.heap.size n (fun _ _ => 0) := by
  have hc : ∀ d, (w.alloc (.cells #[.int .i64 (n : Int), .int .i64 0, .int .i64 0, .int .i64 0, .int .i64 0, .int .i64 0, .int .i64 0, .int .i64 0, .int .i64 0, .int .i64 0, .int .i64 0, .int .i64 0, .int .i64 0, .int .i64 0, .int .i64 0, .int .i64 0, .int .i64 0, .int .i64 0, .int .i64 0, .int .i64 0, .int .i64 0, .int .i64 0, .int .i64 0, .int .i64 0, .int .i64 0, .int .i64 0] t)).cell? ⟨w.heap.size, d, none⟩ = _ := fun d => World.cell?_alloc_mark w _ t (0, 0) d
  refine ⟨⟨by simp, (hc 0).trans rfl, fun x y hx hy => (hc _).trans ?_⟩, fun o => ?_⟩
  · have h1 : x = 0 ∨ x = 1 ∨ x = 2 ∨ x = 3 ∨ x = 4 := by omega
    have h2 : y = 0 ∨ y = 1 ∨ y = 2 ∨ y = 3 ∨ y = 4 := by omega
    rcases h1 with rfl | rfl | rfl | rfl | rfl <;> rcases h2 with rfl | rfl | rfl | rfl | rfl <;> rfl
  · have hb := World.alloc_heap_new w (.cells #[.int .i64 (n : Int), .int .i64 0, .int .i64 0, .int .i64 0, .int .i64 0, .int .i64 0, .int .i64 0, .int .i64 0, .int .i64 0, .int .i64 0, .int .i64 0, .int .i64 0, .int .i64 0, .int .i64 0, .int .i64 0, .int .i64 0, .int .i64 0, .int .i64 0, .int .i64 0, .int .i64 0, .int .i64 0, .int .i64 0, .int .i64 0, .int .i64 0, .int .i64 0, .int .i64 0] t)
    simp only [World.frozen?, hb]
    simp

/-- What newPairTable returns. -/
def NewT (w : World) (ok : Bool) (n : Nat) (M : Nat → Nat → Int) (e : Ending) (w' : World) : Prop :=
  (ok = false ∧ e = .returned (.tuple #[.pointer none, .bool false]) ∧ Below w.heap.size w w') ∨
  (ok = true ∧ ∃ g, e = .returned (.tuple #[.pointer (some ⟨g, 0, none⟩), .bool true]) ∧ IsPT w' g n M ∧ Below w.heap.size w w')

set_option maxRecDepth 100000 in
set_option maxHeartbeats 4000000 in
/-- **newPairTable**. -/
theorem newPairTable_as (a : Option Addr) (len cap : Nat) (ps : List Pl) (n : Int) (v : Bool) (w : World) (h : IsPiles w a len cap ps) (hs : Small ps) (hv : fitsB ps n = v) :
    Calls Try.prog 71 #[.slice a len cap, .int .i64 n] w (NewT w v n.toNat (pairF ps)) := by
  have HI := Lib.hid h
  have HS := Lib.hid hs
  have H1 := Lib.hid h.1
  clear h hs
  obtain ⟨G0, hG⟩ : ∃ G, w.heap.size = G := ⟨_, rfl⟩
  cases v
  · have HV := Lib.hid hv; clear hv
    go_enter Try.func71, Try.ntmps71
    go_wp2_with fail
    refine (implFits_as _ len cap ps n false _ HI.out HS.out HV.out).mono ?_
    rintro e1 w1 ⟨rfl, hb1⟩
    go_wp2
    go_ret2
    exact .inl ⟨rfl, rfl, hb1⟩
  · obtain ⟨hp, hn1, hn5, -⟩ := fits_parts hv
    obtain ⟨N, rfl⟩ : ∃ N : Nat, n = (N : Int) := ⟨n.toNat, by omega⟩
    have hl12 : len ≤ 12 := by have := (pilesB_pos hp).2.2.2.2; rw [H1.out] at this; exact this
    have HV := Lib.hid hv
    have HP := Lib.hid hp
    clear hv hp
    have hN1 : 1 ≤ N := by omega
    have hN5 : N ≤ 5 := by omega
    go_enter Try.func71, Try.ntmps71
    go_wp2_with fail
    refine (implFits_as _ len cap ps (N : Int) true _ HI.out HS.out HV.out).mono ?_
    rintro e1 w1 ⟨rfl, hb1⟩
    have B1 := Lib.hid (hG ▸ hb1)
    obtain ⟨g, hg⟩ : ∃ g, w1.heap.size = g := ⟨_, rfl⟩
    have hGg : G0 ≤ g := by have := hb1.size; rw [hG, hg] at this; exact this
    have hT := new_table w1 N hN5 127
    obtain ⟨w2, hw2⟩ : ∃ w2, w1.alloc (.cells #[.int .i64 (N : Int), .int .i64 0, .int .i64 0, .int .i64 0, .int .i64 0, .int .i64 0, .int .i64 0, .int .i64 0, .int .i64 0, .int .i64 0, .int .i64 0, .int .i64 0, .int .i64 0, .int .i64 0, .int .i64 0, .int .i64 0, .int .i64 0, .int .i64 0, .int .i64 0, .int .i64 0, .int .i64 0, .int .i64 0, .int .i64 0, .int .i64 0, .int .i64 0, .int .i64 0] 127) = w2 := ⟨_, rfl⟩
    have hB2 : Below g w1 w2 := hw2 ▸ (Below.refl g w1).alloc (by omega) _
    rw [hw2, hg] at hT
    have T2 : Hid (OwnPT w2 g N (pairF (ps.take 0))) := hT.congr (fun i j _ _ => by rw [List.take_zero]; rfl)
    clear hT hb1
    go_wp2
    go_loopw [8, 9, 10, 20] (fun _ _ _ iv wr => ∃ i : Nat, i ≤ len ∧ iv = .int .i64 (i : Int) ∧ Hid (OwnPT wr g N (pairF (ps.take i))) ∧ Below g w1 wr) (fun _ _ _ iv _ => len - (intOf iv).toNat)
    case atStart => exact ⟨0, Nat.zero_le _, rfl, T2, hB2⟩
    case round =>
      clear T2 hB2 hw2
      obtain ⟨i, hil, rfl, hT, hB⟩ := hrel
      by_cases hlt : i < len
      · have hBw : Below w.heap.size w wr := hG.symm ▸ B1.out.trans (hB.mono hGg)
        obtain ⟨b, off, rfl, hb, c0, c1⟩ := (HI.out.below hBw).at_text hlt
        obtain ⟨t, ht⟩ : ∃ t, tAt ps i = t := ⟨_, rfl⟩
        obtain ⟨m, hm⟩ : ∃ m, mAt ps i = m := ⟨_, rfl⟩
        obtain ⟨pl, hpl⟩ : ∃ pl, parseL t = pl := ⟨_, rfl⟩
        have hst : t.size ≤ 1048600 := by rw [← ht]; exact HS.out i
        have hl5 : pl.length ≤ 5 := by rw [← hpl]; exact parseL_short t
        have hm99 : 0 ≤ m ∧ m ≤ 99 := by rw [← hm]; exact mAt_valid HP.out i
        have HOK : Hid (validB (nums t) 5 = true) := by
          have := (pilesB_pos HP.out).2.2.2.1 _ (pile_mem (ps := ps) (k := i) (by rw [H1.out]; exact hlt))
          unfold Hid; rw [← ht]; exact this
        rw [ht] at c0
        rw [hm] at c1
        have HT0 := Lib.hid ht
        have HM0 := Lib.hid hm
        have HPL := Lib.hid hpl
        have hglt := hT.out.is.lt
        have hips : Hid (i < ps.length) := by unfold Hid; rw [H1.out]; exact hlt
        clear ht hpl hm hBw
        go_wp2_with fail
        refine (implParse_as t pl true _ hst HPL.out HOK.out).mono ?_
        rintro e w4 ⟨a4, c4, rfl, ho4, hb4⟩
        have hBx : Below wr.heap.size wr w4 := ((Below.refl _ _).alloc (Nat.le_refl _) _).trans (hb4.mono (by simp))
        have T4 := Lib.hid (hT.out.below hBx)
        have cm : w4.cell? ⟨wr.heap.size, 1, none⟩ = some (.int .i64 m) := (hb4.cell (p := ⟨wr.heap.size, 1, none⟩) (by simp)).trans ((World.cell?_alloc_mark wr _ _ (0, 0) 1).trans rfl)
        obtain ⟨gb, hgb, hog⟩ : ∃ gb, g < gb ∧ w4.ownsRow gb 3 1 (.slice a4 pl.length c4) pl.length (pl.map (Value.int .i64)) := ⟨_, by simp; omega, ho4⟩
        have HOG := Lib.hid hog
        have B4 : Below g w1 w4 := hB.trans (hBx.mono (by omega))
        clear ho4 hb4 hog hBx hT hB c0 c1
        go_wp2_with fail
        refine (add_any g N gb _ _ pl m (pairF (ps.take i)) _ T4.out HOG.out hgb hl5 hN5 hm99 (fun x y => pairF_most HP.out i x y)).mono ?_
        rintro e w5 ⟨rfl, hT5, hb5⟩
        have T6 : Hid (OwnPT w5 g N (pairF (ps.take (i + 1)))) := hT5.congr (fun x y hx _ => by rw [addF_end hx, pairF_next hips.out, HT0.out, HPL.out, HM0.out])
        have B6 : Below g w1 w5 := B4.trans hb5
        clear hT5 hb5 T4 cm
        go_wp2
        go_roundw
        case rel => exact ⟨i + 1, by omega, by go_num, T6, B6⟩
        case measure => simp [intOf]; omega
      · obtain rfl : i = len := by omega
        have hT9 : Hid (IsPT wr g N (pairF ps)) := by
          have := hT.out.is; rw [List.take_of_length_le (by rw [H1.out]; exact Nat.le_refl _)] at this; exact this
        go_wp2
        go_ret2
        exact .inr ⟨rfl, g, rfl, by rw [Int.toNat_natCast]; exact hT9.out, hG.symm ▸ B1.out.trans (hB.mono hGg)⟩

end Go.Proofs.Ytojfpnjnbpeniaa

namespace Go.Proofs.Ytojfpnjnbpeniaa
open Go.RowKit

attribute [local go_sem] Oper.semAt_some

theorem Tb.slot {E R : TypeId} {w : World} {base g len cap k n : Nat} {G C : Nat → Nat} {F : Nat → Nat → Value} (h : Tb E R w base (some ⟨g, 0, none⟩) len cap k n G C F) {j : Nat} (hj : j < len) : ∃ v, w.cell? ⟨g, j, none⟩ = some v ∧ w.frozen? ⟨g, j, none⟩ = false := by
  obtain ⟨V, h1, _⟩ := h.outer
  have hl := h1.1
  exact ⟨V[j]'(by omega), by rw [h1.cellAt j (by omega)]; exact List.getElem?_eq_getElem _, h1.frozenAt j⟩
theorem Near.set {base lo hi b o : Nat} {w : World} {v : Value} (h1 : base ≤ b) (h2 : b < lo ∨ hi ≤ b) : Near base lo hi w (w.setCell ⟨b, o, none⟩ v) :=
  ⟨by simp [World.setCell], fun k hk => Below.heap_setCell _ _ _ _ (by show k ≠ b; omega)⟩
theorem same_cap {n k : Nat} : (fun j : Nat => if j = k then n else n) = fun _ => n := by funext j; split <;> rfl

/-- The rows before x, and the first y cells of row x, are told. -/
def toldI (T : Nat → Nat → Int) (x y : Nat) : Nat → Nat → Int := fun i j => if i < x ∨ j < y then T i j else 0
theorem toldI_next {T : Nat → Nat → Int} {x y i j : Nat} (hi : i < x + 1) : (if i = x ∧ j = y then Value.int .i64 (T x y) else Value.int .i64 (toldI T x y i j)) = Value.int .i64 (toldI T x (y + 1) i j) := by
  unfold toldI
  by_cases e : i = x ∧ j = y
  · obtain ⟨rfl, rfl⟩ := e
    rw [if_pos ⟨rfl, rfl⟩, if_pos (by omega)]
  · rw [if_neg e]
    by_cases e2 : i < x ∨ j < y
    · rw [if_pos e2, if_pos (by omega)]
    · rw [if_neg e2, if_neg (by omega)]
theorem zerosI_made (n : Nat) (T : Nat → Nat → Int) (x : Nat) : (madeCells (show Value from (.int .i64 0)).cells (n * 1)).toList = (List.range n).map (fun j => Value.int .i64 (toldI T x 0 x j)) := by
  rw [show (show Value from (.int .i64 0)).cells = #[(.int .i64 0)] from rfl, toList_madeCells_one, Nat.mul_one]
  apply List.ext_getElem
  · simp
  · intro i h1 h2; simp [toldI]

set_option maxRecDepth 100000 in
set_option maxHeartbeats 4000000 in
/-- **writeOut[int]**. -/
theorem writeI_any (n k k2 : Nat) (first cap : Array Value) (T : Nat → Nat → Int) (w : World) (hk : Ent k) (hk2 : Ent k2) (hrow : RowOf w k first cap n k2 (fun x y => .int .i64 (T x y))) (hn : n ≤ 5) :
    Calls Try.prog 72 #[.int .i64 (n : Int), .func (.func k) first cap] w fun e w' => ∃ g G, e = .returned (.slice (some ⟨g, 0, none⟩) n n) ∧ Tb 3 26 w' w.heap.size (some ⟨g, 0, none⟩) n n n n G (fun _ => n) (fun x y => .int .i64 (T x y)) ∧ (∀ j, j < n → g < G j) ∧ Below w.heap.size w w' := by
  obtain ⟨i0, hi, hz0, hz1, hz2⟩ := info_parts int_info
  obtain ⟨i1, hi1, hy0, hy1, hy2⟩ := info_parts slice_info
  have HR := Lib.hid hrow
  unfold Ent at hk hk2
  clear hrow
  go_enter Try.func72, Try.ntmps72
  go_wp2_with (at_make; refine wpList_make_full _ rfl _ _ 45 rfl w.heap.size 26 i1 (.slice none 0 0) 1 Try.underlying45 hi1 hy0 hy1 .i64 .i64 _ _ n rfl rfl rfl rfl (by rw [hy2]; omega) (by unfold maxLen; omega) (Nat.le_refl _) ?_; intro w1 hown hgrow)
  obtain ⟨g, hg⟩ : ∃ g, w.heap.size = g := ⟨_, rfl⟩
  rw [hg] at hown ⊢
  have hB1 : Below g w w1 := ((Below.refl g w).grown hgrow (by omega) (fun k e => by cases e))
  have HG := Lib.hid hg
  have HT0 : Hid (∃ G, Tb 3 26 w1 g (some ⟨g, 0, none⟩) n n 0 n G (fun _ => n) (fun x y => .int .i64 (T x y)) ∧ ∀ j, j < 0 → g < G j) := ⟨fun _ => 0, Tb.start hown, fun j hj => by omega⟩
  clear hown hgrow hg
  go_wp2
  go_loopw [6, 7, 8, 13, 29] (fun _ _ _ xv _ wr => ∃ x : Nat, x ≤ n ∧ xv = .int .i64 (x : Int) ∧ Hid (∃ G, Tb 3 26 wr g (some ⟨g, 0, none⟩) n n x n G (fun _ => n) (fun x y => .int .i64 (T x y)) ∧ ∀ j, j < x → g < G j) ∧ Below g w wr) (fun _ _ _ xv _ _ => n - (intOf xv).toNat)
  case atStart => exact ⟨0, Nat.zero_le _, rfl, HT0, hB1⟩
  case round =>
    clear HT0 hB1
    rename World => wx
    obtain ⟨x, hx, rfl, hT, hB⟩ := hrel
    by_cases hlt : x < n
    · obtain ⟨G, hT0, hGg⟩ := hT.out
      have hgl : g < wx.heap.size := by
        obtain ⟨g', e1, _, e2, _⟩ := hT0.head (by omega)
        injection e1 with e1
        injection e1 with e1
        omega
      go_wp2_with fail
      refine (HR.out x hlt _ (by rw [HG.out]; exact hB)).mono ?_
      rintro e w3 ⟨p, q, rfl, hrf, hb3⟩
      have hT3 := hT0.under hb3
      have hB3 : Below g w w3 := hB.trans (hb3.mono (by have := hB.size; rw [HG.out] at this; exact this))
      have HRF := Lib.hid hrf
      have hg3 : g ≤ w3.heap.size := by have := hB3.size; rw [HG.out] at this; exact this
      have HT3 := Lib.hid hT3
      have hs3 := hb3.size
      clear hT0 hT hB hb3 hrf hT3
      go_wp2_with (at_make; refine wpList_make_full _ rfl _ _ 26 rfl g 3 i0 (.int .i64 0) 1 Try.underlying26 hi hz0 hz1 .i64 .i64 _ _ n rfl rfl rfl rfl (by rw [hz2]; omega) (by unfold maxLen; omega) hg3 ?_; intro w4 hown hgrow; have hb34 : Below w3.heap.size w3 w4 := (Below.refl _ w3).grown hgrow (Nat.le_refl _) (fun k e => by cases e); obtain ⟨v0, hc0, hf0⟩ := (HT3.out.under hb34).slot hlt)
      rw [zerosI_made n T x] at hown
      have T4 := HT3.out.under hb34
      have hlast : ∀ j, j < x → G j < w3.heap.size := fun j hj => (HT3.out.lt hj).2
      have hT5 := T4.store (by decide) hlt hown hlast
      rw [same_cap] at hT5
      have hT6 : Tb 3 26 (w4.setCell ⟨g, x, none⟩ (.slice (some ⟨w3.heap.size, 0, none⟩) n n)) g (some ⟨g, 0, none⟩) n n (x + 1) n (fun j => if j = x then w3.heap.size else G j) (fun _ => n) (fun i j => Value.int .i64 (toldI T x 0 i j)) := hT5.congr (fun i j hi' _ => by
        by_cases e : i = x
        · subst e; simp
        · simp only [if_neg e]; unfold toldI; rw [if_pos (.inl (by omega))])
      have hb35 : Below g w3 w4 := hb34.mono hg3
      have B5 : Below g w (w4.setCell ⟨g, x, none⟩ (.slice (some ⟨w3.heap.size, 0, none⟩) n n)) := (hB3.trans hb35).setCell (p := ⟨g, x, none⟩) (Nat.le_refl _) _
      have N5 : Hid (Near g wx.heap.size w3.heap.size w3 (w4.setCell ⟨g, x, none⟩ (.slice (some ⟨w3.heap.size, 0, none⟩) n n))) := ((Near.of_below hb34 hg3 (Nat.le_refl _)).trans (Near.set (b := g) (Nat.le_refl _) (by omega)))
      obtain ⟨gr, hgr⟩ : ∃ gr, w3.heap.size = gr := ⟨_, rfl⟩
      rw [hgr] at hT6 B5 N5 hs3 ⊢
      have HT6 := Lib.hid hT6
      have HGR : Hid (∀ j, j < x + 1 → g < (if j = x then gr else G j)) := fun j hj => by
        by_cases e : j = x
        · rw [if_pos e]; omega
        · rw [if_neg e]; exact hGg j (by omega)
      obtain ⟨G', hG'⟩ : ∃ G' : Nat → Nat, (fun j => if j = x then gr else G j) = G' := ⟨_, rfl⟩
      rw [hG'] at HT6
      have HGR : Hid (∀ j, j < x + 1 → g < G' j) := fun j hj => by rw [← hG']; exact HGR.out j hj
      have hG'x : G' x = gr := by rw [← hG']; simp
      clear hT5 hT6 T4 hlast hown hgrow hb34 hc0 hf0 hB3 hb35 hGg HT3 hgl hG' hg3
      have c5 := HT6.out.row_cell (Nat.lt_succ_self x) (by omega)
      rw [hG'x] at c5
      go_wp2
      clear c5
      go_loopw [8, 29] (fun _ yv wr => ∃ y : Nat, y ≤ n ∧ yv = .int .i64 (y : Int) ∧ Hid (Tb 3 26 wr g (some ⟨g, 0, none⟩) n n (x + 1) n G' (fun _ => n) (fun i j => Value.int .i64 (toldI T x y i j))) ∧ Hid (Near g wx.heap.size gr w3 wr) ∧ Below g w wr) (fun _ yv _ => n - (intOf yv).toNat)
      case atStart => exact ⟨0, Nat.zero_le _, rfl, HT6, N5, B5⟩
      case round =>
        clear HT6 N5 B5
        rename World => w5
        obtain ⟨y, hy, rfl, hT7, hN, hB7⟩ := hrel
        by_cases hlt2 : y < n
        · have rx := hT7.out.row_cell (Nat.lt_succ_self x) (by omega)
          have cx := hT7.out.cell (Nat.lt_succ_self x) hlt2
          have fx := hT7.out.frozen (Nat.lt_succ_self x) y
          rw [hG'x] at rx cx fx
          have hset := hT7.out.set (by decide) (Nat.lt_succ_self x) hlt2 (Value.int .i64 (T x y))
          obtain ⟨v, hv⟩ : ∃ v, T x y = v := ⟨_, rfl⟩
          have T8 : Hid (Tb 3 26 (w5.setCell ⟨G' x, y, none⟩ (Value.int .i64 v)) g (some ⟨g, 0, none⟩) n n (x + 1) n G' (fun _ => n) (fun i j => Value.int .i64 (toldI T x (y + 1) i j))) := by
            rw [hv] at hset
            exact hset.1.congr (fun i j hi' _ => by rw [← toldI_next hi', hv])
          have hgG := (hT7.out.lt (Nat.lt_succ_self x)).1
          rw [hG'x] at T8 hgG
          have B8 : Below g w (w5.setCell ⟨gr, y, none⟩ (Value.int .i64 v)) := hB7.setCell (p := ⟨gr, y, none⟩) hgG _
          have N8 : Hid (Near g wx.heap.size gr w3 (w5.setCell ⟨gr, y, none⟩ (Value.int .i64 v))) := hN.out.trans (Near.set (b := gr) hgG (by omega))
          have HC : Hid (∀ u : World, u.heap = w5.heap → Calls Try.prog k2 #[.int .i64 (y : Int), .pointer (some ⟨p, 0, none⟩), .pointer (some ⟨q, 0, none⟩)] u fun e w'' => e = .returned (Value.int .i64 v) ∧ Dr u w'') := fun u hu => by
            have := HRF.out u ⟨by rw [hu]; exact hN.out.size, by rw [hu, hgr, HG.out]; exact hN.out.block⟩ y hlt2
            simp only [hv] at this
            exact this
          have hxi : (x : Int) < (n : Int) := by omega
          have hyi : (y : Int) < (n : Int) := by omega
          clear hset hgG hT7 hN hB7 hv
          go_wp2_with fail
          go_region_with (refine (HC.out w5.drew rfl).mono ?_; rintro e w6 ⟨rfl, q6, rfl⟩)
          all_goals
            go_wp2
            go_roundw
            case rel => exact ⟨y + 1, by omega, by go_num, by unfold Hid; exact T8.out.under ⟨rfl, rfl, rfl, Nat.le_refl _, fun _ _ => rfl⟩, ⟨N8.out.size, N8.out.block⟩, B8.trans ⟨rfl, rfl, rfl, Nat.le_refl _, fun _ _ => rfl⟩⟩
            case measure => simp [intOf]; omega
        · obtain rfl : y = n := by omega
          have T9 : Hid (∃ G, Tb 3 26 w5 g (some ⟨g, 0, none⟩) y y (x + 1) y G (fun _ => y) (fun x y => .int .i64 (T x y)) ∧ ∀ j, j < x + 1 → g < G j) :=
            ⟨G', hT7.out.congr (fun i j hi' hj => by unfold toldI; rw [if_pos (.inr hj)]), HGR.out⟩
          go_wp2
          go_roundw
          case rel => exact ⟨x + 1, by omega, by go_num, T9, hB7⟩
          case measure => simp [intOf]; omega
    · obtain rfl : x = n := by omega
      obtain ⟨G, hT0, hGg⟩ := hT.out
      have HT0 := Lib.hid hT0
      have HGG := Lib.hid hGg
      clear hT hT0 hGg
      go_wp2
      go_ret
      exact ⟨g, G, rfl, by rw [HG.out]; exact HT0.out, HGG.out, by rw [HG.out]; exact hB⟩

end Go.Proofs.Ytojfpnjnbpeniaa

namespace Go.Proofs.Ytojfpnjnbpeniaa

/-- Within stage k: the rows before x, and the first y cells of row x, are written. -/
def curI (M : Nat → Nat → Int) (k x y : Nat) : Nat → Nat → Int := fun i j => if i < x ∨ (i = x ∧ j < y) then stageI M k i j else M i j
theorem curI_at (M : Nat → Nat → Int) (k x y : Nat) : curI M k x y x y = M x y := by unfold curI; rw [if_neg (by omega)]
theorem curI_col (M : Nat → Nat → Int) (k x y : Nat) : curI M k x y x k = M x k := by unfold curI; split; exact stageI_col M k x; rfl
theorem curI_row (M : Nat → Nat → Int) (k x y : Nat) : curI M k x y k y = M k y := by unfold curI; split; exact stageI_row M k y; rfl
theorem curI_step {M : Nat → Nat → Int} {k x y i j : Nat} {v : Int} (h : v = stageI M k x y) : (if i = x ∧ j = y then v else curI M k x y i j) = curI M k x (y + 1) i j := by
  unfold curI
  by_cases e : i = x ∧ j = y
  · obtain ⟨rfl, rfl⟩ := e
    rw [if_pos ⟨rfl, rfl⟩, if_pos (by omega), h]
  · rw [if_neg e]
    by_cases e2 : i < x ∨ (i = x ∧ j < y)
    · rw [if_pos e2, if_pos (by omega)]
    · rw [if_neg e2, if_neg (by omega)]
theorem curI_same {M : Nat → Nat → Int} {k x y i j : Nat} (h : M x y = stageI M k x y) : curI M k x y i j = curI M k x (y + 1) i j := by
  have := curI_step (M := M) (k := k) (x := x) (y := y) (i := i) (j := j) h
  rw [← this]
  by_cases e : i = x ∧ j = y
  · obtain ⟨rfl, rfl⟩ := e; rw [if_pos ⟨rfl, rfl⟩, curI_at]
  · rw [if_neg e]
theorem curI_next {M : Nat → Nat → Int} {k x n i j : Nat} (hj : j < n) : curI M k x n i j = curI M k (x + 1) 0 i j := by
  unfold curI
  by_cases e : i < x ∨ (i = x ∧ j < n)
  · rw [if_pos e, if_pos (by omega)]
  · rw [if_neg e, if_neg (by omega)]
theorem curI_end {M : Nat → Nat → Int} {k n i j : Nat} (hi : i < n) : curI M k n 0 i j = stageI M k i j := by unfold curI; rw [if_pos (.inl hi)]
theorem curI_start (M : Nat → Nat → Int) (k i j : Nat) : curI M k 0 0 i j = M i j := by unfold curI; rw [if_neg (by omega)]

def curB (M : Nat → Nat → Bool) (k x y : Nat) : Nat → Nat → Bool := fun i j => if i < x ∨ (i = x ∧ j < y) then stageB M k i j else M i j
theorem curB_at (M : Nat → Nat → Bool) (k x y : Nat) : curB M k x y x y = M x y := by unfold curB; rw [if_neg (by omega)]
theorem curB_col (M : Nat → Nat → Bool) (k x y : Nat) : curB M k x y x k = M x k := by unfold curB; split; exact stageB_col M k x; rfl
theorem curB_row (M : Nat → Nat → Bool) (k x y : Nat) : curB M k x y k y = M k y := by unfold curB; split; exact stageB_row M k y; rfl
theorem curB_step {M : Nat → Nat → Bool} {k x y i j : Nat} {v : Bool} (h : v = stageB M k x y) : (if i = x ∧ j = y then v else curB M k x y i j) = curB M k x (y + 1) i j := by
  unfold curB
  by_cases e : i = x ∧ j = y
  · obtain ⟨rfl, rfl⟩ := e
    rw [if_pos ⟨rfl, rfl⟩, if_pos (by omega), h]
  · rw [if_neg e]
    by_cases e2 : i < x ∨ (i = x ∧ j < y)
    · rw [if_pos e2, if_pos (by omega)]
    · rw [if_neg e2, if_neg (by omega)]
theorem curB_same {M : Nat → Nat → Bool} {k x y i j : Nat} (h : M x y = stageB M k x y) : curB M k x y i j = curB M k x (y + 1) i j := by
  have := curB_step (M := M) (k := k) (x := x) (y := y) (i := i) (j := j) h
  rw [← this]
  by_cases e : i = x ∧ j = y
  · obtain ⟨rfl, rfl⟩ := e; rw [if_pos ⟨rfl, rfl⟩, curB_at]
  · rw [if_neg e]
theorem curB_next {M : Nat → Nat → Bool} {k x n i j : Nat} (hj : j < n) : curB M k x n i j = curB M k (x + 1) 0 i j := by
  unfold curB
  by_cases e : i < x ∨ (i = x ∧ j < n)
  · rw [if_pos e, if_pos (by omega)]
  · rw [if_neg e, if_neg (by omega)]
theorem curB_end {M : Nat → Nat → Bool} {k n i j : Nat} (hi : i < n) : curB M k n 0 i j = stageB M k i j := by unfold curB; rw [if_pos (.inl hi)]
theorem curB_start (M : Nat → Nat → Bool) (k i j : Nat) : curB M k 0 0 i j = M i j := by unfold curB; rw [if_neg (by omega)]

/-- A row of steps that is being filled. -/
def stepsTo (M : Nat → Nat → Int) (x y : Nat) : Nat → Int := fun j => if j < y then steps M x j else 0
theorem stepsTo_none (M : Nat → Nat → Int) {x y : Nat} (h : M x y ≤ M y x) (j : Nat) : stepsTo M x y j = stepsTo M x (y + 1) j := by
  unfold stepsTo
  by_cases e : j = y
  · subst e; rw [if_neg (Nat.lt_irrefl _), if_pos (Nat.lt_succ_self _)]; unfold steps; rw [if_neg (by omega)]
  · by_cases e2 : j < y
    · rw [if_pos e2, if_pos (by omega)]
    · rw [if_neg e2, if_neg (by omega)]
theorem stepsTo_some (M : Nat → Nat → Int) {x y : Nat} (h : M y x < M x y) (j : Nat) : (if j = y then M x y else stepsTo M x y j) = stepsTo M x (y + 1) j := by
  unfold stepsTo
  by_cases e : j = y
  · subst e; rw [if_pos rfl, if_pos (Nat.lt_succ_self _)]; unfold steps; rw [if_pos h]
  · rw [if_neg e]
    by_cases e2 : j < y
    · rw [if_pos e2, if_pos (by omega)]
    · rw [if_neg e2, if_neg (by omega)]

end Go.Proofs.Ytojfpnjnbpeniaa

namespace Go.Proofs.Ytojfpnjnbpeniaa
open Go.RowKit

attribute [local go_sem] Oper.semAt_some

end Go.Proofs.Ytojfpnjnbpeniaa

namespace Go.Proofs.Ytojfpnjnbpeniaa
open Go.RowKit

attribute [local go_sem] Oper.semAt_some

/-- A table of the call's own that is returned with true, or nothing. -/
def GaveI (w : World) (B : Nat) (ok : Bool) (n : Nat) (M : Nat → Nat → Int) (e : Ending) (w' : World) : Prop :=
  (ok = false ∧ e = .returned (.tuple #[.slice none 0 0, .bool false]) ∧ Below w.heap.size w w') ∨
  (ok = true ∧ ∃ g G, e = .returned (.tuple #[.slice (some ⟨g, 0, none⟩) n n, .bool true]) ∧ Tb 3 26 w' B (some ⟨g, 0, none⟩) n n n n G (fun _ => n) (fun x y => .int .i64 (M x y)) ∧ (∀ j, j < n → g < G j) ∧ Below w.heap.size w w')

set_option maxRecDepth 100000 in
set_option maxHeartbeats 4000000 in
/-- **impl.PairCounts**. -/
theorem implPairCounts_as (a : Option Addr) (len cap : Nat) (ps : List Pl) (n : Int) (v : Bool) (w : World) (h : IsPiles w a len cap ps) (hs : Small ps) (hv : fitsB ps n = v) :
    Calls Try.prog 30 #[.slice a len cap, .int .i64 n] w (GaveI w w.heap.size v n.toNat (pairF ps)) := by
  have HI := Lib.hid h
  have HS := Lib.hid hs
  clear h hs
  have hn : v = true → 1 ≤ n ∧ n ≤ 5 := fun e => by subst e; obtain ⟨_, h1, h5, _⟩ := fits_parts hv; exact ⟨h1, h5⟩
  have HV := Lib.hid hv
  clear hv
  go_enter Try.func30, Try.ntmps30
  go_wp2_with fail
  refine (newPairTable_as _ len cap ps n v _ HI.out HS.out HV.out).mono ?_
  rintro e1 w1 (⟨rfl, rfl, hb1⟩ | ⟨rfl, g, rfl, hT, hb1⟩)
  · have B1 := Lib.hid hb1
    clear hb1 hn
    go_wp2
    go_ret2
    exact .inl ⟨rfl, rfl, B1.out⟩
  · obtain ⟨h1, h5⟩ := hn rfl
    obtain ⟨N, rfl⟩ : ∃ N : Nat, n = (N : Int) := ⟨n.toNat, by omega⟩
    rw [Int.toNat_natCast] at hT ⊢
    have HR := Lib.hid (counts_row hT (by omega))
    have B1 := Lib.hid hb1
    clear hb1 hn hT
    go_wp2_with fail
    refine (writeI_any N _ _ _ _ (pairF ps) _ counts_ent counts1_ent HR.out (by omega)).mono ?_
    rintro e2 w2 ⟨gt, G, rfl, hT2, hG, hb2⟩
    have T2 := Lib.hid (hT2.mono B1.out.size)
    have HG := Lib.hid hG
    have B2 := Lib.hid (B1.out.trans (hb2.mono B1.out.size))
    clear hT2 hG hb2 HR
    go_wp2
    go_ret2
    exact .inr ⟨rfl, gt, G, rfl, T2.out, HG.out, B2.out⟩

theorem over_wins (M : Nat → Nat → Int) (n x : Nat) : overB (fun x y => decide (M y x < M x y)) n x = winsB M n x := rfl
theorem over_head (M : Nat → Nat → Int) (n : Nat) : pairW M n = (match candTo (overB (fun x y => decide (M y x < M x y)) n) n with | [] => -1 | z :: _ => z) := by
  rcases pairW_cases M n with ⟨h, hno⟩ | ⟨x, hx, hw, h⟩
  · rw [h]
    have : candTo (overB (fun x y => decide (M y x < M x y)) n) n = [] := by
      rw [List.eq_nil_iff_forall_not_mem]
      intro z hz
      obtain ⟨y, hy, hb, _⟩ := candTo_mem.1 hz
      exact hno y hy ((winsB_iff M n y).1 (by rw [← over_wins]; exact hb))
    rw [this]
  · rw [h]
    have hmem := (candTo_has (B := overB (fun x y => decide (M y x < M x y)) n) hx).2 (by rw [over_wins]; exact (winsB_iff M n x).2 hw)
    cases hl : candTo (overB (fun x y => decide (M y x < M x y)) n) n with
    | nil => rw [hl] at hmem; cases hmem
    | cons z t =>
      obtain ⟨y, hy, hb, hz⟩ := candTo_mem.1 (show z ∈ candTo (overB (fun x y => decide (M y x < M x y)) n) n by rw [hl]; simp)
      rw [hz, wins_one hx hy hw ((winsB_iff M n y).1 (by rw [← over_wins]; exact hb))]

set_option maxRecDepth 100000 in
set_option maxHeartbeats 4000000 in
/-- **impl.PairWinner**. -/
theorem implPairWinner_as (a : Option Addr) (len cap : Nat) (ps : List Pl) (n : Int) (r : Int) (w : World) (h : IsPiles w a len cap ps) (hs : Small ps) (hr : winnerF ps n = r) :
    Calls Try.prog 34 #[.slice a len cap, .int .i64 n] w fun e w' => e = .returned (.int .i64 r) ∧ Below w.heap.size w w' := by
  have HI := Lib.hid h
  have HS := Lib.hid hs
  clear h hs
  obtain ⟨v, hv⟩ : ∃ v, fitsB ps n = v := ⟨_, rfl⟩
  have hn : v = true → 1 ≤ n ∧ n ≤ 5 := fun e => by subst e; obtain ⟨_, h1, h5, _⟩ := fits_parts hv; exact ⟨h1, h5⟩
  have HV := Lib.hid hv
  have HR0 := Lib.hid hr
  clear hv hr
  go_enter Try.func34, Try.ntmps34
  go_wp2_with fail
  refine (newPairTable_as _ len cap ps n v _ HI.out HS.out HV.out).mono ?_
  rintro e1 w1 (⟨rfl, rfl, hb1⟩ | ⟨rfl, g, rfl, hT, hb1⟩)
  · have B1 := Lib.hid hb1
    have e : Hid (r = -1) := by rw [Hid, ← HR0.out, winnerF, HV.out]; rfl
    clear hb1 hn
    go_wp2
    go_ret
    exact ⟨ret_int e.out.symm, B1.out⟩
  · obtain ⟨h1, h5⟩ := hn rfl
    obtain ⟨N, rfl⟩ : ∃ N : Nat, n = (N : Int) := ⟨n.toNat, by omega⟩
    rw [Int.toNat_natCast] at hT
    have e : Hid (r = pairW (pairF ps) N) := by rw [Hid, ← HR0.out, winnerF, HV.out]; rfl
    have HR := Lib.hid (beats_row hT (by omega))
    have B1 := Lib.hid hb1
    obtain ⟨L, hL⟩ : ∃ L, candTo (overB (fun x y => decide (pairF ps y x < pairF ps x y)) N) N = L := ⟨_, rfl⟩
    have hlen : L.length ≤ 5 := by rw [← hL]; exact Nat.le_trans (candTo_short _ _) (by omega)
    have HL := Lib.hid hL
    clear hb1 hn hT hL
    go_wp2_with fail
    refine (over_any N _ _ _ _ (fun x y => decide (pairF ps y x < pairF ps x y)) L _ beats_ent beats1_ent HR.out (by omega) HL.out).mono ?_
    rintro e2 w2 ⟨ao, co, rfl, ho, hb2⟩
    have B2 := Lib.hid (B1.out.trans (hb2.mono B1.out.size))
    have HH := over_head (pairF ps) N
    rw [HL.out] at HH
    cases L with
    | nil =>
      have e3 : Hid (r = -1) := by unfold Hid; rw [e.out, HH]
      have hz : ([] : List Int).length = 0 := rfl
      rw [hz]
      clear HH ho hb2 HR
      go_wp2
      go_ret
      exact ⟨ret_int e3.out.symm, B2.out⟩
    | cons z t =>
      have e3 : Hid (r = z) := by unfold Hid; rw [e.out, HH]
      obtain ⟨_, _, _, hcells⟩ := IsInts.of_owned ho (by omega)
      obtain ⟨b, off, rfl, hb, hc⟩ := hcells (by simp)
      have hc0 := hc 0 (by simp)
      have hc1 : w2.cell? ⟨b, off, none⟩ = some (.int .i64 z) := by simpa using hc0
      obtain ⟨l, hl⟩ : ∃ l, (z :: t).length = l := ⟨_, rfl⟩
      have hl1 : 1 ≤ l := by rw [← hl]; simp
      have hne : ((l : Int) == 0) = false := beq_eq_false_iff_ne.2 (by omega)
      have hli : (0 : Int) < (l : Int) := by omega
      rw [hl]
      clear HH ho hb2 HR hcells hc hc0 hlen
      go_wp2
      go_ret
      exact ⟨ret_int e3.out.symm, B2.out⟩

end Go.Proofs.Ytojfpnjnbpeniaa
