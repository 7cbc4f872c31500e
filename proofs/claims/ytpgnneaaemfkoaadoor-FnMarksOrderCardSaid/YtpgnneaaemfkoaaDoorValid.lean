/-
  impl.BallotValid answers as the model: for every ballot of at most 1048600 ints, in whatever memory; it writes into no memory that was there.
-/
import Derived.Test.YtpgnneaaemfkoaaDoorIter
import Derived.Test.YtpgnneaaemfkoaaDoorValidP
namespace Go.Proofs.YtpgnneaaemfkoaaDoor
open Go.RowKit Go.Shelf

attribute [local go_sem] Oper.semAt_some

/-- A store into another block leaves a cell as it was. -/
theorem other_cell {W : World} {b o b' o' : Nat} {v : Value} (h : b' ≠ b) : (W.setCell ⟨b', o', none⟩ v).cell? ⟨b, o, none⟩ = W.cell? ⟨b, o, none⟩ :=
  World.cell?_setCell_other _ _ _ _ (by intro e; injection e with e1; exact h e1)

/-- The five cells of the array 'named' tell which numbers have come. -/
def Named (W : World) (B : Nat) (pre : List Int) : Prop := ∀ c, c < 5 → W.cell? ⟨B, c, none⟩ = some (.bool (hasB pre (c : Int))) ∧ W.frozen? ⟨B, c, none⟩ = false

theorem Named.own (B : Nat) : Own (fun pre W => Named W B pre) := fun _ _ _ _ hs hg hr c hc => ⟨cell_kept (hs c hc).1 hg hr, (frozen_kept (hs c hc).1 hg hr).trans (hs c hc).2⟩

theorem named_of {W : World} {B : Nat} {t : TypeId} (h : W.heap[B]? = some (.cells #[.bool false, .bool false, .bool false, .bool false, .bool false] t (0, 0))) : Named W B [] := by
  intro c hc
  have e : c = 0 ∨ c = 1 ∨ c = 2 ∨ c = 3 ∨ c = 4 := by omega
  rcases e with rfl | rfl | rfl | rfl | rfl <;> simp [World.cell?, World.frozen?, h, hasB]

theorem named_start (w : World) (o1 o2 o4 : Obj) (t : TypeId) : Named ((((w.alloc o1).alloc o2).alloc (.cells #[.bool false, .bool false, .bool false, .bool false, .bool false] t)).alloc o4) (w.heap.size + 1 + 1) [] := by
  have hb := World.alloc_heap_new ((w.alloc o1).alloc o2) (.cells #[.bool false, .bool false, .bool false, .bool false, .bool false] t)
  simp only [World.size_alloc] at hb
  exact named_of ((Below.heap_alloc _ _ _ (by simp)).trans hb)

/-- A store of true into the cell of a number: it has come. -/
theorem Named.stored {W : World} {B : Nat} {pre : List Int} {c : Nat} (h : Named W B pre) (hc : c < 5) : Named (W.setCell ⟨B, c, none⟩ (.bool true)) B (pre ++ [(c : Int)]) := by
  intro d hd
  refine ⟨?_, by rw [World.frozen?_setCell]; exact (h d hd).2⟩
  by_cases e : d = c
  · subst e
    rw [hasB_app]
    simp only [beq_self_eq_true, Bool.or_true]
    exact World.cell?_setCell_same' _ _ _ (by rw [(h d hd).1]; rfl)
  · rw [hasB_app, show ((c : Int) == (d : Int)) = false from by simp; omega, Bool.or_false]
    rw [World.cell?_setCell_other _ _ _ _ (by intro e'; injection e' with _ e2; exact e e2.symm)]
    exact (h d hd).1

set_option maxRecDepth 100000 in
set_option maxHeartbeats 2000000 in
/-- **impl.BallotValid**, at a number of candidates in range. -/
theorem implValid_yes (F : Fence) (hF : ∀ k, F.fn k) (hro : F.round = none) (a : Option Addr) (len cap : Nat) (zs : List Int) (n : Int) (w : World) (h : IsInts w a len cap zs) (hn1 : 1 ≤ n) (hn5 : n ≤ 5) :
    CallsIn F 8 Tryd.prog 15 #[.slice a len cap, .int .i64 n] w fun e w' => e = .returned (.bool (goodL zs (n - 1))) ∧ Below w.heap.size w w' := by
  have H := Lib.hid h; clear h
  have hd1 : decide (n < 1) = false := by simp; omega
  have hd5 : decide (5 < n) = false := by simp; omega
  have hFc := hF 22
  have hFv := hF 40
  refine callsIn_of_wp_marks Tryd.func15 rfl (hF _) ?_ hro
  simp only [Tryd.ntmps15, List.size_toArray, List.length_cons, List.length_nil, Nat.reduceAdd, Nat.reduceSub, Array.replicate_succ, Array.replicate_zero, List.push_toArray, List.append_toArray, List.nil_append, List.cons_append]
  gi_wp2_with (gi_at_call 22; refine (candidates_in F _ (by omega) hFc (hF _) hro _ _ _ _).mono ?_; rintro e w' ⟨rfl, rfl⟩)
  have bN := Boxed.new w 3 (.int .i64 n)
  have bR := Boxed.new (w.alloc (.cells #[.int .i64 n] 3)) 4 (.bool false)
  rw [World.size_alloc] at bR
  have bA := named_start w (.cells #[.int .i64 n] 3) (.cells #[.bool false] 4) (.cells #[.slice a len cap] 23) 48
  have bV := Boxed.new (((w.alloc (.cells #[.int .i64 n] 3)).alloc (.cells #[.bool false] 4)).alloc (.cells #[.bool false, .bool false, .bool false, .bool false, .bool false] 48)) 23 (.slice a len cap)
  simp only [World.size_alloc] at bV
  have hB0 : Below w.heap.size w ((((w.alloc (.cells #[.int .i64 n] 3)).alloc (.cells #[.bool false] 4)).alloc (.cells #[.bool false, .bool false, .bool false, .bool false, .bool false] 48)).alloc (.cells #[.slice a len cap] 23)) :=
    ((((Below.refl _ w).alloc (Nat.le_refl _) _).alloc (by simp) _).alloc (by simp; omega) _).alloc (by simp; omega) _
  refine wpIn_rangeFunc_ownG hro (by omega) (gf := 40) (lb := #[.pointer (some ⟨w.heap.size + 1 + 1 + 1, 0, none⟩)]) rfl hFv (enters_of Tryd.func40 (by kernel_rfl) rfl)
    (values_stops F 7 hFv hro (by omega) (w.heap.size + 1 + 1 + 1) a len cap zs w _ (by simp) hB0 bV.cell H.out) belowK_t (belowK_b (by simp; omega)) (Below.refl _ _) (fun _ => rfl)
    (fun pre W => ((W.cell? ⟨w.heap.size, 0, none⟩ = some (.int .i64 n) ∧ (W.cell? ⟨w.heap.size + 1, 0, none⟩ = some (.bool false) ∧ W.frozen? ⟨w.heap.size + 1, 0, none⟩ = false) ∧ goodL pre (n - 1) = true) ∧ Named W (w.heap.size + 1 + 1) pre) ∧ Below w.heap.size w W)
    (fun c pre W => (c = .ret ∧ goodL pre (n - 1) = false ∧ W.cell? ⟨w.heap.size + 1, 0, none⟩ = some (.bool false)) ∧ Below w.heap.size w W)
    (OwnFrom.and (OwnFrom.and (Own.from (fun s A B row hs hg hr => ⟨cell_kept hs.1 hg hr, ⟨cell_kept hs.2.1.1 hg hr, (frozen_kept hs.2.1.1 hg hr).trans hs.2.1.2⟩, hs.2.2⟩) _) (Own.from (Named.own _) _)) (ownFrom_below (Nat.le_refl _) (by simp; omega)))
    (fun c => OwnFrom.and (Own.from (fun s A B row hs hg hr => ⟨hs.1, hs.2.1, cell_kept hs.2.2 hg hr⟩) _) (ownFrom_below (Nat.le_refl _) (by simp; omega)))
    ⟨⟨⟨(((bN.alloc _).alloc _).alloc _).cell, ⟨((bR.alloc _).alloc _).cell, ((bR.alloc _).alloc _).frozen⟩, by simp [goodL, goodTo]⟩, bA⟩, hB0⟩
    (fun x => { tmps := #[.slice a len cap, .int .i64 n, undef, .pointer (some ⟨w.heap.size, 0, none⟩), .pointer (some ⟨w.heap.size + 1, 0, none⟩), .pointer (some ⟨w.heap.size + 1 + 1, 0, none⟩), .int .i64 x, .int .i64 n,
      .bool false, .bool false, .int .i64 n, .bool false, .bool false, .slice a len cap, .func (.func 40) #[] #[.pointer (some ⟨w.heap.size + 1 + 1 + 1, 0, none⟩)], .int .i64 x,
      undef, undef, undef, undef, undef, undef, undef, undef, undef, undef, undef, undef, undef, undef], defers := [] }) ?assign ?body ?done ?stop
  case assign =>
    intro l x W K hK
    gi_wp2
    exact hK
  case body =>
    rintro l pre x W ⟨⟨⟨hc, ⟨hcr, hfr⟩, hgood⟩, hN⟩, hB⟩ hlt
    have HG := goodL_snoc pre x (n - 1)
    rw [hgood, Bool.true_and] at HG
    have HG := Lib.hid HG
    have hgood := Lib.hid hgood
    by_cases hneg : x < 0
    · have e : inB x 0 (n - 1) = false := by simp [inB]; omega
      have HE := Lib.hid e; clear e
      gi_wp2
      exact ⟨(KeepsOthers.setCell _ _ _).from _, ⟨rfl, by rw [HG.out, HE.out]; rfl, World.cell?_setCell_same' _ _ _ (by rw [hcr]; rfl)⟩, hB.setCell (p := ⟨w.heap.size + 1, 0, none⟩) (by simp) _⟩
    · by_cases hbig : n ≤ x
      · have e : inB x 0 (n - 1) = false := by simp [inB]; omega
        have HE := Lib.hid e; clear e
        gi_wp2
        exact ⟨(KeepsOthers.setCell _ _ _).from _, ⟨rfl, by rw [HG.out, HE.out]; rfl, World.cell?_setCell_same' _ _ _ (by rw [hcr]; rfl)⟩, hB.setCell (p := ⟨w.heap.size + 1, 0, none⟩) (by simp) _⟩
      · have e : inB x 0 (n - 1) = true := by simp [inB]; omega
        have HE := Lib.hid e; clear e
        obtain ⟨c, rfl⟩ := Int.eq_ofNat_of_zero_le (by omega : 0 ≤ x)
        have hc5 : c < 5 := by omega
        obtain ⟨hx, hxf⟩ := hN c hc5
        cases hh : hasB pre (c : Int)
        · gi_wp2
          exact ⟨(KeepsOthers.setCell _ _ _).from _, (Below.refl w.heap.size W).setCell (p := ⟨w.heap.size + 1 + 1, c, none⟩) (by simp; omega) _, ⟨⟨(other_cell (by omega)).trans hc, ⟨(other_cell (by omega)).trans hcr, by rw [World.frozen?_setCell]; exact hfr⟩, by rw [HG.out, HE.out, hh]; rfl⟩, hN.stored hc5⟩, hB.setCell (p := ⟨w.heap.size + 1 + 1, c, none⟩) (by simp; omega) _⟩
        · gi_wp2
          exact ⟨(KeepsOthers.setCell _ _ _).from _, ⟨rfl, by rw [HG.out, HE.out, hh]; rfl, World.cell?_setCell_same' _ _ _ (by rw [hcr]; rfl)⟩, hB.setCell (p := ⟨w.heap.size + 1, 0, none⟩) (by simp) _⟩
  case done =>
    rintro D ys W hD rfl ⟨⟨⟨hc, ⟨hcr, hfr⟩, hgood⟩, hN⟩, hB⟩ hK
    have hgood := Lib.hid hgood
    gi_wp2
    have hK' := (KeepsOthers.setCell W ⟨w.heap.size + 1, 0, none⟩ (.bool true)).same D _ hK rfl
    refine ⟨by simp, .inl ⟨_, _, rfl, run_takeDeferred hK', ?_⟩⟩
    have hc5 := cell_kept (World.cell?_setCell_same' W ⟨w.heap.size + 1, 0, none⟩ (.bool true) (by rw [hcr]; rfl)) (grownBy_putObj' _ D (.deferred none)) (fun r e => by cases e; exact ⟨_, hK', rfl⟩)
    refine ⟨.bool true, ?_, ret_bool hgood.out.symm, (hB.setCell (p := ⟨w.heap.size + 1, 0, none⟩) (by simp) _).trans (belowK_b (w := w) (Nat.le_refl _) _ D _ _ (by simp at hD; omega) hK' rfl rfl)⟩
    simp [results, Tryd.f15, go_sem, hc5]
  case stop =>
    rintro D c pre W hD hp ⟨⟨rfl, hbad, hcr⟩, hB⟩ hK
    have hbad := Lib.hid (goodL_prefix hp _ hbad)
    gi_wp2
    refine ⟨by simp, .inl ⟨_, _, rfl, run_takeDeferred hK, ?_⟩⟩
    have hc5 := cell_kept hcr (grownBy_putObj' _ D (.deferred none)) (fun r e => by cases e; exact ⟨_, hK, rfl⟩)
    refine ⟨.bool false, ?_, ret_bool hbad.out.symm, hB.trans (belowK_b (w := w) (Nat.le_refl _) W D _ _ (by simp at hD; omega) hK rfl rfl)⟩
    simp [results, Tryd.f15, go_sem, hc5]

set_option maxRecDepth 100000 in
set_option maxHeartbeats 1000000 in
/-- **impl.BallotValid**, at a number of candidates out of range. -/
theorem implValid_no (F : Fence) (hF : ∀ k, F.fn k) (hro : F.round = none) (a : Option Addr) (len cap : Nat) (n : Int) (w : World) (hn : n < 1 ∨ 5 < n) :
    CallsIn F 8 Tryd.prog 15 #[.slice a len cap, .int .i64 n] w fun e w' => e = .returned (.bool false) ∧ Below w.heap.size w w' := by
  rcases hn with h | h
  · have hd1 : decide (n < 1) = true := by simp; omega
    refine callsIn_of_wp Tryd.func15 rfl (hF _) ?_ hro
    simp only [Tryd.ntmps15, List.size_toArray, List.length_cons, List.length_nil, Nat.reduceAdd, Nat.reduceSub, Array.replicate_succ, Array.replicate_zero, List.push_toArray, List.append_toArray, List.nil_append, List.cons_append]
    gi_wp2
    exact bodyPost_ret (v := .bool false) (by simp [results, Tryd.f15, go_sem]) rfl ⟨rfl, ((Below.refl _ w).alloc (Nat.le_refl _) _).alloc (by simp) _⟩
  · have hd1 : decide (n < 1) = false := by simp; omega
    have hd5 : decide (5 < n) = true := by simp; omega
    refine callsIn_of_wp Tryd.func15 rfl (hF _) ?_ hro
    simp only [Tryd.ntmps15, List.size_toArray, List.length_cons, List.length_nil, Nat.reduceAdd, Nat.reduceSub, Array.replicate_succ, Array.replicate_zero, List.push_toArray, List.append_toArray, List.nil_append, List.cons_append]
    gi_wp2
    exact bodyPost_ret (v := .bool false) (by simp [results, Tryd.f15, go_sem]) rfl ⟨rfl, ((Below.refl _ w).alloc (Nat.le_refl _) _).alloc (by simp) _⟩

/-- **impl.BallotValid** answers as the model does. -/
theorem implValid_any (a : Option Addr) (len cap : Nat) (zs : List Int) (n : Int) (w : World) (h : IsInts w a len cap zs) :
    Calls Tryd.prog 15 #[.slice a len cap, .int .i64 n] w fun e w' => e = .returned (.bool (validB zs n)) ∧ Below w.heap.size w w' := by
  refine (callsIn_wide (n := 8)).1 ?_
  by_cases h1 : 1 ≤ n
  · by_cases h5 : n ≤ 5
    · rw [validB_in h1 h5]
      exact implValid_yes _ (fun _ => trivial) rfl a len cap zs n w h h1 h5
    · rw [validB_out (.inr (by omega))]
      exact implValid_no _ (fun _ => trivial) rfl a len cap n w (.inr (by omega))
  · rw [validB_out (.inl (by omega))]
    exact implValid_no _ (fun _ => trivial) rfl a len cap n w (.inl (by omega))

theorem implValid_wide (m : Nat) (a : Option Addr) (len cap : Nat) (zs : List Int) (n : Int) (w : World) (h : IsInts w a len cap zs) :
    CallsIn Fence.wide m Tryd.prog 15 #[.slice a len cap, .int .i64 n] w fun e w' => e = .returned (.bool (validB zs n)) ∧ Below w.heap.size w w' :=
  callsIn_wide.2 (implValid_any a len cap zs n w h)

end Go.Proofs.YtpgnneaaemfkoaaDoor
