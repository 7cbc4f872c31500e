/-
  impl.BallotValid answers as the model: for every ballot of at most 1048600 ints, in whatever memory; it writes into no memory that was there.
  l1Has: whether a list has a number. No condition but what the theorem says.
  spec.BallotValid: what it answers at every list of at most 1048600 ints and every number; it writes nothing. No condition but what each theorem says.
  spec.BallotText: the text of a ballot; it writes into no memory that was there. No condition but what each theorem says.
  What the program knows of the type byte; a candidate's number.
  spec.BallotParse: the ballot of a text, in memory of the call's own; texts and ballots lead to each other. No condition but what each theorem says.
  spec.BallotParse and impl.BallotParse answer alike: for every text of at most 1048576 bytes; neither writes into memory that was there, and what they return is memory of their own.
  spec.BallotParse and impl.BallotParse answer alike: for every text of at most 1048576 bytes; what they return is memory of their own.
-/
import Derived.Test.YtafnmongglhlaaaGrp2
import Derived.Test.YtafnmongglhlaaaGrp1
import Derived.Laws.BytesArg
import Derived.Laws.Concat
import Derived.Maps.AppendAt
import Derived.Deep.Onto
namespace Go.Proofs.Ytafnmongglhlaaa
open Go.RowKit Go.Shelf

attribute [local go_sem] Oper.semAt_some

/-- A store into another block leaves a cell as it was. -/
theorem other_cell {W : World} {b o b' o' : Nat} {v : Value} (h : b' ≠ b) : (W.setCell ⟨b', o', none⟩ v).cell? ⟨b, o, none⟩ = W.cell? ⟨b, o, none⟩ :=
  World.cell?_setCell_other _ _ _ _ (by intro e; injection e with e1; exact h e1)

/-- The five cells of the array 'named' tell which numbers have come. -/
def Named (W : World) (B : Nat) (pre : List Int) : Prop := ∀ c, c < 5 → W.cell? ⟨B, c, none⟩ = some (.bool (hasB pre (c : Int))) ∧ W.frozen? ⟨B, c, none⟩ = false

theorem Named.own (B : Nat) : Own (fun pre W => Named W B pre) := fun _ _ _ _ hs hg hr c hc => ⟨cell_kept (hs c hc).1 hg hr, (frozen_kept (hs c hc).1 hg hr).trans (hs c hc).2⟩

theorem named_of {W : World} {B : Nat} {t : TypeId} (h : W.heap[B]? = some (.cells #[.bool false, .bool false, .bool false, .bool false, .bool false] t (0, 0))) : Named W B [] := by
  intro c hc
  have e : c = 0 ∨ c = 1 ∨ c = 2 ∨ c = 3 ∨ c = 4 := by omega
  rcases e with rfl | rfl | rfl | rfl | rfl <;> simp [World.cell?, World.frozen?, h, hasB]

theorem named_start (w : World) (o1 o2 o4 : Obj) (t : TypeId) : Named ((((w.alloc o1).alloc o2).alloc (.cells #[.bool false, .bool false, .bool false, .bool false, .bool false] t)).alloc o4) (w.heap.size + 1 + 1) [] := by
  have hb := World.alloc_heap_new ((w.alloc o1).alloc o2) (.cells #[.bool false, .bool false, .bool false, .bool false, .bool false] t)
  simp only [World.size_alloc] at hb
  exact named_of ((Below.heap_alloc _ _ _ (by simp)).trans hb)

/-- A store of true into the cell of a number: it has come. -/
theorem Named.stored {W : World} {B : Nat} {pre : List Int} {c : Nat} (h : Named W B pre) (hc : c < 5) : Named (W.setCell ⟨B, c, none⟩ (.bool true)) B (pre ++ [(c : Int)]) := by
  intro d hd
  refine ⟨?_, by rw [World.frozen?_setCell]; exact (h d hd).2⟩
  by_cases e : d = c
  · subst e
    rw [hasB_app]
    simp only [beq_self_eq_true, Bool.or_true]
    exact World.cell?_setCell_same' _ _ _ (by rw [(h d hd).1]; rfl)
  · rw [hasB_app, show ((c : Int) == (d : Int)) = false from by simp; omega, Bool.or_false]
    rw [World.cell?_setCell_other _ _ _ _ (by intro e'; injection e' with _ e2; exact e e2.symm)]
    exact (h d hd).1

set_option maxRecDepth 100000 in
set_option maxHeartbeats 2000000 in
/-- **impl.BallotValid**, at a number of candidates in range. -/
theorem implValid_yes (F : Fence) (hF : ∀ k, F.fn k) (hro : F.round = none) (a : Option Addr) (len cap : Nat) (zs : List Int) (n : Int) (w : World) (h : IsInts w a len cap zs) (hn1 : 1 ≤ n) (hn5 : n ≤ 5) :
    CallsIn F 8 Try.prog 57 #[.slice a len cap, .int .i64 n] w fun e w' => e = .returned (.bool (goodL zs (n - 1))) ∧ Below w.heap.size w w' := by
  have H := Lib.hid h; clear h
  have hd1 : decide (n < 1) = false := by simp; omega
  have hd5 : decide (5 < n) = false := by simp; omega
  have hFc := hF 95
  have hFv := hF 133
  refine callsIn_of_wp_marks Try.func57 rfl (hF _) ?_ hro
  simp only [Try.ntmps57, List.size_toArray, List.length_cons, List.length_nil, Nat.reduceAdd, Nat.reduceSub, Array.replicate_succ, Array.replicate_zero, List.push_toArray, List.append_toArray, List.nil_append, List.cons_append]
  gi_wp2_with (gi_at_call 95; refine (candidates_in F _ (by omega) hFc (hF _) hro _ _ _ _).mono ?_; rintro e w' ⟨rfl, rfl⟩)
  have bN := Boxed.new w 3 (.int .i64 n)
  have bR := Boxed.new (w.alloc (.cells #[.int .i64 n] 3)) 4 (.bool false)
  rw [World.size_alloc] at bR
  have bA := named_start w (.cells #[.int .i64 n] 3) (.cells #[.bool false] 4) (.cells #[.slice a len cap] 24) 135
  have bV := Boxed.new (((w.alloc (.cells #[.int .i64 n] 3)).alloc (.cells #[.bool false] 4)).alloc (.cells #[.bool false, .bool false, .bool false, .bool false, .bool false] 135)) 24 (.slice a len cap)
  simp only [World.size_alloc] at bV
  have hB0 : Below w.heap.size w ((((w.alloc (.cells #[.int .i64 n] 3)).alloc (.cells #[.bool false] 4)).alloc (.cells #[.bool false, .bool false, .bool false, .bool false, .bool false] 135)).alloc (.cells #[.slice a len cap] 24)) :=
    ((((Below.refl _ w).alloc (Nat.le_refl _) _).alloc (by simp) _).alloc (by simp; omega) _).alloc (by simp; omega) _
  refine wpIn_rangeFunc_ownG hro (by omega) (gf := 133) (lb := #[.pointer (some ⟨w.heap.size + 1 + 1 + 1, 0, none⟩)]) rfl hFv (enters_of Try.func133 (by kernel_rfl) rfl)
    (values_stops F 7 hFv hro (by omega) (w.heap.size + 1 + 1 + 1) a len cap zs w _ (by simp) hB0 bV.cell H.out) belowK_t (belowK_b (by simp; omega)) (Below.refl _ _) (fun _ => rfl)
    (fun pre W => ((W.cell? ⟨w.heap.size, 0, none⟩ = some (.int .i64 n) ∧ (W.cell? ⟨w.heap.size + 1, 0, none⟩ = some (.bool false) ∧ W.frozen? ⟨w.heap.size + 1, 0, none⟩ = false) ∧ goodL pre (n - 1) = true) ∧ Named W (w.heap.size + 1 + 1) pre) ∧ Below w.heap.size w W)
    (fun c pre W => (c = .ret ∧ goodL pre (n - 1) = false ∧ W.cell? ⟨w.heap.size + 1, 0, none⟩ = some (.bool false)) ∧ Below w.heap.size w W)
    (OwnFrom.and (OwnFrom.and (Own.from (fun s A B row hs hg hr => ⟨cell_kept hs.1 hg hr, ⟨cell_kept hs.2.1.1 hg hr, (frozen_kept hs.2.1.1 hg hr).trans hs.2.1.2⟩, hs.2.2⟩) _) (Own.from (Named.own _) _)) (ownFrom_below (Nat.le_refl _) (by simp; omega)))
    (fun c => OwnFrom.and (Own.from (fun s A B row hs hg hr => ⟨hs.1, hs.2.1, cell_kept hs.2.2 hg hr⟩) _) (ownFrom_below (Nat.le_refl _) (by simp; omega)))
    ⟨⟨⟨(((bN.alloc _).alloc _).alloc _).cell, ⟨((bR.alloc _).alloc _).cell, ((bR.alloc _).alloc _).frozen⟩, by simp [goodL, goodTo]⟩, bA⟩, hB0⟩
    (fun x => { tmps := #[.slice a len cap, .int .i64 n, undef, .pointer (some ⟨w.heap.size, 0, none⟩), .pointer (some ⟨w.heap.size + 1, 0, none⟩), .pointer (some ⟨w.heap.size + 1 + 1, 0, none⟩), .int .i64 x, .int .i64 n,
      .bool false, .bool false, .int .i64 n, .bool false, .bool false, .slice a len cap, .func (.func 133) #[] #[.pointer (some ⟨w.heap.size + 1 + 1 + 1, 0, none⟩)], .int .i64 x,
      undef, undef, undef, undef, undef, undef, undef, undef, undef, undef, undef, undef, undef, undef], defers := [] }) ?assign ?body ?done ?stop
  case assign =>
    intro l x W K hK
    gi_wp2
    exact hK
  case body =>
    rintro l pre x W ⟨⟨⟨hc, ⟨hcr, hfr⟩, hgood⟩, hN⟩, hB⟩ hlt
    have HG := goodL_snoc pre x (n - 1)
    rw [hgood, Bool.true_and] at HG
    have HG := Lib.hid HG
    have hgood := Lib.hid hgood
    by_cases hneg : x < 0
    · have e : inB x 0 (n - 1) = false := by simp [inB]; omega
      have HE := Lib.hid e; clear e
      gi_wp2
      exact ⟨(KeepsOthers.setCell _ _ _).from _, ⟨rfl, by rw [HG.out, HE.out]; rfl, World.cell?_setCell_same' _ _ _ (by rw [hcr]; rfl)⟩, hB.setCell (p := ⟨w.heap.size + 1, 0, none⟩) (by simp) _⟩
    · by_cases hbig : n ≤ x
      · have e : inB x 0 (n - 1) = false := by simp [inB]; omega
        have HE := Lib.hid e; clear e
        gi_wp2
        exact ⟨(KeepsOthers.setCell _ _ _).from _, ⟨rfl, by rw [HG.out, HE.out]; rfl, World.cell?_setCell_same' _ _ _ (by rw [hcr]; rfl)⟩, hB.setCell (p := ⟨w.heap.size + 1, 0, none⟩) (by simp) _⟩
      · have e : inB x 0 (n - 1) = true := by simp [inB]; omega
        have HE := Lib.hid e; clear e
        obtain ⟨c, rfl⟩ := Int.eq_ofNat_of_zero_le (by omega : 0 ≤ x)
        have hc5 : c < 5 := by omega
        obtain ⟨hx, hxf⟩ := hN c hc5
        cases hh : hasB pre (c : Int)
        · gi_wp2
          exact ⟨(KeepsOthers.setCell _ _ _).from _, (Below.refl w.heap.size W).setCell (p := ⟨w.heap.size + 1 + 1, c, none⟩) (by simp; omega) _, ⟨⟨(other_cell (by omega)).trans hc, ⟨(other_cell (by omega)).trans hcr, by rw [World.frozen?_setCell]; exact hfr⟩, by rw [HG.out, HE.out, hh]; rfl⟩, hN.stored hc5⟩, hB.setCell (p := ⟨w.heap.size + 1 + 1, c, none⟩) (by simp; omega) _⟩
        · gi_wp2
          exact ⟨(KeepsOthers.setCell _ _ _).from _, ⟨rfl, by rw [HG.out, HE.out, hh]; rfl, World.cell?_setCell_same' _ _ _ (by rw [hcr]; rfl)⟩, hB.setCell (p := ⟨w.heap.size + 1, 0, none⟩) (by simp) _⟩
  case done =>
    rintro D ys W hD rfl ⟨⟨⟨hc, ⟨hcr, hfr⟩, hgood⟩, hN⟩, hB⟩ hK
    have hgood := Lib.hid hgood
    gi_wp2
    have hK' := (KeepsOthers.setCell W ⟨w.heap.size + 1, 0, none⟩ (.bool true)).same D _ hK rfl
    refine ⟨by simp, .inl ⟨_, _, rfl, run_takeDeferred hK', ?_⟩⟩
    have hc5 := cell_kept (World.cell?_setCell_same' W ⟨w.heap.size + 1, 0, none⟩ (.bool true) (by rw [hcr]; rfl)) (grownBy_putObj' _ D (.deferred none)) (fun r e => by cases e; exact ⟨_, hK', rfl⟩)
    refine ⟨.bool true, ?_, ret_bool hgood.out.symm, (hB.setCell (p := ⟨w.heap.size + 1, 0, none⟩) (by simp) _).trans (belowK_b (w := w) (Nat.le_refl _) _ D _ _ (by simp at hD; omega) hK' rfl rfl)⟩
    simp [results, Try.f57, go_sem, hc5]
  case stop =>
    rintro D c pre W hD hp ⟨⟨rfl, hbad, hcr⟩, hB⟩ hK
    have hbad := Lib.hid (goodL_prefix hp _ hbad)
    gi_wp2
    refine ⟨by simp, .inl ⟨_, _, rfl, run_takeDeferred hK, ?_⟩⟩
    have hc5 := cell_kept hcr (grownBy_putObj' _ D (.deferred none)) (fun r e => by cases e; exact ⟨_, hK, rfl⟩)
    refine ⟨.bool false, ?_, ret_bool hbad.out.symm, hB.trans (belowK_b (w := w) (Nat.le_refl _) W D _ _ (by simp at hD; omega) hK rfl rfl)⟩
    simp [results, Try.f57, go_sem, hc5]

set_option maxRecDepth 100000 in
set_option maxHeartbeats 1000000 in
/-- **impl.BallotValid**, at a number of candidates out of range. -/
theorem implValid_no (F : Fence) (hF : ∀ k, F.fn k) (hro : F.round = none) (a : Option Addr) (len cap : Nat) (n : Int) (w : World) (hn : n < 1 ∨ 5 < n) :
    CallsIn F 8 Try.prog 57 #[.slice a len cap, .int .i64 n] w fun e w' => e = .returned (.bool false) ∧ Below w.heap.size w w' := by
  rcases hn with h | h
  · have hd1 : decide (n < 1) = true := by simp; omega
    refine callsIn_of_wp Try.func57 rfl (hF _) ?_ hro
    simp only [Try.ntmps57, List.size_toArray, List.length_cons, List.length_nil, Nat.reduceAdd, Nat.reduceSub, Array.replicate_succ, Array.replicate_zero, List.push_toArray, List.append_toArray, List.nil_append, List.cons_append]
    gi_wp2
    exact bodyPost_ret (v := .bool false) (by simp [results, Try.f57, go_sem]) rfl ⟨rfl, ((Below.refl _ w).alloc (Nat.le_refl _) _).alloc (by simp) _⟩
  · have hd1 : decide (n < 1) = false := by simp; omega
    have hd5 : decide (5 < n) = true := by simp; omega
    refine callsIn_of_wp Try.func57 rfl (hF _) ?_ hro
    simp only [Try.ntmps57, List.size_toArray, List.length_cons, List.length_nil, Nat.reduceAdd, Nat.reduceSub, Array.replicate_succ, Array.replicate_zero, List.push_toArray, List.append_toArray, List.nil_append, List.cons_append]
    gi_wp2
    exact bodyPost_ret (v := .bool false) (by simp [results, Try.f57, go_sem]) rfl ⟨rfl, ((Below.refl _ w).alloc (Nat.le_refl _) _).alloc (by simp) _⟩

/-- **impl.BallotValid** answers as the model does. -/
theorem implValid_any (a : Option Addr) (len cap : Nat) (zs : List Int) (n : Int) (w : World) (h : IsInts w a len cap zs) :
    Calls Try.prog 57 #[.slice a len cap, .int .i64 n] w fun e w' => e = .returned (.bool (validB zs n)) ∧ Below w.heap.size w w' := by
  refine (callsIn_wide (n := 8)).1 ?_
  by_cases h1 : 1 ≤ n
  · by_cases h5 : n ≤ 5
    · rw [validB_in h1 h5]
      exact implValid_yes _ (fun _ => trivial) rfl a len cap zs n w h h1 h5
    · rw [validB_out (.inr (by omega))]
      exact implValid_no _ (fun _ => trivial) rfl a len cap n w (.inr (by omega))
  · rw [validB_out (.inl (by omega))]
    exact implValid_no _ (fun _ => trivial) rfl a len cap n w (.inl (by omega))

theorem implValid_wide (m : Nat) (a : Option Addr) (len cap : Nat) (zs : List Int) (n : Int) (w : World) (h : IsInts w a len cap zs) :
    CallsIn Fence.wide m Try.prog 57 #[.slice a len cap, .int .i64 n] w fun e w' => e = .returned (.bool (validB zs n)) ∧ Below w.heap.size w w' :=
  callsIn_wide.2 (implValid_any a len cap zs n w h)

end Go.Proofs.Ytafnmongglhlaaa

namespace Go.Proofs.Ytafnmongglhlaaa
open Go.RowKit

set_option maxHeartbeats 400000 in
/-- **l1Has**: whether a list has a number. -/
theorem l1Has_any (a : Option Addr) (len cap : Nat) (zs : List Int) (c : Int) (w : World) (h : IsInts w a len cap zs) :
    Calls Try.prog 105 #[.slice a len cap, .int .i64 c] w fun e w' => e = .returned (.bool (hasB zs c)) ∧ w = w' := by
  obtain ⟨h1, h2, h3, h4⟩ := h
  have H1 := Lib.hid h1; clear h1
  have H4 := Lib.hid h4; clear h4
  go_enter Try.func105, Try.ntmps105
  go_wp2
  go_loop [5] (fun i => ∃ k : Nat, k ≤ len ∧ i = .int .i64 k ∧ Hid (hasB (zs.take k) c = false)) (fun i => len - (intOf i).toNat)
  case atStart => exact ⟨0, Nat.zero_le _, rfl, by simp [Hid, hasB]⟩
  case round =>
    obtain ⟨k, hk, rfl, hc⟩ := hrel
    by_cases hlt : k < len
    · obtain ⟨b, off, rfl, hb, hcell⟩ := H4.out (by omega)
      have hck := hcell k hlt
      have HC := hasB_snoc zs k c (by rw [H1.out]; exact hlt)
      rw [hc.out, Bool.false_or] at HC
      have HC' := Lib.hid HC
      clear HC hcell
      by_cases heq : (zs[k]?.getD 0 == c) = true
      · go_wp2
        go_ret
        refine ⟨ret_bool ?_, rfl⟩
        have h5 := HC'.out
        rw [heq] at h5
        simp only [hasB, List.contains_iff_mem] at h5
        have h6 : c ∈ zs := List.mem_of_mem_take h5
        simp [hasB, h6]
      · have heq' : (zs[k]?.getD 0 == c) = false := by simpa using heq
        clear heq
        go_wp2
        go_round
        case rel => exact ⟨k + 1, by omega, by go_num, by unfold Hid; rw [HC'.out, heq']⟩
        case measure => simp [intOf]; omega
    · go_wp2
      go_ret
      refine ⟨ret_bool ?_, rfl⟩
      have h5 := hc.out
      rw [List.take_of_length_le (by rw [H1.out]; omega)] at h5
      exact h5.symm

end Go.Proofs.Ytafnmongglhlaaa

namespace Go.Proofs.Ytafnmongglhlaaa
open Go.RowKit

set_option maxHeartbeats 400000 in
/-- **spec.BallotValid**. -/
theorem specValid_any (a : Option Addr) (len cap : Nat) (zs : List Int) (n : Int) (w : World) (h : IsInts w a len cap zs) :
    Calls Try.prog 104 #[.slice a len cap, .int .i64 n] w fun e w' => e = .returned (.bool (validB zs n)) ∧ Dr w w' := by
  obtain ⟨m, hm⟩ : ∃ m, wrap64 (n - 1) = m := ⟨_, rfl⟩
  have H := Lib.hid h; clear h
  have HV : Hid (validB zs n = (goodTo zs m len && inB n 1 5)) := by unfold Hid validB; rw [hm, H.out.1]
  go_enter Try.func104, Try.ntmps104
  go_wp2
  go_loopw [5] (fun i wr => ∃ k : Nat, k ≤ len ∧ i = .int .i64 k ∧ Hid (goodTo zs m k = true) ∧ Dr w wr) (fun i _ => len - (intOf i).toNat)
  case atStart => exact ⟨0, Nat.zero_le _, rfl, by simp [Hid, goodTo], Dr.refl _⟩
  case round =>
    obtain ⟨k, hk, rfl, hc, hd⟩ := hrel
    by_cases hlt : k < len
    · have HI := H.out.dr hd
      have HK := HI.take hk
      obtain ⟨h1, h2, h3, h4⟩ := HI
      obtain ⟨b, off, rfl, hb, hcell⟩ := h4 (by omega)
      have hck := hcell k hlt
      have HS := goodTo_succ zs m k
      rw [hc.out, Bool.true_and] at HS
      have HS := Lib.hid HS
      clear h1 h4 hcell
      by_cases hin : inB (zs[k]?.getD 0) 0 m = true
      · cases hh : hasB (zs.take k) (zs[k]?.getD 0)
        all_goals
          go_wp2
          go_quiet (first | (go_at_call 81; exact quiet_same (l6In_any _ _ _ _)) | (go_at_call 105; exact quiet_same (l1Has_any _ _ _ _ _ _ (HK.drewN _))))
          go_wp2
        · go_roundw
          case rel => exact ⟨k + 1, by omega, by go_num, by unfold Hid; rw [HS.out, hin, hh]; rfl, hd.drewN _⟩
          case measure => simp [intOf]; omega
        · go_ret
          refine ⟨ret_bool ?_, hd.drewN _⟩
          rw [HV.out, goodTo_no (by rw [HS.out, hin, hh]; rfl) hlt]; rfl
      · have hin' : inB (zs[k]?.getD 0) 0 m = false := by simpa using hin
        clear hin
        go_wp2
        go_quiet (first | (go_at_call 81; exact quiet_same (l6In_any _ _ _ _)) | (go_at_call 105; exact quiet_same (l1Has_any _ _ _ _ _ _ (HK.drewN _))))
        go_wp2
        go_ret
        refine ⟨ret_bool ?_, hd.drewN _⟩
        rw [HV.out, goodTo_no (by rw [HS.out, hin']; rfl) hlt]; rfl
    · obtain rfl : k = len := by omega
      go_wp2_with (go_at_call 81; refine (l6In_any _ _ _ _).mono ?_; rintro e w' ⟨rfl, rfl⟩)
      go_ret
      refine ⟨ret_bool ?_, hd⟩
      rw [HV.out, hc.out, Bool.true_and]

end Go.Proofs.Ytafnmongglhlaaa

namespace Go.Proofs.Ytafnmongglhlaaa
open Go.RowKit

theorem ret_str {a b : ByteArray} (h : a = b) : Ending.returned (.string a) = .returned (.string b) := by rw [h]

set_option maxHeartbeats 1000000 in
/-- **spec.BallotText**. -/
theorem specText_any (a : Option Addr) (len cap : Nat) (zs : List Int) (w : World) (h : IsInts w a len cap zs) :
    Calls Try.prog 72 #[.slice a len cap] w fun e w' => e = .returned (.string (txtB zs)) ∧ Dr w w' := by
  have hm := h.2.2.1
  have H := Lib.hid h; clear h
  cases hv : validB zs 5
  · have e : Hid (txtB zs = ByteArray.empty) := by simp [Hid, txtB, hv]
    go_enter Try.func72, Try.ntmps72
    go_wp2
    go_loopw [3, 4] (fun o i wr => o = .string ByteArray.empty ∧ i = .int .i64 0 ∧ wr = w) (fun _ _ _ => 0)
    case atStart => exact ⟨rfl, rfl, rfl⟩
    case round =>
      obtain ⟨rfl, rfl, rfl⟩ := hrel
      by_cases hl : 0 < len
      · go_wp2_with fail
        refine (specValid_any _ _ _ zs _ _ H.out).mono ?_
        rintro e1 w1 ⟨rfl, hd⟩
        go_wp2
        go_ret
        exact ⟨ret_str e.out.symm, hd⟩
      · go_wp2
        go_ret
        exact ⟨ret_str e.out.symm, Dr.refl _⟩
  · have e : Hid (txtB zs = txtOf zs) := by simp [Hid, txtB, hv]
    have HR := Lib.hid (vB_mem hv).2.2
    go_enter Try.func72, Try.ntmps72
    go_wp2
    go_loopw [3, 4] (fun o i wr => ∃ k : Nat, k ≤ len ∧ i = .int .i64 k ∧ (∃ s, o = .string s ∧ s.size ≤ k ∧ Hid (s = txtOf (zs.take k))) ∧ Dr w wr) (fun _ i _ => len - (intOf i).toNat)
    case atStart => exact ⟨0, Nat.zero_le _, rfl, ⟨_, rfl, Nat.le_refl 0, by unfold Hid; rfl⟩, Dr.refl _⟩
    case round =>
      obtain ⟨k, hk, rfl, ⟨s, rfl, hs, hst⟩, hd⟩ := hrel
      obtain ⟨h1, _, _, h4⟩ := H.out.dr hd
      have H1 := Lib.hid h1; clear h1
      by_cases hlt : k < len
      · have hkz : k < zs.length := by rw [H1.out]; exact hlt
        have hr := HR.out (zs[k]?.getD 0) (by simp [hkz])
        obtain ⟨c, hcz⟩ := Int.eq_ofNat_of_zero_le hr.1
        obtain ⟨b, o, rfl, hb, hcell⟩ := h4 (by omega)
        have hz := hcell k hlt
        rw [hcz] at hz
        have hc5 : c < 5 := by omega
        have HT := take_snoc zs k hkz
        rw [hcz] at HT
        have HT := Lib.hid HT
        clear hcell h4 hr hcz hkz
        go_wp2_with fail
        refine (specValid_any _ _ _ zs _ _ (H.out.dr hd)).mono ?_
        rintro e1 w1 ⟨rfl, hd1⟩
        have hz1 := (Below.cell (p := ⟨b, o + k, none⟩) (hd1.below wr.heap.size) hb).trans hz
        clear hz
        go_wp2
        go_quiet (fail)
        go_wp2
        go_roundw
        case rel =>
          refine ⟨k + 1, by omega, by go_num, ⟨_, rfl, ?_, ?_⟩, (hd.trans hd1).drewN _⟩
          · rw [letter_of c hc5, ByteArray.size_append, txtOf_size]; simp; omega
          · unfold Hid; rw [letter_of c hc5, HT.out, txtOf_snoc, hst.out]
        case measure => simp [intOf]; omega
      · obtain rfl : k = len := by omega
        clear h4
        go_wp2
        go_ret
        refine ⟨ret_str ?_, hd⟩
        rw [e.out, hst.out, List.take_of_length_le (by rw [H1.out]; omega)]

end Go.Proofs.Ytafnmongglhlaaa

namespace Go.Proofs.Ytafnmongglhlaaa
open Go.RowKit Go.Shelf

/-- A candidate's number. -/
abbrev C5 := { z : Int // 0 ≤ z ∧ z < 5 }

theorem byte_info : (Try.prog.info? 5).map (fun i => (i.zero, i.size, i.bytes)) = some (some (.int .u8 0), 1, 1) := by kernel_rfl

end Go.Proofs.Ytafnmongglhlaaa

namespace Go.Proofs.Ytafnmongglhlaaa
open Go.RowKit

/-- What a row owns it owns while what lay there stays. -/
theorem owns_below {w w' : World} {base n size : Nat} {e : TypeId} {v : Value} {xs : List Value} (h : w.ownsRow base e size v n xs) (hb : Below w.heap.size w w') : w'.ownsRow base e size v n xs := by
  refine h.kept (row := none) ⟨hb.os, hb.tape, hb.output, hb.size, fun k hk _ => hb.block k hk⟩ ?_
  cases v.ownBlock <;> simp

/-- What is returned: the ballot, in memory of the call's own; and whether there is one. -/
def Parsed (w : World) (s : ByteArray) (e : Ending) (w' : World) : Prop :=
  ∃ a cap, e = .returned (.tuple #[.slice a (parseL s).length cap, .bool (validB (nums s) 5)]) ∧ w'.ownsRow w.heap.size 3 1 (.slice a (parseL s).length cap) (parseL s).length ((parseL s).map (Value.int .i64)) ∧ Below w.heap.size w w'

theorem ret_two {v v' : Value} {b b' : Bool} (h : v = v') (hb : b = b') : Ending.returned (.tuple #[v, .bool b]) = .returned (.tuple #[v', .bool b']) := by rw [h, hb]

set_option maxHeartbeats 1000000 in
/-- **spec.BallotParse**. -/
theorem specParse_any (s : ByteArray) (w : World) (hs : s.size ≤ 1048600) :
    Calls Try.prog 117 #[.string s] w (Parsed w s) := by
  obtain ⟨i0, hi, hz0, hz1, hz2⟩ := info_parts int_info
  have hown0 := World.ownsRow_lit (base := w.heap.size) (e := 3) (size := 1) w #[] 0 (Nat.le_refl _) (by unfold maxLen; omega) rfl
  have HO := Lib.hid hown0; clear hown0
  go_enter Try.func117, Try.ntmps117
  go_wp2
  go_loopw [4, 5] (fun o i wr => ∃ k : Nat, k ≤ s.size ∧ i = .int .i64 k ∧ (∃ v, o = v ∧ Hid (wr.ownsRow w.heap.size 3 1 v k (((nums s).take k).map (Value.int .i64)))) ∧ Below w.heap.size w wr) (fun _ i _ => s.size - (intOf i).toNat)
  case atStart => exact ⟨0, Nat.zero_le _, rfl, ⟨_, rfl, HO.out⟩, (Below.refl _ w).alloc (Nat.le_refl _) _⟩
  case round =>
    obtain ⟨k, hk, rfl, ⟨v, rfl, hov⟩, hB⟩ := hrel
    by_cases hlt : k < s.size
    · have h256 : (s[k].toNat : Int) < 256 := by have := s[k].toNat_lt; omega
      have HN := Lib.hid (nums_step s k hlt)
      have hsz := hB.size
      go_wp2_with (at_builtin; refine wpList_append_own _ rfl _ _ 24 rfl w.heap.size 3 i0 (.int .i64 0) 1 8 Try.underlying24 hi hz0 hz1 hz2 rfl (by decide) _ _ _ rfl (hov.out.alloc _) ⟨wr.heap.size, 0, none⟩ 1 1 [.int .i64 ((s[k].toNat : Int) - 97)] rfl rfl (cell_one_new _ _ _) (by simp [Value.oneCell']) (by unfold maxLen; omega) (by omega) (by simp; omega) ?_; intro v' w3 hown' hgrow _)
      have hB3 : Below w.heap.size w w3 := (hB.alloc hsz _).grown hgrow (by simp; omega) (fun j ej => (hov.out.lt j ej).1)
      clear hgrow
      go_roundw
      case rel =>
        refine ⟨k + 1, by omega, by go_num, ⟨v', rfl, ?_⟩, hB3⟩
        unfold Hid
        rw [HN.out, List.map_append]
        exact hown'
      case measure => simp [intOf]; omega
    · obtain rfl : k = s.size := by omega
      have hall : (nums s).take s.size = nums s := List.take_of_length_le (by rw [nums_length]; omega)
      have ho := hov.out
      rw [hall] at ho
      clear hov hall
      obtain ⟨a, cap, hv⟩ := owns_slice ho
      rw [hv] at ho ⊢
      clear hv
      have HI := Lib.hid (IsInts.of_owned ho hs)
      have HO2 := Lib.hid ho; clear ho
      cases hok : validB (nums s) 5
      · have hp : Hid (parseL s = []) := by simp [Hid, parseL, hok]
        go_wp2_with fail
        refine (specValid_any _ _ _ (nums s) _ _ HI.out).mono ?_
        rintro e w4 ⟨rfl, hd⟩
        have hB4 := hB.trans (hd.below _)
        have hsz4 := hB4.size
        go_wp2
        go_ret2
        refine ⟨some ⟨w4.heap.size, 0, none⟩, 0, ?_, ?_, ?_⟩
        · rw [hp.out, hok]; rfl
        · rw [hp.out]; exact World.ownsRow_lit w4 #[] 0 hsz4 (by unfold maxLen; omega) rfl
        · exact hB4.alloc hsz4 _
      · have hp : Hid (parseL s = nums s) := by simp [Hid, parseL, hok]
        go_wp2_with fail
        refine (specValid_any _ _ _ (nums s) _ _ HI.out).mono ?_
        rintro e w4 ⟨rfl, hd⟩
        have hB4 := hB.trans (hd.below _)
        go_wp2
        go_ret2
        refine ⟨a, cap, ?_, ?_, hB4⟩
        · rw [hp.out, nums_length, hok]; rfl
        · rw [hp.out, nums_length]; obtain ⟨q, rfl⟩ := hd; exact HO2.out

/-- **spec.BallotParse**, its answer named. -/
theorem specParse_as (s : ByteArray) (pl : List Int) (ok : Bool) (w : World) (hs : s.size ≤ 1048600) (h1 : parseL s = pl) (h2 : validB (nums s) 5 = ok) :
    Calls Try.prog 117 #[.string s] w fun e w' => ∃ a cap, e = .returned (.tuple #[.slice a pl.length cap, .bool ok]) ∧ w'.ownsRow w.heap.size 3 1 (.slice a pl.length cap) pl.length (pl.map (Value.int .i64)) ∧ Below w.heap.size w w' := by
  subst h1; subst h2; exact specParse_any s w hs

end Go.Proofs.Ytafnmongglhlaaa

namespace Go.Proofs.Ytafnmongglhlaaa
open Go.RowKit Go.Shelf

attribute [local go_sem] Oper.semAt_some

/-- Different numbers from 0 to n-1 are at most n. -/
theorem short_of : ∀ (n : Nat) (l : List Int), l.Nodup → (∀ z ∈ l, 0 ≤ z ∧ z < (n : Int)) → l.length ≤ n
  | 0, l, _, h => by
    cases l with
    | nil => exact Nat.le_refl 0
    | cons z t => have := h z (by simp); omega
  | n + 1, l, hd, h => by
    by_cases hm : (n : Int) ∈ l
    · have h1 := short_of n (l.erase (n : Int)) (hd.erase _) (fun z hz => by
        have hz' := (hd.mem_erase_iff).1 hz
        have := h z hz'.2
        have hne := hz'.1
        omega)
      rw [List.length_erase_of_mem hm] at h1
      omega
    · have h1 := short_of n l hd (fun z hz => by
        have := h z hz
        have hne : z ≠ (n : Int) := fun e => hm (e ▸ hz)
        omega)
      omega
theorem goodTo_nodup {zs : List Int} {m : Int} (h : goodTo zs m zs.length = true) : zs.Nodup := by
  rw [List.Nodup, List.pairwise_iff_getElem]
  intro i j hi hj hij e
  simp only [goodTo, List.all_eq_true, List.mem_range] at h
  have := h j hj
  simp only [Bool.and_eq_true, Bool.not_eq_true', hasB] at this
  have h2 := this.2
  simp only [hj, List.getElem?_eq_getElem, Option.getD_some, List.contains_eq_mem, decide_eq_false_iff_not] at h2
  exact h2 (by rw [← e]; exact List.mem_take_iff_getElem.2 ⟨i, by omega, rfl⟩)
theorem validB_short {zs : List Int} (h : validB zs 5 = true) : zs.length ≤ 5 := by
  have hm := (vB_mem h).2.2
  rw [validB_in (by omega) (by omega)] at h
  exact short_of 5 zs (goodTo_nodup h) hm

set_option maxRecDepth 100000 in
set_option maxHeartbeats 2000000 in
/-- letterCandidates's closure. -/
theorem letters1_in (F : Fence) (n : Nat) (hF : F.fn 94) (hro : F.round = none) (hn : 1 ≤ n) (l Bs n₀ : Nat) (s : ByteArray) (hreach : s.size ≤ 1048600) (hb : Bs < n₀) (J Jx : List Int → World → Prop)
    (hY : ∀ pre x W, J pre W → pre.length < s.size → YieldAt F (n - 1) Try.prog l #[.int .i64 x] W fun e W' =>
      (e = .returned (.bool true) ∧ J (pre ++ [x]) W' ∧ Below n₀ W W') ∨ (e = .returned (.bool false) ∧ Jx (pre ++ [x]) W'))
    (W : World) (hBs : W.cell? ⟨Bs, 0, none⟩ = some (.string s)) (h0 : J [] W) :
    CallsIn F n Try.prog 94 #[.func (.yield l) #[] #[], .pointer (some ⟨Bs, 0, none⟩)] W fun e W' => (∃ v, e = .returned v) ∧
      ((∃ ys, ys = upto (fun j => (nums s)[j]?.getD 0) s.size ∧ J ys W') ∨ (∃ pre, (∃ k, k ≤ s.size ∧ pre = upto (fun j => (nums s)[j]?.getD 0) k) ∧ Jx pre W')) := by
  refine callsIn_of_wp Try.func94 rfl hF ?_ hro
  simp only [Try.ntmps94, List.size_toArray, List.length_cons, List.length_nil, Nat.reduceAdd, Nat.reduceSub, Array.replicate_succ, Array.replicate_zero, List.push_toArray, List.append_toArray, List.nil_append, List.cons_append]
  gi_wp2
  gi_loopw [6] (fun i wr => ∃ k : Nat, k ≤ s.size ∧ i = .int .i64 k ∧ J (upto (fun j => (nums s)[j]?.getD 0) k) wr ∧ Below n₀ W wr)
    (fun i _ => s.size - (intOf i).toNat)
  case atStart => exact ⟨0, Nat.zero_le _, rfl, h0, Below.refl _ _⟩
  case round =>
    obtain ⟨k, hk, rfl, hJs, hnx⟩ := hrel
    have hBs' : wr.cell? ⟨Bs, 0, none⟩ = some (.string s) := (hnx.cell (p := ⟨Bs, 0, none⟩) hb).trans hBs
    by_cases hlt : k < s.size
    · have h256 : (s[k].toNat : Int) < 256 := by have := s[k].toNat_lt; omega
      have HN := Lib.hid (nums_at s k hlt)
      obtain ⟨fn, tmps, assign, body, hy, hR⟩ := hY _ ((s[k].toNat : Int) - 97) wr hJs (by rw [upto_length]; exact hlt)
      gi_wp2
      refine hR.mono ?_
      rintro e W3 (⟨rfl, hJ3, hk3⟩ | ⟨rfl, hJx3⟩)
      · gi_wp2
        go_roundw
        case rel => exact ⟨k + 1, by omega, by simp, by rw [upto_succ, HN.out]; exact hJ3, hnx.trans hk3⟩
        case measure => simp [intOf]; omega
      · gi_wp2
        refine bodyPost_ret (results_none rfl _ _ _) rfl ?_
        exact ⟨⟨_, rfl⟩, .inr ⟨_, ⟨k + 1, by omega, rfl⟩, by rw [upto_succ, HN.out]; exact hJx3⟩⟩
    · obtain rfl : k = s.size := by omega
      gi_wp2
      go_end0
      exact ⟨⟨_, rfl⟩, .inl ⟨_, rfl, hJs⟩⟩

/-- **letterCandidates(text) yields the numbers of its letters in order.** -/
theorem letters_stops (F : Fence) (n : Nat) (hF : F.fn 94) (hro : F.round = none) (hn : 1 ≤ n) (Bs : Nat) (s : ByteArray) (hreach : s.size ≤ 1048600) (w0 w : World) (hBs : Bs < w0.heap.size) (hb0 : Below w0.heap.size w0 w)
    (hc : w0.cell? ⟨Bs, 0, none⟩ = some (.string s)) :
    SeqStopsK F n Try.prog 94 #[.pointer (some ⟨Bs, 0, none⟩)] (fun x : Int => #[Value.int .i64 x]) (Below w0.heap.size) (fun ys => ys = nums s) (fun pre => pre <+: nums s) s.size w := fun l J Jx W hW _ _ hY h0 => by
  have hB := hb0.trans (hW.mono hb0.size)
  have hl := nums_length s
  refine (letters1_in F n hF hro hn l Bs w0.heap.size s hreach hBs J Jx hY W ((hB.cell (p := ⟨Bs, 0, none⟩) hBs).trans hc) h0).mono ?_
  rintro e W' ⟨he, ⟨ys, rfl, hj⟩ | ⟨pre, ⟨k, hk, rfl⟩, hj⟩⟩
  · exact ⟨he, .inl ⟨_, by rw [← hl]; exact upto_all _, hj⟩⟩
  · exact ⟨he, .inr ⟨_, by rw [upto_take _ (by omega)]; exact List.take_prefix _ _, hj⟩⟩

set_option maxHeartbeats 1000000 in
theorem letterCandidates_in (F : Fence) (n : Nat) (hF : F.fn 56) (hro : F.round = none) (s : ByteArray) (w : World) :
    CallsIn F n Try.prog 56 #[.string s] w fun e w' => e = .returned (.func (.func 94) #[] #[.pointer (some ⟨w.heap.size, 0, none⟩)]) ∧ w' = w.alloc (.cells #[.string s] 9) := by
  refine callsIn_of_wp Try.func56 rfl hF ?_ hro
  simp only [Try.ntmps56, List.size_toArray, List.length_cons, List.length_nil, Nat.reduceAdd, Nat.reduceSub, Array.replicate_succ, Array.replicate_zero, List.push_toArray, List.append_toArray, List.nil_append, List.cons_append]
  gi_wp2
  go_ret
  exact ⟨rfl, rfl⟩

set_option maxRecDepth 100000 in
set_option maxHeartbeats 2000000 in
/-- **slices.AppendSeq** of nothing and of letterCandidates's value. -/
theorem appendSeq_in (Bs : Nat) (s : ByteArray) (hreach : s.size ≤ 1048600) (w : World) (hBs : Bs < w.heap.size) (hc0 : w.cell? ⟨Bs, 0, none⟩ = some (.string s)) :
    CallsIn Fence.wide 8 Try.prog 93 #[.slice none 0 0, .func (.func 94) #[] #[.pointer (some ⟨Bs, 0, none⟩)]] w fun e w' =>
      ∃ v, e = .returned v ∧ w'.ownsRow w.heap.size 3 1 v s.size ((nums s).map (Value.int .i64)) ∧ Below w.heap.size w w' := by
  have hro : Fence.wide.round = none := rfl
  obtain ⟨i0, hi, hz0, hz1, hz2⟩ := info_parts int_info
  have HC := Lib.hid hc0; clear hc0
  refine callsIn_of_wp_marks Try.func93 rfl trivial ?_ hro
  simp only [Try.ntmps93, List.size_toArray, List.length_cons, List.length_nil, Nat.reduceAdd, Nat.reduceSub, Array.replicate_succ, Array.replicate_zero, List.push_toArray, List.append_toArray, List.nil_append, List.cons_append]
  gi_wp2
  have bO := Boxed.new w 24 (.slice none 0 0)
  have hB0 : Below w.heap.size w (w.alloc (.cells #[.slice none 0 0] 24)) := (Below.refl _ w).alloc (Nat.le_refl _) _
  refine wpIn_rangeFunc_ownG hro (by omega) (gf := 94) (lb := #[.pointer (some ⟨Bs, 0, none⟩)]) rfl trivial (enters_of Try.func94 (by kernel_rfl) rfl)
    (letters_stops Fence.wide 7 trivial hro (by omega) Bs s hreach w _ hBs hB0 HC.out) belowK_t (belowK_b (by simp)) (Below.refl _ _) (fun _ => rfl)
    (fun pre W => (∃ v, Boxed W w.heap.size 24 v ∧ W.ownsRow w.heap.size 3 1 v pre.length (pre.map (Value.int .i64)) ∧ True) ∧ Below w.heap.size w W)
    (fun _ _ _ => False)
    (OwnFrom.and (Own.from (holdsRow_own w.heap.size w.heap.size 24 3 1 (fun (pre : List Int) => pre.length) (fun (pre : List Int) => pre.map (Value.int .i64)) (fun (pre : List Int) v => True)) _) (ownFrom_below (Nat.le_refl _) (by simp)))
    (fun _ _ _ _ _ hs _ _ => hs)
    ⟨⟨_, bO, World.ownsRow_nil _ _ _ _, trivial⟩, hB0⟩
    (fun z => { tmps := #[.slice none 0 0, .func (.func 94) #[] #[.pointer (some ⟨Bs, 0, none⟩)], .pointer (some ⟨w.heap.size, 0, none⟩), undef, .slice none 0 0, .int .i64 z,
      .func (.func 94) #[] #[.pointer (some ⟨Bs, 0, none⟩)], .int .i64 z, undef, undef, undef, undef, undef], defers := [] }) ?assign ?body ?done ?stop
  case assign =>
    intro l z W K hK
    gi_wp2
    exact hK
  case body =>
    rintro l pre z W ⟨⟨v, hv, hrow, _⟩, hB⟩ hlt
    have hc := hv.cell
    gi_wp2_with (gi_at_builtin; refine wpListIn_append_own _ rfl _ _ 24 rfl w.heap.size 3 i0 (.int .i64 0) 1 8 Try.underlying24 hi hz0 hz1 hz2 rfl (by decide) _ _ _ rfl (hrow.alloc _) ⟨W.heap.size, 0, none⟩ 1 1 [.int .i64 z] rfl rfl (cell_one_new _ _ _) (by simp [Value.oneCell']) (by unfold maxLen; omega) (by omega) (by have := hB.size; simp; omega) ?_; intro v' w3 hown' hgrow _; obtain ⟨g', cap', rfl⟩ := ownsRow_succ hown'; obtain ⟨hv1, hv2, hr2, hk2, hb2⟩ := hv.appended (by decide) hrow hB.size (Nat.le_refl _) hown' hgrow; have hc1 := hv1.cell; have hf1 := hv1.frozen)
    exact ⟨hk2.from _, hb2, ⟨_, hv2, by simpa using hr2, trivial⟩, hB.trans hb2⟩
  case done =>
    rintro D ys W hD rfl ⟨⟨v, hv, hrow, _⟩, hB⟩ hK
    have hc := hv.cell
    rw [nums_length] at hrow
    have HRow := Lib.hid hrow; clear hrow
    gi_wp2
    refine ⟨by simp, .inl ⟨_, _, rfl, run_takeDeferred hK, ?_⟩⟩
    exact ⟨_, results_tmp rfl _ _ _, v, rfl, ownsRow_putObj HRow.out _ hK rfl, hB.trans (belowK_b (w := w) (Nat.le_refl _) W D _ _ (by simp at hD; omega) hK rfl rfl)⟩
  case stop =>
    rintro D c pre W _ _ h _
    exact h.elim

set_option maxRecDepth 100000 in
set_option maxHeartbeats 1000000 in
/-- **slices.Collect** of letterCandidates's value. -/
theorem collect_in (Bs : Nat) (s : ByteArray) (hreach : s.size ≤ 1048600) (w : World) (hBs : Bs < w.heap.size) (hc0 : w.cell? ⟨Bs, 0, none⟩ = some (.string s)) :
    Calls Try.prog 55 #[.func (.func 94) #[] #[.pointer (some ⟨Bs, 0, none⟩)]] w fun e w' =>
      ∃ v, e = .returned v ∧ w'.ownsRow w.heap.size 3 1 v s.size ((nums s).map (Value.int .i64)) ∧ Below w.heap.size w w' := by
  have HC := Lib.hid hc0; clear hc0
  go_enter Try.func55, Try.ntmps55
  go_wp2_with fail
  refine (callsIn_wide.1 (appendSeq_in Bs s hreach w hBs HC.out)).mono ?_
  rintro e w1 ⟨v, rfl, ho, hb⟩
  go_wp2
  go_ret
  exact ⟨_, rfl, ho, hb⟩

end Go.Proofs.Ytafnmongglhlaaa

namespace Go.Proofs.Ytafnmongglhlaaa
open Go.RowKit Go.Shelf

set_option maxRecDepth 100000 in
set_option maxHeartbeats 1000000 in
/-- **impl.BallotParse** answers as the model does. -/
theorem implParse_any (s : ByteArray) (w : World) (hs : s.size ≤ 1048600) :
    Calls Try.prog 27 #[.string s] w (Parsed w s) := by
  by_cases hlong : 5 < s.size
  · have hok : validB (nums s) 5 = false := by
      cases h : validB (nums s) 5 with
      | false => rfl
      | true => have := validB_short h; rw [nums_length] at this; omega
    have hp : Hid (parseL s = []) := by simp [Hid, parseL, hok]
    have HOK := Lib.hid hok; clear hok
    go_enter Try.func27, Try.ntmps27
    go_wp2
    go_ret2
    refine ⟨none, 0, ?_, ?_, Below.refl _ _⟩
    · rw [hp.out, HOK.out]; rfl
    · rw [hp.out]; exact World.ownsRow_nil _ _ _ _
  · have hsh : s.size ≤ 5 := by omega
    clear hlong
    go_enter Try.func27, Try.ntmps27
    go_wp2_with fail
    refine (callsIn_wide.1 (letterCandidates_in Fence.wide 8 trivial rfl s _)).mono ?_
    rintro e w1 ⟨rfl, rfl⟩
    have bS := Boxed.new w 9 (.string s)
    go_wp2_with fail
    refine (collect_in w.heap.size s hs _ (by simp) bS.cell).mono ?_
    rintro e w2 ⟨v, rfl, ho, hb⟩
    have hB2 : Below w.heap.size w w2 := ((Below.refl _ w).alloc (Nat.le_refl _) _).trans (hb.mono (by simp))
    have ho := ho.mono (base' := w.heap.size) (by simp)
    obtain ⟨a, cap, hv⟩ := owns_slice ho
    rw [hv] at ho ⊢
    clear hv hb bS
    have HI := Lib.hid (IsInts.of_owned ho hs)
    have HO2 := Lib.hid ho; clear ho
    cases hok : validB (nums s) 5
    · have hp : Hid (parseL s = []) := by simp [Hid, parseL, hok]
      go_wp2_with fail
      refine (implValid_any _ _ _ (nums s) _ _ HI.out).mono ?_
      rintro e w4 ⟨rfl, hd⟩
      have hB4 := hB2.trans (hd.mono hB2.size)
      go_wp2
      go_ret2
      refine ⟨none, 0, ?_, ?_, hB4⟩
      · rw [hp.out, hok]; rfl
      · rw [hp.out]; exact World.ownsRow_nil _ _ _ _
    · have hp : Hid (parseL s = nums s) := by simp [Hid, parseL, hok]
      go_wp2_with fail
      refine (implValid_any _ _ _ (nums s) _ _ HI.out).mono ?_
      rintro e w4 ⟨rfl, hd⟩
      have hB4 := hB2.trans (hd.mono hB2.size)
      go_wp2
      go_ret2
      refine ⟨a, cap, ?_, ?_, hB4⟩
      · rw [hp.out, nums_length, hok]; rfl
      · rw [hp.out, nums_length]; exact owns_below HO2.out hd

/-- **impl.BallotParse**, its answer named. -/
theorem implParse_as (s : ByteArray) (pl : List Int) (ok : Bool) (w : World) (hs : s.size ≤ 1048600) (h1 : parseL s = pl) (h2 : validB (nums s) 5 = ok) :
    Calls Try.prog 27 #[.string s] w fun e w' => ∃ a cap, e = .returned (.tuple #[.slice a pl.length cap, .bool ok]) ∧ w'.ownsRow w.heap.size 3 1 (.slice a pl.length cap) pl.length (pl.map (Value.int .i64)) ∧ Below w.heap.size w w' := by
  subst h1; subst h2; exact implParse_any s w hs

end Go.Proofs.Ytafnmongglhlaaa
