/-
  spec.BallotText and impl.BallotText answer alike: for every ballot of at most 1048600 ints; neither writes into memory that was there.
-/
import Derived.Test.YtdmjgicopnihgaaValid
import Derived.Test.YtdmjgicopnihgaaSText
import Derived.Laws.BytesArg
import Derived.Laws.Concat
import Derived.Maps.AppendAt
namespace Go.Proofs.Ytdmjgicopnihgaa
open Go.RowKit Go.Shelf

attribute [local go_sem] Oper.semAt_some

/-- A candidate's number. -/
abbrev C5 := { z : Int // 0 ≤ z ∧ z < 5 }

theorem byte_info : (Try.prog.info? 5).map (fun i => (i.zero, i.size, i.bytes)) = some (some (.int .u8 0), 1, 1) := by kernel_rfl

set_option maxRecDepth 100000 in
set_option maxHeartbeats 2000000 in
/-- **impl.BallotText**, at a valid ballot. -/
theorem implText_yes (a : Option Addr) (len cap : Nat) (zs : List Int) (w : World) (h : IsInts w a len cap zs) (hv : validB zs 5 = true) :
    CallsIn Fence.wide 8 Try.prog 62 #[.slice a len cap] w fun e w' => e = .returned (.string (txtOf zs)) ∧ Below w.heap.size w w' := by
  have hro : Fence.wide.round = none := rfl
  have HR := Lib.hid (vB_mem hv).2.2
  obtain ⟨i0, hi, hz0, hz1, hz2⟩ := info_parts byte_info
  have hm := h.2.2.1
  have H := Lib.hid h; clear h
  refine callsIn_of_wp_marks Try.func62 rfl trivial ?_ hro
  simp only [Try.ntmps62, List.size_toArray, List.length_cons, List.length_nil, Nat.reduceAdd, Nat.reduceSub, Array.replicate_succ, Array.replicate_zero, List.push_toArray, List.append_toArray, List.nil_append, List.cons_append]
  gi_wp2
  refine ⟨trivial, ?_⟩
  gi_at_call 65
  refine (implValid_wide _ _ _ _ zs _ _ H.out).mono ?_
  rintro e w1 ⟨rfl, hb1⟩
  have hsz : w.heap.size ≤ w1.heap.size := hb1.size
  gi_wp2_with (gi_at_make; refine wpListIn_make_own _ rfl _ _ 22 rfl w1.heap.size 5 i0 (.int .u8 0) 1 Try.underlying22 hi hz0 hz1 .i64 .i64 _ 5 rfl rfl rfl (by rw [hz2]; omega) (by unfold maxLen; omega) (Nat.le_refl _) ?_; intro w2 hown hgrow)
  have hB2 : Below w1.heap.size w1 w2 := (Below.refl _ w1).grown hgrow (Nat.le_refl _) (fun k e => by cases e)
  have hsz2 : w1.heap.size ≤ w2.heap.size := hgrow.size
  have HOWN := Lib.hid hown; clear hown hgrow
  gi_wp2
  refine ⟨trivial, ?_⟩
  gi_at_call 69
  refine (candidates_in Fence.wide _ (by omega) trivial trivial hro _ _ _ _).mono ?_
  rintro e w' ⟨rfl, rfl⟩
  gi_wp2
  have bO := (Boxed.new w2 22 (.slice (some ⟨w1.heap.size, 0, none⟩) 0 5)).alloc (.cells #[.slice a len cap] 54)
  have bV := Boxed.new (w2.alloc (.cells #[.slice (some ⟨w1.heap.size, 0, none⟩) 0 5] 22)) 54 (.slice a len cap)
  rw [World.size_alloc] at bV
  have hB3 : Below w1.heap.size w1 ((w2.alloc (.cells #[.slice (some ⟨w1.heap.size, 0, none⟩) 0 5] 22)).alloc (.cells #[.slice a len cap] 54)) := (hB2.alloc hsz2 _).alloc (by simp; omega) _
  refine wpIn_rangeFunc_ownG hro (by omega) (gf := 89) (lb := #[.pointer (some ⟨w2.heap.size + 1, 0, none⟩)]) rfl trivial (enters_of Try.func89 (by kernel_rfl) rfl)
    (values_stops_g (fun z : C5 => z.1) (zs.pmap Subtype.mk HR.out) Fence.wide 7 trivial hro (by omega) (w2.heap.size + 1) a len cap zs (by simp [List.map_pmap]) w1 _ (by simp) hB3 bV.cell (H.out.below hb1)) belowK_t (belowK_b (by simp; omega)) (Below.refl _ _) (fun _ => rfl)
    (fun pre W => (∃ v, Boxed W w2.heap.size 22 v ∧ W.ownsRow w1.heap.size 5 1 v pre.length (pre.map fun z => Value.int .u8 (97 + z.1)) ∧ (∃ g cap, v = .slice (some ⟨g, 0, none⟩) pre.length cap)) ∧ Below w1.heap.size w1 W)
    (fun _ _ _ => False)
    (OwnFrom.and (Own.from (holdsRow_own w1.heap.size w2.heap.size 22 5 1 (fun (pre : List C5) => pre.length) (fun (pre : List C5) => pre.map fun z => Value.int .u8 (97 + z.1)) (fun (pre : List C5) v => ∃ g cap, v = .slice (some ⟨g, 0, none⟩) pre.length cap)) _) (ownFrom_below (Nat.le_refl _) (by simp; omega)))
    (fun _ _ _ _ _ hs _ _ => hs)
    ⟨⟨_, bO, (HOWN.out.alloc _).alloc _, ⟨_, _, rfl⟩⟩, hB3⟩
    (fun z => { tmps := #[.slice a len cap, undef, .string ⟨#[]⟩, .pointer (some ⟨w2.heap.size, 0, none⟩), .int .i64 z.1, .slice a len cap, .bool true, .bool false, .slice (some ⟨w1.heap.size, 0, none⟩) 0 5, .slice a len cap,
      .func (.func 89) #[] #[.pointer (some ⟨w2.heap.size + 1, 0, none⟩)], .int .i64 z.1, undef, undef, undef, undef, undef, undef, undef, undef], defers := [] }) ?assign ?body ?done ?stop
  case assign =>
    intro l z W K hK
    gi_wp2
    exact hK
  case body =>
    rintro l pre ⟨z, hz0', hz5⟩ W ⟨⟨v, hv, hrow, hnil⟩, hB⟩ hlt
    have hc := hv.cell
    have HN := Lib.hid hnil; clear hnil
    gi_wp2_with (gi_at_builtin; refine wpListIn_append_own _ rfl _ _ 22 rfl w1.heap.size 5 i0 (.int .u8 0) 1 1 Try.underlying22 hi hz0 hz1 hz2 rfl (by decide) _ _ _ rfl (hrow.alloc _) ⟨W.heap.size, 0, none⟩ 1 1 [.int .u8 (97 + z)] rfl rfl (cell_one_new _ _ _) (by simp [Value.oneCell']) (by unfold maxLen; omega) (by omega) (by have := hB.size; simp; omega) ?_; intro v' w3 hown' hgrow _; obtain ⟨g', cap', rfl⟩ := ownsRow_succ hown'; obtain ⟨hv1, hv2, hr2, hk2, hb2⟩ := hv.appended (by decide) hrow hB.size (by omega) hown' hgrow; have hc1 := hv1.cell; have hf1 := hv1.frozen)
    exact ⟨hk2.from _, hb2, ⟨_, hv2, by simpa using hr2, ⟨g', cap', by simp⟩⟩, hB.trans hb2⟩
  case done =>
    rintro D ys W hD hys ⟨⟨v, hv, hrow, ⟨g, cp, rfl⟩⟩, hB⟩ hK
    have hyl : ys.length = len := by rw [hys]; simp [H.out.1]
    have hym : (ys.map fun z => Value.int .u8 (97 + z.1)) = (zs.map fun z => 97 + z).map (Value.int .u8) := by rw [hys]; simp [List.map_pmap]
    rw [hym, hyl] at hrow
    rw [hyl] at hv
    clear hyl hym hys
    have hc := hv.cell
    have hconv := run_convert_bytes_arg (P := Try.prog) W 22 5 Try.underlying22 Try.underlying5 g 0 len cp (zs.map fun z => 97 + z) (by simp [H.out.1]) (fun i hi => by
      rw [Nat.zero_add, hrow.cellAt i (by omega)]
      simp [show i < zs.length from by rw [H.out.1]; exact hi]) 9 Try.underlying9
    gi_wp2
    refine ⟨by simp, .inl ⟨_, _, rfl, run_takeDeferred hK, ?_⟩⟩
    exact ⟨_, results_tmp rfl _ _ _, rfl, hb1.trans ((hB.trans (belowK_b (w := w1) (Nat.le_refl _) W D _ _ (by simp at hD; omega) hK rfl rfl)).mono hsz)⟩
  case stop =>
    rintro D c pre W _ _ h _
    exact h.elim

set_option maxRecDepth 100000 in
set_option maxHeartbeats 1000000 in
/-- **impl.BallotText** answers as the model does. -/
theorem implText_any (a : Option Addr) (len cap : Nat) (zs : List Int) (w : World) (h : IsInts w a len cap zs) :
    Calls Try.prog 62 #[.slice a len cap] w fun e w' => e = .returned (.string (txtB zs)) ∧ Below w.heap.size w w' := by
  refine (callsIn_wide (n := 8)).1 ?_
  cases hv : validB zs 5
  · have e : Hid (txtB zs = ByteArray.empty) := by simp [Hid, txtB, hv]
    have H := Lib.hid h; clear h
    refine callsIn_of_wp Try.func62 rfl trivial ?_ rfl
    simp only [Try.ntmps62, List.size_toArray, List.length_cons, List.length_nil, Nat.reduceAdd, Nat.reduceSub, Array.replicate_succ, Array.replicate_zero, List.push_toArray, List.append_toArray, List.nil_append, List.cons_append]
    gi_wp2
    refine ⟨trivial, ?_⟩
    gi_at_call 65
    refine (implValid_wide _ _ _ _ zs _ _ H.out).mono ?_
    rintro e1 w1 ⟨rfl, hb1⟩
    gi_wp2
    go_ret
    exact ⟨ret_str e.out.symm, hb1⟩
  · rw [show txtB zs = txtOf zs from by simp [txtB, hv]]
    exact implText_yes a len cap zs w h hv

end Go.Proofs.Ytdmjgicopnihgaa
