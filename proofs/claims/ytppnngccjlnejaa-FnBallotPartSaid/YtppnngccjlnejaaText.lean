/-
  spec.BallotText and impl.BallotText answer alike: for every ballot of at most 1048600 ints; neither writes into memory that was there.
-/
import Derived.Test.YtppnngccjlnejaaFirst
import Derived.Laws.BytesArg
import Derived.Laws.Concat
import Derived.Maps.AppendAt
namespace Go.Proofs.Ytppnngccjlnejaa
open Go.RowKit Go.Shelf

attribute [local go_sem] Oper.semAt_some

/-- The letters of candidates. -/
def txtOf (zs : List Int) : ByteArray := strOfNums (zs.map fun z => 97 + z)
theorem txtOf_size (zs : List Int) : (txtOf zs).size = zs.length := by simp [txtOf, strOfNums_size]
theorem txtOf_snoc (zs : List Int) (z : Int) : txtOf (zs ++ [z]) = txtOf zs ++ txtOf [z] := by
  apply ByteArray.ext
  simp [txtOf, strOfNums]
def txtB (zs : List Int) : ByteArray := if validB zs 5 = true then txtOf zs else ByteArray.empty
theorem letter_of (c : Nat) (h : c < 5) : (ByteArray.mk #[97, 98, 99, 100, 101]).extract c (c + 1) = txtOf [(c : Int)] := by
  have e : c = 0 ∨ c = 1 ∨ c = 2 ∨ c = 3 ∨ c = 4 := by omega
  rcases e with rfl | rfl | rfl | rfl | rfl <;> (apply ByteArray.ext; decide)
theorem take_snoc (zs : List Int) (k : Nat) (h : k < zs.length) : zs.take (k + 1) = zs.take k ++ [zs[k]?.getD 0] := by
  rw [List.take_succ_eq_append_getElem h]; simp [h]
theorem ret_str {a b : ByteArray} (h : a = b) : Ending.returned (.string a) = .returned (.string b) := by rw [h]

set_option maxHeartbeats 1000000 in
/-- **spec.BallotText**. -/
theorem specText_any (a : Option Addr) (len cap : Nat) (zs : List Int) (w : World) (h : IsInts w a len cap zs) :
    Calls Try.prog 17 #[.slice a len cap] w fun e w' => e = .returned (.string (txtB zs)) ∧ Dr w w' := by
  have hm := h.2.2.1
  have H := Lib.hid h; clear h
  cases hv : validB zs 5
  · have e : Hid (txtB zs = ByteArray.empty) := by simp [Hid, txtB, hv]
    go_enter Try.func17, Try.ntmps17
    go_wp2
    go_loopw [3, 4] (fun o i wr => o = .string ByteArray.empty ∧ i = .int .i64 0 ∧ wr = w) (fun _ _ _ => 0)
    case atStart => exact ⟨rfl, rfl, rfl⟩
    case round =>
      obtain ⟨rfl, rfl, rfl⟩ := hrel
      by_cases hl : 0 < len
      · go_wp2_with fail
        refine (specValid_any _ _ _ zs _ _ H.out).mono ?_
        rintro e1 w1 ⟨rfl, hd⟩
        go_wp2
        go_ret
        exact ⟨ret_str e.out.symm, hd⟩
      · go_wp2
        go_ret
        exact ⟨ret_str e.out.symm, Dr.refl _⟩
  · have e : Hid (txtB zs = txtOf zs) := by simp [Hid, txtB, hv]
    have HR := Lib.hid (validB_mem hv).2.2
    go_enter Try.func17, Try.ntmps17
    go_wp2
    go_loopw [3, 4] (fun o i wr => ∃ k : Nat, k ≤ len ∧ i = .int .i64 k ∧ (∃ s, o = .string s ∧ s.size ≤ k ∧ Hid (s = txtOf (zs.take k))) ∧ Dr w wr) (fun _ i _ => len - (intOf i).toNat)
    case atStart => exact ⟨0, Nat.zero_le _, rfl, ⟨_, rfl, Nat.le_refl 0, by unfold Hid; rfl⟩, Dr.refl _⟩
    case round =>
      obtain ⟨k, hk, rfl, ⟨s, rfl, hs, hst⟩, hd⟩ := hrel
      obtain ⟨h1, _, _, h4⟩ := H.out.dr hd
      have H1 := Lib.hid h1; clear h1
      by_cases hlt : k < len
      · have hkz : k < zs.length := by rw [H1.out]; exact hlt
        have hr := HR.out (zs[k]?.getD 0) (by simp [hkz])
        obtain ⟨c, hcz⟩ := Int.eq_ofNat_of_zero_le hr.1
        obtain ⟨b, o, rfl, hb, hcell⟩ := h4 (by omega)
        have hz := hcell k hlt
        rw [hcz] at hz
        have hc5 : c < 5 := by omega
        have HT := take_snoc zs k hkz
        rw [hcz] at HT
        have HT := Lib.hid HT
        clear hcell h4 hr hcz hkz
        go_wp2_with fail
        refine (specValid_any _ _ _ zs _ _ (H.out.dr hd)).mono ?_
        rintro e1 w1 ⟨rfl, hd1⟩
        have hz1 := (Below.cell (p := ⟨b, o + k, none⟩) (hd1.below wr.heap.size) hb).trans hz
        clear hz
        go_wp2
        go_quiet (fail)
        go_wp2
        go_roundw
        case rel =>
          refine ⟨k + 1, by omega, by go_num, ⟨_, rfl, ?_, ?_⟩, (hd.trans hd1).drewN _⟩
          · rw [letter_of c hc5, ByteArray.size_append, txtOf_size]; simp; omega
          · unfold Hid; rw [letter_of c hc5, HT.out, txtOf_snoc, hst.out]
        case measure => simp [intOf]; omega
      · obtain rfl : k = len := by omega
        clear h4
        go_wp2
        go_ret
        refine ⟨ret_str ?_, hd⟩
        rw [e.out, hst.out, List.take_of_length_le (by rw [H1.out]; omega)]

/-- A candidate's number. -/
abbrev C5 := { z : Int // 0 ≤ z ∧ z < 5 }

theorem byte_info : (Try.prog.info? 5).map (fun i => (i.zero, i.size, i.bytes)) = some (some (.int .u8 0), 1, 1) := by kernel_rfl

set_option maxRecDepth 100000 in
set_option maxHeartbeats 2000000 in
/-- **impl.BallotText**, at a valid ballot. -/
theorem implText_yes (a : Option Addr) (len cap : Nat) (zs : List Int) (w : World) (h : IsInts w a len cap zs) (hv : validB zs 5 = true) :
    CallsIn Fence.wide 8 Try.prog 16 #[.slice a len cap] w fun e w' => e = .returned (.string (txtOf zs)) ∧ Below w.heap.size w w' := by
  have hro : Fence.wide.round = none := rfl
  have HR := Lib.hid (validB_mem hv).2.2
  obtain ⟨i0, hi, hz0, hz1, hz2⟩ := info_parts byte_info
  have hm := h.2.2.1
  have H := Lib.hid h; clear h
  refine callsIn_of_wp_marks Try.func16 rfl trivial ?_ hro
  simp only [Try.ntmps16, List.size_toArray, List.length_cons, List.length_nil, Nat.reduceAdd, Nat.reduceSub, Array.replicate_succ, Array.replicate_zero, List.push_toArray, List.append_toArray, List.nil_append, List.cons_append]
  gi_wp2
  refine ⟨trivial, ?_⟩
  gi_at_call 23
  refine (implValid_wide _ _ _ _ zs _ _ H.out).mono ?_
  rintro e w1 ⟨rfl, hb1⟩
  have hsz : w.heap.size ≤ w1.heap.size := hb1.size
  gi_wp2_with (gi_at_make; refine wpListIn_make_own _ rfl _ _ 22 rfl w1.heap.size 5 i0 (.int .u8 0) 1 Try.underlying22 hi hz0 hz1 .i64 .i64 _ 5 rfl rfl rfl (by rw [hz2]; omega) (by unfold maxLen; omega) (Nat.le_refl _) ?_; intro w2 hown hgrow)
  have hB2 : Below w1.heap.size w1 w2 := (Below.refl _ w1).grown hgrow (Nat.le_refl _) (fun k e => by cases e)
  have hsz2 : w1.heap.size ≤ w2.heap.size := hgrow.size
  have HOWN := Lib.hid hown; clear hown hgrow
  gi_wp2
  refine ⟨trivial, ?_⟩
  gi_at_call 41
  refine (candidates_in Fence.wide _ (by omega) trivial trivial hro _ _ _ _).mono ?_
  rintro e w' ⟨rfl, rfl⟩
  gi_wp2
  have bO := (Boxed.new w2 22 (.slice (some ⟨w1.heap.size, 0, none⟩) 0 5)).alloc (.cells #[.slice a len cap] 23)
  have bV := Boxed.new (w2.alloc (.cells #[.slice (some ⟨w1.heap.size, 0, none⟩) 0 5] 22)) 23 (.slice a len cap)
  rw [World.size_alloc] at bV
  have hB3 : Below w1.heap.size w1 ((w2.alloc (.cells #[.slice (some ⟨w1.heap.size, 0, none⟩) 0 5] 22)).alloc (.cells #[.slice a len cap] 23)) := (hB2.alloc hsz2 _).alloc (by simp; omega) _
  refine wpIn_rangeFunc_ownG hro (by omega) (gf := 53) (lb := #[.pointer (some ⟨w2.heap.size + 1, 0, none⟩)]) rfl trivial (enters_of Try.func53 (by kernel_rfl) rfl)
    (values_stops_g (fun z : C5 => z.1) (zs.pmap Subtype.mk HR.out) Fence.wide 7 trivial hro (by omega) (w2.heap.size + 1) a len cap zs (by simp [List.map_pmap]) w1 _ (by simp) hB3 bV.cell (H.out.below hb1)) belowK_t (belowK_b (by simp; omega)) (Below.refl _ _) (fun _ => rfl)
    (fun pre W => (∃ v, Boxed W w2.heap.size 22 v ∧ W.ownsRow w1.heap.size 5 1 v pre.length (pre.map fun z => Value.int .u8 (97 + z.1)) ∧ (∃ g cap, v = .slice (some ⟨g, 0, none⟩) pre.length cap)) ∧ Below w1.heap.size w1 W)
    (fun _ _ _ => False)
    (OwnFrom.and (Own.from (holdsRow_own w1.heap.size w2.heap.size 22 5 1 (fun (pre : List C5) => pre.length) (fun (pre : List C5) => pre.map fun z => Value.int .u8 (97 + z.1)) (fun (pre : List C5) v => ∃ g cap, v = .slice (some ⟨g, 0, none⟩) pre.length cap)) _) (ownFrom_below (Nat.le_refl _) (by simp; omega)))
    (fun _ _ _ _ _ hs _ _ => hs)
    ⟨⟨_, bO, (HOWN.out.alloc _).alloc _, ⟨_, _, rfl⟩⟩, hB3⟩
    (fun z => { tmps := #[.slice a len cap, undef, .string ⟨#[]⟩, .pointer (some ⟨w2.heap.size, 0, none⟩), .int .i64 z.1, .slice a len cap, .bool true, .bool false, .slice (some ⟨w1.heap.size, 0, none⟩) 0 5, .slice a len cap,
      .func (.func 53) #[] #[.pointer (some ⟨w2.heap.size + 1, 0, none⟩)], .int .i64 z.1, undef, undef, undef, undef, undef, undef, undef, undef], defers := [] }) ?assign ?body ?done ?stop
  case assign =>
    intro l z W K hK
    gi_wp2
    exact hK
  case body =>
    rintro l pre ⟨z, hz0', hz5⟩ W ⟨⟨v, hv, hrow, hnil⟩, hB⟩ hlt
    have hc := hv.cell
    have HN := Lib.hid hnil; clear hnil
    gi_wp2_with (gi_at_builtin; refine wpListIn_append_own _ rfl _ _ 22 rfl w1.heap.size 5 i0 (.int .u8 0) 1 1 Try.underlying22 hi hz0 hz1 hz2 rfl (by decide) _ _ _ rfl (hrow.alloc _) ⟨W.heap.size, 0, none⟩ 1 1 [.int .u8 (97 + z)] rfl rfl (cell_one_new _ _ _) (by simp [Value.oneCell']) (by unfold maxLen; omega) (by omega) (by have := hB.size; simp; omega) ?_; intro v' w3 hown' hgrow _; obtain ⟨g', cap', rfl⟩ := ownsRow_succ hown'; obtain ⟨hv1, hv2, hr2, hk2, hb2⟩ := hv.appended (by decide) hrow hB.size (by omega) hown' hgrow; have hc1 := hv1.cell; have hf1 := hv1.frozen)
    exact ⟨hk2.from _, hb2, ⟨_, hv2, by simpa using hr2, ⟨g', cap', by simp⟩⟩, hB.trans hb2⟩
  case done =>
    rintro D ys W hD hys ⟨⟨v, hv, hrow, ⟨g, cp, rfl⟩⟩, hB⟩ hK
    have hyl : ys.length = len := by rw [hys]; simp [H.out.1]
    have hym : (ys.map fun z => Value.int .u8 (97 + z.1)) = (zs.map fun z => 97 + z).map (Value.int .u8) := by rw [hys]; simp [List.map_pmap]
    rw [hym, hyl] at hrow
    rw [hyl] at hv
    clear hyl hym hys
    have hc := hv.cell
    have hconv := run_convert_bytes_arg (P := Try.prog) W 22 5 Try.underlying22 Try.underlying5 g 0 len cp (zs.map fun z => 97 + z) (by simp [H.out.1]) (fun i hi => by
      rw [Nat.zero_add, hrow.cellAt i (by omega)]
      simp [show i < zs.length from by rw [H.out.1]; exact hi]) 9 Try.underlying9
    gi_wp2
    refine ⟨by simp, .inl ⟨_, _, rfl, run_takeDeferred hK, ?_⟩⟩
    exact ⟨_, results_tmp rfl _ _ _, rfl, hb1.trans ((hB.trans (belowK_b (w := w1) (Nat.le_refl _) W D _ _ (by simp at hD; omega) hK rfl rfl)).mono hsz)⟩
  case stop =>
    rintro D c pre W _ _ h _
    exact h.elim

set_option maxRecDepth 100000 in
set_option maxHeartbeats 1000000 in
/-- **impl.BallotText** answers as the model does. -/
theorem implText_any (a : Option Addr) (len cap : Nat) (zs : List Int) (w : World) (h : IsInts w a len cap zs) :
    Calls Try.prog 16 #[.slice a len cap] w fun e w' => e = .returned (.string (txtB zs)) ∧ Below w.heap.size w w' := by
  refine (callsIn_wide (n := 8)).1 ?_
  cases hv : validB zs 5
  · have e : Hid (txtB zs = ByteArray.empty) := by simp [Hid, txtB, hv]
    have H := Lib.hid h; clear h
    refine callsIn_of_wp Try.func16 rfl trivial ?_ rfl
    simp only [Try.ntmps16, List.size_toArray, List.length_cons, List.length_nil, Nat.reduceAdd, Nat.reduceSub, Array.replicate_succ, Array.replicate_zero, List.push_toArray, List.append_toArray, List.nil_append, List.cons_append]
    gi_wp2
    refine ⟨trivial, ?_⟩
    gi_at_call 23
    refine (implValid_wide _ _ _ _ zs _ _ H.out).mono ?_
    rintro e1 w1 ⟨rfl, hb1⟩
    gi_wp2
    go_ret
    exact ⟨ret_str e.out.symm, hb1⟩
  · rw [show txtB zs = txtOf zs from by simp [txtB, hv]]
    exact implText_yes a len cap zs w h hv

end Go.Proofs.Ytppnngccjlnejaa
