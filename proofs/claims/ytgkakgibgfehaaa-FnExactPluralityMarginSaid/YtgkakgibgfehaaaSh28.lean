/-
  slices.Collect of slices.Chunk by four, at piles: the parts of a list, in memory of the call's own. For every list of at most 1048600 piles.
  slices.Collect of slices.Chunk by four, at piles: the parts of a list, in memory of the call's own.
-/
import Derived.Test.YtgkakgibgfehaaaSh30
import Derived.Test.YtgkakgibgfehaaaSh31
import Derived.Test.YtgkakgibgfehaaaSh5
import Derived.BigRegionIn
namespace Go.Proofs.Ytgkakgibgfehaaa.R
open Go.RowKit Go.Shelf

attribute [local go_sem] Oper.semAt_some

set_option maxRecDepth 100000 in
set_option maxHeartbeats 2000000 in
/-- Chunk's closure. -/
theorem chunk1_in (F : Fence) (n : Nat) (hF : F.fn 105) (hro : F.round = none) (hn : 1 ≤ n) (y Bs Bn n₀ : Nat) (pa : Option Addr) (b off l ca : Nat) (hpa : 0 < l → pa = some ⟨b, off, none⟩) (hl : l ≤ 1048600) (hca : l ≤ ca) (hb : Bs < n₀) (hb' : Bn < n₀) (J Jx : List Nat → World → Prop) (hdr : ∀ s W, J s W → J s W.drew)
    (hY : ∀ pre x W, J pre W → pre.length < partsOf l → YieldAt F (n - 1) Tr.prog y #[chunkV b off l x] W fun e W' =>
      (e = .returned (.bool true) ∧ J (pre ++ [x]) W' ∧ Below n₀ W W') ∨ (e = .returned (.bool false) ∧ Jx (pre ++ [x]) W'))
    (W : World) (hBs : W.cell? ⟨Bs, 0, none⟩ = some (.slice pa l ca)) (hBn : W.cell? ⟨Bn, 0, none⟩ = some (.int .i64 4)) (h0 : J [] W) :
    CallsIn F n Tr.prog 105 #[.func (.yield y) #[] #[], .pointer (some ⟨Bs, 0, none⟩), .pointer (some ⟨Bn, 0, none⟩)] W fun e W' => (∃ v, e = .returned v) ∧
      ((∃ ys, ys = upto (fun j => j) (partsOf l) ∧ J ys W') ∨ (∃ pre, (∃ k, k ≤ partsOf l ∧ pre = upto (fun j => j) k) ∧ Jx pre W')) := by
  refine callsIn_of_wp Tr.func105 rfl hF ?_ hro
  simp only [Tr.ntmps105, List.size_toArray, List.length_cons, List.length_nil, Nat.reduceAdd, Nat.reduceSub, Array.replicate_succ, Array.replicate_zero, List.push_toArray, List.append_toArray, List.nil_append, List.cons_append]
  have hpl : Hid (∀ k, k < partsOf l ↔ 4 * k < l) := by intro k; unfold partsOf; omega
  gi_wp2
  gi_loopw [4, 5] (fun iv _ wr => ∃ k i : Nat, k ≤ partsOf l ∧ Hid (i = 4 * k) ∧ iv = .int .i64 (i : Int) ∧ J (upto (fun j => j) k) wr ∧ Below n₀ W wr)
    (fun iv _ _ => 4 * partsOf l - (intOf iv).toNat)
  case atStart => exact ⟨0, 0, Nat.zero_le _, rfl, rfl, h0, Below.refl _ _⟩
  case round =>
    obtain ⟨k, i, hk, hik, rfl, hJs, hnx⟩ := hrel
    have hBs' : wr.cell? ⟨Bs, 0, none⟩ = some (.slice pa l ca) := (hnx.cell (p := ⟨Bs, 0, none⟩) hb).trans hBs
    have hBn' : wr.cell? ⟨Bn, 0, none⟩ = some (.int .i64 4) := (hnx.cell (p := ⟨Bn, 0, none⟩) hb').trans hBn
    by_cases hlt : k < partsOf l
    · have h4 : i < l := by have := (hpl.out k).1 hlt; have := hik.out; omega
      have hpe := hpa (by omega)
      subst hpe
      have h4i : (i : Int) < (l : Int) := by omega
      have hJd : J (upto (fun j => j) k) wr.drew := hdr _ _ hJs
      obtain ⟨fn, tmps, assign, body, hy, hR⟩ := hY _ k wr.drew hJd (by rw [upto_length]; exact hlt)
      have hine : ¬ ca = i := by omega
      have hcv : chunkV b off l k = .slice (some ⟨b, off + 2 * i, none⟩) (min 4 (l - i)) (min 4 (l - i)) := by unfold chunkV; rw [← hik.out]; congr 3; have := hik.out; omega
      rw [hcv] at hy
      have hadd : off + i * 2 = off + 2 * i := by omega
      clear hcv
      obtain ⟨e, he⟩ : ∃ e, min 4 (l - i) = e := ⟨_, rfl⟩
      have hme : (if ((l - i : Nat) : Int) < 4 then ((l - i : Nat) : Int) else 4) = (e : Int) := by rw [← he]; split <;> omega
      have hel : i + e ≤ l := by omega
      have he1 : 1 ≤ e := by omega
      rw [he] at hy
      clear he
      gi_wp2
      gi_region
      all_goals
        gi_wp2
        refine hR.mono ?_
        rintro e3 W3 (⟨rfl, hJ3, hk3⟩ | ⟨rfl, hJx3⟩)
        · have hBn3 : W3.cell? ⟨Bn, 0, none⟩ = some (.int .i64 4) := (hk3.cell (p := ⟨Bn, 0, none⟩) hb').trans hBn'
          gi_wp2
          go_roundw
          case rel => exact ⟨k + 1, i + 4, by omega, by have := hik.out; unfold Hid; omega, by go_num, by rw [upto_succ]; exact hJ3, hnx.trans ((Below.refl _ _).drew.trans hk3)⟩
          case measure => have := hik.out; simp [intOf]; omega
        · gi_wp2
          refine bodyPost_ret (results_none rfl _ _ _) rfl ?_
          exact ⟨⟨_, rfl⟩, .inr ⟨_, ⟨k + 1, by omega, rfl⟩, by rw [upto_succ]; exact hJx3⟩⟩
    · obtain rfl : k = partsOf l := by omega
      have hge : ¬ (i : Int) < (l : Int) := by have := hik.out; have := (hpl.out (partsOf l)); omega
      gi_wp2
      go_end0
      exact ⟨⟨_, rfl⟩, .inl hJs⟩

end Go.Proofs.Ytgkakgibgfehaaa.R

namespace Go.Proofs.Ytgkakgibgfehaaa.R
open Go.RowKit Go.Shelf

attribute [local go_sem] Oper.semAt_some
theorem part_info : (Tr.prog.info? 23).map (fun i => (i.zero, i.size, i.bytes)) = some (some (.slice none 0 0), 1, 24) := by kernel_rfl

/-- Chunk's value yields the parts in order. -/
theorem chunk_stops (F : Fence) (n : Nat) (hF : F.fn 105) (hro : F.round = none) (hn : 1 ≤ n) (Bs Bn : Nat) (pa : Option Addr) (b off l ca : Nat) (hpa : 0 < l → pa = some ⟨b, off, none⟩) (hl : l ≤ 1048600) (hca : l ≤ ca) (w0 w : World) (hBs : Bs < w0.heap.size) (hBn : Bn < w0.heap.size) (hb0 : Below w0.heap.size w0 w)
    (hc : w0.cell? ⟨Bs, 0, none⟩ = some (.slice pa l ca)) (hc' : w0.cell? ⟨Bn, 0, none⟩ = some (.int .i64 4)) :
    SeqStopsK F n Tr.prog 105 #[.pointer (some ⟨Bs, 0, none⟩), .pointer (some ⟨Bn, 0, none⟩)] (fun x : Nat => #[chunkV b off l x]) (Below w0.heap.size) (fun ys => ys = upto (fun j => j) (partsOf l)) (fun pre => pre <+: upto (fun j => j) (partsOf l)) (partsOf l) w := fun y J Jx W hW hd _ hY h0 => by
  have hB := hb0.trans (hW.mono hb0.size)
  refine (chunk1_in F n hF hro hn y Bs Bn w0.heap.size pa b off l ca hpa hl hca hBs hBn J Jx ?_ hY W ((hB.cell (p := ⟨Bs, 0, none⟩) hBs).trans hc) ((hB.cell (p := ⟨Bn, 0, none⟩) hBn).trans hc') h0).mono ?_
  · intro s W1 hs; exact hd s W1 W1.drew none hs ⟨rfl, rfl, rfl, Nat.le_refl _, fun _ _ _ => rfl⟩ (fun r e => by cases e)
  · rintro e W' ⟨he, ⟨ys, rfl, hj⟩ | ⟨pre, ⟨k, hk, rfl⟩, hj⟩⟩
    · exact ⟨he, .inl ⟨_, rfl, hj⟩⟩
    · exact ⟨he, .inr ⟨_, upto_prefix (fun j => j) hk, hj⟩⟩

set_option maxRecDepth 100000 in
set_option maxHeartbeats 2000000 in
/-- **slices.Chunk** of a list, by four. -/
theorem chunk_as (pa : Option Addr) (l ca : Nat) (w : World) :
    Calls Tr.prog 84 #[.slice pa l ca, .int .i64 4] w fun e w' => ∃ Bs Bn, e = .returned (.func (.func 105) #[] #[.pointer (some ⟨Bs, 0, none⟩), .pointer (some ⟨Bn, 0, none⟩)]) ∧ Bs < w'.heap.size ∧ Bn < w'.heap.size ∧
      w'.cell? ⟨Bs, 0, none⟩ = some (.slice pa l ca) ∧ w'.cell? ⟨Bn, 0, none⟩ = some (.int .i64 4) ∧ Below w.heap.size w w' := by
  go_enter Tr.func84, Tr.ntmps84
  go_wp2_with fail
  go_ret
  refine ⟨_, _, rfl, ?_, ?_, ?_, ?_, ((Below.refl _ w).alloc (Nat.le_refl _) _).alloc (by simp) _⟩
  all_goals first | (simp; done) | (simp; omega)

set_option maxRecDepth 100000 in
set_option maxHeartbeats 2000000 in
/-- **slices.AppendSeq** of nothing and of Chunk's value. -/
theorem appendParts_in (Bs Bn : Nat) (pa : Option Addr) (b off l ca : Nat) (hpa : 0 < l → pa = some ⟨b, off, none⟩) (hl : l ≤ 1048600) (hca : l ≤ ca) (w : World) (hBs : Bs < w.heap.size) (hBn : Bn < w.heap.size) (hc0 : w.cell? ⟨Bs, 0, none⟩ = some (.slice pa l ca)) (hc1 : w.cell? ⟨Bn, 0, none⟩ = some (.int .i64 4)) :
    CallsIn Fence.wide 8 Tr.prog 104 #[.slice none 0 0, .func (.func 105) #[] #[.pointer (some ⟨Bs, 0, none⟩), .pointer (some ⟨Bn, 0, none⟩)]] w fun e w' =>
      ∃ v, e = .returned v ∧ w'.ownsRow w.heap.size 23 1 v (partsOf l) (upto (fun j => chunkV b off l j) (partsOf l)) ∧ Below w.heap.size w w' := by
  have hro : Fence.wide.round = none := rfl
  obtain ⟨i0, hi, hz0, hz1, hz2⟩ := info_parts part_info
  have HC := Lib.hid hc0; clear hc0
  have HN := Lib.hid hc1; clear hc1
  have hP : partsOf l ≤ 1048600 := by unfold partsOf; omega
  obtain ⟨N, hNe⟩ : ∃ N, partsOf l = N := ⟨_, rfl⟩
  refine callsIn_of_wp_marks Tr.func104 rfl trivial ?_ hro
  simp only [Tr.ntmps104, List.size_toArray, List.length_cons, List.length_nil, Nat.reduceAdd, Nat.reduceSub, Array.replicate_succ, Array.replicate_zero, List.push_toArray, List.append_toArray, List.nil_append, List.cons_append]
  gi_wp2
  have bO := Boxed.new w 96 (.slice none 0 0)
  have hB0 : Below w.heap.size w (w.alloc (.cells #[.slice none 0 0] 96)) := (Below.refl _ w).alloc (Nat.le_refl _) _
  refine wpIn_rangeFunc_ownG hro (by omega) (gf := 105) (lb := #[.pointer (some ⟨Bs, 0, none⟩), .pointer (some ⟨Bn, 0, none⟩)]) rfl trivial (enters_of Tr.func105 (by kernel_rfl) rfl)
    (chunk_stops Fence.wide 7 trivial hro (by omega) Bs Bn pa b off l ca hpa hl hca w _ hBs hBn hB0 HC.out HN.out) belowK_t (belowK_b (by simp)) (Below.refl _ _) (fun _ => rfl)
    (fun pre W => (∃ v, Boxed W w.heap.size 96 v ∧ W.ownsRow w.heap.size 23 1 v pre.length (pre.map (chunkV b off l)) ∧ True) ∧ Below w.heap.size w W)
    (fun _ _ _ => False)
    (OwnFrom.and (Own.from (holdsRow_own w.heap.size w.heap.size 96 23 1 (fun (pre : List Nat) => pre.length) (fun (pre : List Nat) => pre.map (chunkV b off l)) (fun (pre : List Nat) v => True)) _) (ownFrom_below (Nat.le_refl _) (by simp)))
    (fun _ _ _ _ _ hs _ _ => hs)
    ⟨⟨_, bO, World.ownsRow_nil _ _ _ _, trivial⟩, hB0⟩
    (fun z => { tmps := #[.slice none 0 0, .func (.func 105) #[] #[.pointer (some ⟨Bs, 0, none⟩), .pointer (some ⟨Bn, 0, none⟩)], .pointer (some ⟨w.heap.size, 0, none⟩), undef, .slice none 0 0, chunkV b off l z,
      .func (.func 105) #[] #[.pointer (some ⟨Bs, 0, none⟩), .pointer (some ⟨Bn, 0, none⟩)], chunkV b off l z, undef, undef, undef, undef, undef], defers := [] }) ?assign ?body ?done ?stop
  case assign =>
    intro y z W K hK
    gi_wp2
    exact hK
  case body =>
    rintro y pre z W ⟨⟨v, hv, hrow, _⟩, hB⟩ hlt
    have hc := hv.cell
    obtain ⟨cv, ck, hcv⟩ : ∃ cv ck, chunkV b off l z = .slice cv ck ck := ⟨_, _, rfl⟩
    rw [hcv]
    gi_wp2_with (gi_at_builtin; refine wpListIn_append_own _ rfl _ _ 96 rfl w.heap.size 23 i0 (.slice none 0 0) 1 24 Tr.underlying96 hi hz0 hz1 hz2 rfl (by decide) _ _ _ rfl (hrow.alloc _) ⟨W.heap.size, 0, none⟩ 1 1 [.slice cv ck ck] rfl rfl (cell_one_new _ _ _) (by simp [Value.oneCell']) (by unfold maxLen; omega) (by omega) (by have := hB.size; simp; omega) ?_; intro v' w3 hown' hgrow _; obtain ⟨g', cap', rfl⟩ := ownsRow_succ hown'; obtain ⟨hv1, hv2, hr2, hk2, hb2⟩ := hv.appended (by decide) hrow hB.size (Nat.le_refl _) hown' hgrow; have hc1 := hv1.cell; have hf1 := hv1.frozen)
    exact ⟨hk2.from _, hb2, ⟨_, hv2, by simpa [hcv] using hr2, trivial⟩, hB.trans hb2⟩
  case done =>
    rintro D ys W hD rfl ⟨⟨v, hv, hrow, _⟩, hB⟩ hK
    have hc := hv.cell
    rw [upto_length, show List.map (chunkV b off l) (upto (fun j => j) (partsOf l)) = upto (fun j => chunkV b off l j) (partsOf l) by simp [upto]] at hrow
    have HRow := Lib.hid hrow; clear hrow
    gi_wp2
    refine ⟨by simp, .inl ⟨_, _, rfl, run_takeDeferred hK, ?_⟩⟩
    exact ⟨_, results_tmp rfl _ _ _, v, rfl, ownsRow_putObj HRow.out _ hK rfl, hB.trans (belowK_b (w := w) (Nat.le_refl _) W D _ _ (by simp at hD; omega) hK rfl rfl)⟩
  case stop =>
    rintro D c pre W _ _ h _
    exact h.elim

set_option maxRecDepth 100000 in
set_option maxHeartbeats 1000000 in
/-- **slices.Collect** of Chunk's value. -/
theorem collectParts_as (Bs Bn : Nat) (pa : Option Addr) (b off l ca : Nat) (hpa : 0 < l → pa = some ⟨b, off, none⟩) (hl : l ≤ 1048600) (hca : l ≤ ca) (w : World) (hBs : Bs < w.heap.size) (hBn : Bn < w.heap.size) (hc0 : w.cell? ⟨Bs, 0, none⟩ = some (.slice pa l ca)) (hc1 : w.cell? ⟨Bn, 0, none⟩ = some (.int .i64 4)) :
    Calls Tr.prog 83 #[.func (.func 105) #[] #[.pointer (some ⟨Bs, 0, none⟩), .pointer (some ⟨Bn, 0, none⟩)]] w fun e w' =>
      ∃ v, e = .returned v ∧ w'.ownsRow w.heap.size 23 1 v (partsOf l) (upto (fun j => chunkV b off l j) (partsOf l)) ∧ Below w.heap.size w w' := by
  have HC := Lib.hid hc0; clear hc0
  have HN := Lib.hid hc1; clear hc1
  go_enter Tr.func83, Tr.ntmps83
  go_wp2_with fail
  refine (callsIn_wide.1 (appendParts_in Bs Bn pa b off l ca hpa hl hca w hBs hBn HC.out HN.out)).mono ?_
  rintro e w1 ⟨v, rfl, ho, hb⟩
  go_wp2
  go_ret
  exact ⟨_, rfl, ho, hb⟩
end Go.Proofs.Ytgkakgibgfehaaa.R
