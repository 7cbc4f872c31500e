/-
  impl.ShareHurdle and spec.ShareHurdle: contracts at all arguments. They write into no memory that was there.
-/
import Derived.Test.YtbcemgmfkddafaaGrp8
import Derived.Test.YtbcemgmfkddafaaGrp9
import Derived.Test.YtbcemgmfkddafaaRemI
import Derived.Deep.AppendLies
namespace Go.Proofs.Ytbcemgmfkddafaa
open Go.RowKit

attribute [local go_sem] Oper.semAt_some

theorem toldN {w w' : World} {ok : Bool} (_ : ok = false) (hb : Below w.heap.size w w') : Told w [] ok (.returned (.tuple #[.slice none 0 0, .bool ok])) w' := by
  refine ⟨none, 0, rfl, ?_, hb⟩
  exact World.ownsRow_nil _ _ _ _

theorem hurd_bound {vs : List Int} (hv : voteB vs = true) {p : Int} (hp : 0 ≤ p ∧ p ≤ 100) : 0 ≤ p * totI vs ∧ p * totI vs ≤ 49500 ∧ 0 < totI vs ∧ totI vs ≤ 495 := by
  obtain ⟨⟨a1, a2, a3⟩, a4⟩ := (voteB_iff vs).1 hv
  have hT : totI vs ≤ 495 := (share_in hv (s := 0) (by omega) (z := ((0 : Nat) : Int)) (by omega) (by omega)).2.1
  have := two_mul hp (show 0 ≤ totI vs ∧ totI vs ≤ 495 by omega)
  exact ⟨this.1, by omega, a4, hT⟩

set_option maxRecDepth 100000 in
set_option maxHeartbeats 4000000 in
/-- **impl.ShareHurdle**. -/
theorem implHur_as (a : Option Addr) (n cap : Nat) (vs : List Int) (p : Int) (r : List Int) (v : Bool) (w : World) (h : IsInts w a n cap vs) (hv : okH vs p = v) (hr : hurR vs p = r) :
    Calls Try.prog 25 #[.slice a n cap, .int .i64 p] w (Told w r v) := by
  have HI := Lib.hid h
  by_cases hp : inB p 0 100 = true
  case neg =>
    have e : v = false := by rw [← hv]; unfold okH; rw [show inB p 0 100 = false by simpa using hp]; simp
    subst e
    have e2 : r = [] := by rw [← hr, hurR, if_neg (by rw [hv]; decide)]
    subst e2
    have hp' : ¬ (0 ≤ p ∧ p ≤ 100) := by simpa [inB] using hp
    clear h hv hr hp
    by_cases hneg : p < 0
    · clear hp'
      go_enter Try.func25, Try.ntmps25
      go_wp2
      go_ret2
      exact toldN rfl (Below.refl _ _)
    · have hgt : 100 < p := by omega
      clear hp'
      go_enter Try.func25, Try.ntmps25
      go_wp2
      go_ret2
      exact toldN rfl (Below.refl _ _)
  have hp' : 0 ≤ p ∧ p ≤ 100 := by simpa [inB] using hp
  have hneg : ¬ p < 0 := by omega
  have hgt : ¬ 100 < p := by omega
  cases h1 : voteB vs
  · have e : v = false := by rw [← hv]; unfold okH; rw [h1]; rfl
    subst e
    have e2 : r = [] := by rw [← hr, hurR, if_neg (by rw [hv]; decide)]
    subst e2
    have V1 := Lib.hid h1
    clear h hv hr hp h1
    go_enter Try.func25, Try.ntmps25
    go_wp2_with fail
    refine (votes_as _ n cap vs false _ HI.out V1.out).mono ?_
    rintro e w1 ⟨rfl, rfl⟩
    go_wp2
    go_ret2
    exact toldN rfl (Below.refl _ _)
  obtain ⟨i0, hi, hz0, hz1, hz2⟩ := info_parts int_info
  have hnv := h.1
  have hhb := hurd_bound h1 hp'
  obtain ⟨⟨x1, x2, x3⟩, -⟩ := (voteB_iff vs).1 h1
  rw [hnv] at x1 x2 x3
  have HX1 : Hid (∀ z : Nat, z < n → 0 ≤ vs[z]?.getD 0 ∧ vs[z]?.getD 0 ≤ 100000) := fun z hz => by have := toB_at x1 hz; omega
  have HX2 : Hid (∀ z : Nat, z < n → 0 ≤ vs[z]?.getD 0 ∧ vs[z]?.getD 0 ≤ 99) := fun z hz => toB_at x1 hz
  have V1 := Lib.hid h1
  have HNV := Lib.hid hnv
  obtain ⟨T, hT⟩ : ∃ T, totI vs = T := ⟨_, rfl⟩
  have HT := Lib.hid hT
  rw [hT] at hhb
  obtain ⟨l, hl⟩ : ∃ l, hurdL vs p T = l := ⟨_, rfl⟩
  have HL := Lib.hid hl
  have HVL : Hid (voteB l = v) := by rw [Hid, ← hl, ← hT, ← hv]; unfold okH; rw [h1, hp]; rfl
  have HRL : Hid (r = if v = true then l else []) := by rw [Hid, ← hr, hurR, hv, hT, hl]
  obtain ⟨m, hm⟩ : ∃ m, p * T = m := ⟨_, rfl⟩
  rw [hm] at hhb
  have hwm : IntKind.i64.wrap (p * T) = m := by rw [hm]; exact IntWalk.i64_in _ (by omega)
  have HLL : Hid (l.length = n) := by rw [Hid, ← hl, hurd_length]; exact hnv
  have HLA : Hid (∀ i : Nat, i < n → l[i]?.getD 0 = if 100 * (vs[i]?.getD 0) < m then 0 else vs[i]?.getD 0) := fun i hi => by rw [← hl, hurd_at (by omega), hm]
  obtain ⟨G, hG⟩ : ∃ G, w.heap.size = G := ⟨_, rfl⟩
  have HG := Lib.hid hG
  have hGw : G ≤ w.heap.size := by omega
  obtain ⟨b, off, rfl, hb, hc⟩ := h.2.2.2 (by omega)
  have HC := Lib.hid hc
  clear h hv hr hp h1 hnv x1 hT hl hm hc
  go_enter Try.func25, Try.ntmps25
  go_wp2_with fail
  refine (votes_as _ n cap vs true _ HI.out V1.out).mono ?_
  rintro e w1 ⟨rfl, rfl⟩
  go_wp2_with fail
  refine (implSum_as _ n cap vs T _ HI.out (by omega) HX1.out HT.out).mono ?_
  rintro e w1 ⟨rfl, rfl⟩
  go_wp2_with (at_make; refine wpList_make_full _ rfl _ _ 23 rfl G 3 i0 (.int .i64 0) 1 Try.underlying23 hi hz0 hz1 .i64 .i64 _ _ n rfl rfl rfl rfl (by rw [hz2]; omega) (by unfold maxLen; omega) hGw ?_; intro w3 hown hgrow)
  have HB3 : Hid (Below G w w3) := ((Below.refl _ w).grown hgrow (by omega) (fun k e => by cases e))
  rw [hG] at hown
  have O3 : Hid (w3.ownsRow G 3 1 (.slice (some ⟨G, 0, none⟩) n n) n ((inPart l n 0).map (Value.int .i64))) := by
    unfold Hid; rw [inPart_zero, ← zeros_made]; exact hown
  clear hown hgrow
  go_wp2
  go_loopw [8, 9, 28] (fun _ _ iv wr => ∃ (i : Nat), i ≤ n ∧ iv = .int .i64 (i : Int) ∧ Hid (wr.ownsRow G 3 1 (.slice (some ⟨G, 0, none⟩) n n) n ((inPart l n i).map (Value.int .i64))) ∧ Hid (Below G w wr)) (fun _ _ iv _ => n - (intOf iv).toNat)
  case atStart => exact ⟨0, Nat.zero_le _, rfl, O3, HB3⟩
  case round =>
    clear O3 HB3
    obtain ⟨i, hin, rfl, hO, hB⟩ := hrel
    by_cases hlt : i < n
    · have ci := (hB.out.cell (p := ⟨b, off + i, none⟩) (by show b < G; omega)).trans (HC.out i hlt)
      have hii : (i : Int) < (n : Int) := by omega
      have hzb := HX2.out i hlt
      have hla := HLA.out i hlt
      obtain ⟨z, hz⟩ : ∃ z, vs[i]?.getD 0 = z := ⟨_, rfl⟩
      rw [hz] at ci hzb hla
      have hwz : IntKind.i64.wrap (100 * z) = 100 * z := IntWalk.i64_in _ (by omega)
      have HNX := inPart_next (cs := l) hlt
      by_cases hge : m ≤ 100 * z
      · have hx : l[i]?.getD 0 = z := by rw [hla, if_neg (by omega)]
        rw [hx] at HNX
        have HNX := Lib.hid HNX
        have hgw : G < wr.heap.size := (hO.out.lt G rfl).2
        have c0 : wr.cell? ⟨G, i, none⟩ = some (.int .i64 0) := by rw [hO.out.cellAt i (by omega)]; simp [inPart, hlt]
        have f0 : wr.frozen? ⟨G, i, none⟩ = false := hO.out.frozenAt i
        have HST := Lib.hid (hO.out.stored i (.int .i64 z))
        have O4 : Hid ((wr.setCell ⟨G, i, none⟩ (.int .i64 z)).ownsRow G 3 1 (.slice (some ⟨G, 0, none⟩) n n) n ((inPart l n (i + 1)).map (Value.int .i64))) := by
          unfold Hid; rw [HNX.out, ← map_set_int]; exact HST.out.1
        have B4 : Hid (Below G w (wr.setCell ⟨G, i, none⟩ (.int .i64 z))) := hB.out.setCell (p := ⟨G, i, none⟩) (Nat.le_refl _) _
        clear hz hla hx HNX HST hO hB
        go_wp2
        go_roundw
        case rel => exact ⟨i + 1, by omega, by go_num, O4, B4⟩
        case measure => simp [intOf]; omega
      · have hx : l[i]?.getD 0 = 0 := by rw [hla, if_pos (by omega)]
        rw [hx] at HNX
        have hsame : (inPart l n i).set i 0 = inPart l n i := by
          refine List.ext_getElem (by simp) (fun j h1 h2 => ?_)
          rw [List.getElem_set]
          split
          · rename_i e; subst e; simp [inPart]
          · rfl
        rw [hsame] at HNX
        have O4 : Hid (wr.ownsRow G 3 1 (.slice (some ⟨G, 0, none⟩) n n) n ((inPart l n (i + 1)).map (Value.int .i64))) := by
          unfold Hid; rw [HNX]; exact hO.out
        clear hz hla hx HNX hsame hO
        go_wp2
        go_roundw
        case rel => exact ⟨i + 1, by omega, by go_num, O4, hB⟩
        case measure => simp [intOf]; omega
    · obtain rfl : i = n := by omega
      have O6 := hO.out
      rw [inPart_all HLL.out] at O6
      have O6 := Lib.hid O6
      clear hO
      go_wp2_with fail
      refine (votes_as _ i i l v _ (IsInts.of_owned O6.out (by omega)) HVL.out).mono ?_
      rintro e w6 ⟨rfl, rfl⟩
      have BW : Hid (Below w.heap.size w wr) := by unfold Hid; rw [HG.out]; exact hB.out
      cases v
      · have e2 : r = [] := by rw [HRL.out]; rfl
        subst e2
        go_wp2
        go_ret2
        exact toldN rfl BW.out
      · have e2 : r = l := by rw [HRL.out]; rfl
        subst e2
        go_wp2
        go_ret2
        refine ⟨some ⟨G, 0, none⟩, i, by rw [HLL.out]; rfl, ?_, BW.out⟩
        rw [HLL.out, HG.out]
        exact O6.out

set_option maxRecDepth 100000 in
set_option maxHeartbeats 4000000 in
/-- **spec.ShareHurdle**. -/
theorem specHur_as (a : Option Addr) (n cap : Nat) (vs : List Int) (p : Int) (r : List Int) (v : Bool) (w : World) (h : IsInts w a n cap vs) (hv : okH vs p = v) (hr : hurR vs p = r) :
    Calls Try.prog 26 #[.slice a n cap, .int .i64 p] w (Told w r v) := by
  have HI := Lib.hid h
  obtain ⟨i0, hi, hz0, hz1, hz2⟩ := info_parts int_info
  cases h1 : voteB vs
  · have e : v = false := by rw [← hv]; unfold okH; rw [h1]; rfl
    subst e
    have e2 : r = [] := by rw [← hr, hurR, if_neg (by rw [hv]; decide)]
    subst e2
    have V1 := Lib.hid h1
    have E0 := Lib.hid (World.ownsRow_lit (base := w.heap.size) (e := 3) (size := 1) w #[] 0 (Nat.le_refl _) (by unfold maxLen; omega) rfl)
    clear h hv hr h1
    go_enter Try.func26, Try.ntmps26
    go_wp2_with fail
    refine (specVotes_as _ n cap vs false _ HI.out V1.out).mono ?_
    rintro e w1 ⟨rfl, rfl⟩
    go_wp2
    go_ret2
    exact ⟨_, _, rfl, E0.out, (Below.refl _ _).alloc (Nat.le_refl _) _⟩
  by_cases hp : inB p 0 100 = true
  case neg =>
    have hpf : inB p 0 100 = false := by simpa using hp
    have e : v = false := by rw [← hv]; unfold okH; rw [hpf]; simp
    subst e
    have e2 : r = [] := by rw [← hr, hurR, if_neg (by rw [hv]; decide)]
    subst e2
    have V1 := Lib.hid h1
    have V2 := Lib.hid hpf
    have E0 := Lib.hid (World.ownsRow_lit (base := w.heap.size) (e := 3) (size := 1) w #[] 0 (Nat.le_refl _) (by unfold maxLen; omega) rfl)
    clear h hv hr hp hpf h1
    go_enter Try.func26, Try.ntmps26
    go_wp2_with fail
    refine (specVotes_as _ n cap vs true _ HI.out V1.out).mono ?_
    rintro e w1 ⟨rfl, rfl⟩
    go_wp2_with fail
    refine (l6In_any _ _ _ _).mono ?_
    rintro e w' ⟨he, rfl⟩
    rw [V2.out] at he
    subst he
    go_wp2
    go_ret2
    exact ⟨_, _, rfl, E0.out, (Below.refl _ _).alloc (Nat.le_refl _) _⟩
  have hp' : 0 ≤ p ∧ p ≤ 100 := by simpa [inB] using hp
  have hnv := h.1
  have hhb := hurd_bound h1 hp'
  obtain ⟨⟨x1, x2, x3⟩, -⟩ := (voteB_iff vs).1 h1
  rw [hnv] at x1 x2 x3
  have HX1 : Hid (∀ z : Nat, z < n → 0 ≤ vs[z]?.getD 0 ∧ vs[z]?.getD 0 ≤ 100000) := fun z hz => by have := toB_at x1 hz; omega
  have HX2 : Hid (∀ z : Nat, z < n → 0 ≤ vs[z]?.getD 0 ∧ vs[z]?.getD 0 ≤ 99) := fun z hz => toB_at x1 hz
  have V1 := Lib.hid h1
  have V2 := Lib.hid hp
  have HNV := Lib.hid hnv
  obtain ⟨T, hT⟩ : ∃ T, totI vs = T := ⟨_, rfl⟩
  have HT := Lib.hid hT
  rw [hT] at hhb
  obtain ⟨l, hl⟩ : ∃ l, hurdL vs p T = l := ⟨_, rfl⟩
  have HL := Lib.hid hl
  have HVL : Hid (voteB l = v) := by rw [Hid, ← hl, ← hT, ← hv]; unfold okH; rw [h1, hp]; rfl
  have HRL : Hid (r = if v = true then l else []) := by rw [Hid, ← hr, hurR, hv, hT, hl]
  obtain ⟨m, hm⟩ : ∃ m, p * T = m := ⟨_, rfl⟩
  rw [hm] at hhb
  have hwm : IntKind.i64.wrap (p * T) = m := by rw [hm]; exact IntWalk.i64_in _ (by omega)
  have HLL : Hid (l.length = n) := by rw [Hid, ← hl, hurd_length]; exact hnv
  have HLA : Hid (∀ i : Nat, i < n → l[i]?.getD 0 = if 100 * (vs[i]?.getD 0) < m then 0 else vs[i]?.getD 0) := fun i hi => by rw [← hl, hurd_at (by omega), hm]
  obtain ⟨G, hG⟩ : ∃ G, w.heap.size = G := ⟨_, rfl⟩
  have HG := Lib.hid hG
  have hGw : G ≤ w.heap.size := by omega
  have E1 := Lib.hid (World.ownsRow_lit (base := G) (e := 3) (size := 1) w #[] 0 (by omega) (by unfold maxLen; omega) rfl)
  rw [hG] at E1
  have B1 : Hid (Below G w (w.alloc (.cells #[] 3))) := (Below.refl _ w).alloc (by omega) _
  have HI3 := Lib.hid (h.below (HG.out.symm ▸ B1.out))
  obtain ⟨b, off, rfl, hb, hc⟩ := h.2.2.2 (by omega)
  have HC := Lib.hid hc
  clear h hv hr hp h1 hnv x1 hT hl hm hc
  go_enter Try.func26, Try.ntmps26
  go_wp2_with fail
  refine (specVotes_as _ n cap vs true _ HI.out V1.out).mono ?_
  rintro e w1 ⟨rfl, rfl⟩
  go_wp2_with fail
  refine (l6In_any _ _ _ _).mono ?_
  rintro e w' ⟨he, rfl⟩
  rw [V2.out] at he
  subst he
  go_wp2_with fail
  refine (sum22_as _ n cap vs T _ HI3.out (by omega) HX1.out HT.out).mono ?_
  rintro e w4 ⟨rfl, rfl⟩
  go_wp2
  go_loopw [6, 8, 9] (fun ov iv _ wr => ∃ (k g c : Nat), k ≤ n ∧ iv = .int .i64 (k : Int) ∧ ov = .slice (some ⟨g, 0, none⟩) k c ∧ Hid (wr.ownsRow G 3 1 (.slice (some ⟨g, 0, none⟩) k c) k ((l.take k).map (Value.int .i64))) ∧ Hid (Below G w wr)) (fun _ iv _ _ => n - (intOf iv).toNat)
  case atStart => exact ⟨0, _, _, Nat.zero_le _, rfl, rfl, E1, B1⟩
  case round =>
    clear E1 B1 HI3
    obtain ⟨k, g, c, hkn, rfl, rfl, hO, hB⟩ := hrel
    by_cases hlt : k < n
    · have ck : wr.cell? ⟨b, off + k, none⟩ = _ := (hB.out.cell (p := ⟨b, off + k, none⟩) (by show b < G; omega)).trans (HC.out k hlt)
      have hki : (k : Int) < (n : Int) := by omega
      have hzb := HX2.out k hlt
      have hla := HLA.out k hlt
      have HLN : Hid (l.take (k + 1) = l.take k ++ [l[k]?.getD 0]) := take_next (by rw [HLL.out]; exact hlt)
      obtain ⟨z, hz⟩ : ∃ z, vs[k]?.getD 0 = z := ⟨_, rfl⟩
      rw [hz] at ck hzb hla
      have hwz : IntKind.i64.wrap (100 * z) = 100 * z := IntWalk.i64_in _ (by omega)
      have hgG : G ≤ g := (hO.out.lt g rfl).1
      have hsw : G ≤ wr.heap.size := by have := hB.out.size; omega
      clear hz
      by_cases hge : 100 * z < m
      · skip
        have hx : l[k]?.getD 0 = 0 := by rw [hla, if_pos (by omega)]
        rw [hx] at HLN
        clear hla hx
        go_wp2_with (at_builtin; refine wpList_append_lies _ rfl _ _ 23 rfl G 3 i0 (.int .i64 0) 1 8 Try.underlying23 hi hz0 hz1 hz2 rfl (by decide) _ _ _ rfl (hO.out.alloc _) ⟨wr.heap.size, 0, none⟩ 1 1 [.int .i64 0] rfl rfl (cell_one_new _ _ _) (by simp [Value.oneCell']) Nat.one_pos (by unfold maxLen; omega) (by omega) (by simp; omega) _ rfl ?_; intro g4 c4 w4 hown hgrow hat hg4)
        have B4 : Hid (Below G w w4) := (hB.out.alloc hsw _).grown hgrow (by simp; omega) (fun j e => by have e : some g = some j := e; injection e with e; omega)
        have O4 : Hid (w4.ownsRow G 3 1 (.slice (some ⟨g4, 0, none⟩) (k + 1) c4) (k + 1) ((l.take (k + 1)).map (Value.int .i64))) := by
          unfold Hid; rw [HLN.out, List.map_append]; exact hown
        clear hown hgrow hat hO hB
        go_wp2
        go_roundw
        case rel => exact ⟨k + 1, g4, c4, by omega, by go_num, rfl, O4, B4⟩
        case measure => simp [intOf]; omega
      · skip
        have hx : l[k]?.getD 0 = z := by rw [hla, if_neg (by omega)]
        rw [hx] at HLN
        clear hla hx
        go_wp2_with (at_builtin; refine wpList_append_lies _ rfl _ _ 23 rfl G 3 i0 (.int .i64 0) 1 8 Try.underlying23 hi hz0 hz1 hz2 rfl (by decide) _ _ _ rfl (hO.out.alloc _) ⟨wr.heap.size, 0, none⟩ 1 1 [.int .i64 z] rfl rfl (cell_one_new _ _ _) (by simp [Value.oneCell']) Nat.one_pos (by unfold maxLen; omega) (by omega) (by simp; omega) _ rfl ?_; intro g4 c4 w4 hown hgrow hat hg4)
        have B4 : Hid (Below G w w4) := (hB.out.alloc hsw _).grown hgrow (by simp; omega) (fun j e => by have e : some g = some j := e; injection e with e; omega)
        have O4 : Hid (w4.ownsRow G 3 1 (.slice (some ⟨g4, 0, none⟩) (k + 1) c4) (k + 1) ((l.take (k + 1)).map (Value.int .i64))) := by
          unfold Hid; rw [HLN.out, List.map_append]; exact hown
        clear hown hgrow hat hO hB
        go_wp2
        go_roundw
        case rel => exact ⟨k + 1, g4, c4, by omega, by go_num, rfl, O4, B4⟩
        case measure => simp [intOf]; omega
    · obtain rfl : k = n := by omega
      have O6 := hO.out
      rw [List.take_of_length_le (by rw [HLL.out]; exact Nat.le_refl _)] at O6
      have O6 := Lib.hid O6
      clear hO
      go_wp2_with fail
      refine (specVotes_as _ k c l v _ (IsInts.of_owned O6.out (by omega)) HVL.out).mono ?_
      rintro e w6 ⟨rfl, rfl⟩
      have BW : Hid (Below w.heap.size w wr) := by unfold Hid; rw [HG.out]; exact hB.out
      cases v
      · have e2 : r = [] := by rw [HRL.out]; rfl
        subst e2
        have hsz := BW.out.size
        have E0 := Lib.hid (World.ownsRow_lit (base := w.heap.size) (e := 3) (size := 1) wr #[] 0 hsz (by unfold maxLen; omega) rfl)
        go_wp2
        go_ret2
        exact ⟨_, _, rfl, E0.out, BW.out.alloc hsz _⟩
      · have e2 : r = l := by rw [HRL.out]; rfl
        subst e2
        go_wp2
        go_ret2
        refine ⟨some ⟨g, 0, none⟩, c, by rw [HLL.out]; rfl, ?_, BW.out⟩
        rw [HLL.out, HG.out]
        exact O6.out

end Go.Proofs.Ytbcemgmfkddafaa
