/-
  The method step of impl's transfer: the next step; it changes the transfer's own blocks alone.
-/
import Derived.Test.YteomnjakcnfchaaGrp20
import Derived.Test.YteomnjakcnfchaaGrp21
import Derived.Test.YteomnjakcnfchaaGrp22
import Derived.Test.YteomnjakcnfchaaGrpQ
namespace Go.Proofs.Yteomnjakcnfchaa
open Go.RowKit

attribute [local go_sem] Oper.semAt_some

theorem zerosF_made (n : Nat) : (madeCells (Value.agg #[.int .i64 0, .int .i64 0]).cells (n * 2)).toList = cellsF (List.replicate n (0, 0)) := by
  have e : (Value.agg #[.int .i64 0, .int .i64 0]).cells = #[.int .i64 0, .int .i64 0] := by rfl
  rw [e]
  refine List.ext_getElem? (fun i => ?_)
  have hl : (cellsF (List.replicate n (0, 0))).length = n * 2 := by rw [cellsF_length, List.length_replicate]
  by_cases h : i < n * 2
  · have h2 : (cellsF (List.replicate n ((0, 0) : Fr)))[i]? = some (.int .i64 0) := by
      have hr : fAt (List.replicate n ((0, 0) : Fr)) (i / 2) = (0, 0) := by unfold fAt; simp [show i / 2 < n by omega]
      rcases Nat.mod_two_eq_zero_or_one i with g | g
      · have := cellsF_num (List.replicate n ((0, 0) : Fr)) (i / 2) (by simp; omega)
        rw [hr, show i / 2 * 2 = i by omega] at this; exact this
      · have := cellsF_den (List.replicate n ((0, 0) : Fr)) (i / 2) (by simp; omega)
        rw [hr, show i / 2 * 2 + 1 = i by omega] at this; exact this
    rw [h2]
    simp [madeCells, h]
    rcases Nat.mod_two_eq_zero_or_one i with g | g <;> simp [g]
  · rw [List.getElem?_eq_none (by rw [Array.length_toList, size_madeCells]; omega), List.getElem?_eq_none (by rw [hl]; omega)]

/-- The counts of the first i candidates, zeros for the others. -/
def tfPart (cs : List Fr) (n i : Nat) : List Fr := (List.range n).map fun k => if k < i then fAt cs k else (0, 0)
theorem tfPart_zero (cs : List Fr) (n : Nat) : tfPart cs n 0 = List.replicate n (0, 0) := by
  refine List.ext_getElem (by simp [tfPart]) (fun k h1 h2 => ?_)
  simp [tfPart]
theorem tfPart_all {cs : List Fr} {n : Nat} (h : cs.length = n) : tfPart cs n n = cs := by
  refine List.ext_getElem (by simp [tfPart, h]) (fun k h1 h2 => ?_)
  simp [tfPart, fAt, h2, show k < n by rw [← h]; exact h2]
theorem tfPart_next {cs : List Fr} {n i : Nat} (_ : i < n) : tfPart cs n (i + 1) = (tfPart cs n i).set i (fAt cs i) := by
  refine List.ext_getElem (by simp [tfPart]) (fun k h1 h2 => ?_)
  rw [List.getElem_set]
  simp only [tfPart, List.getElem_map, List.getElem_range]
  by_cases e : i = k
  · subst e; simp
  · rw [if_neg e]
    by_cases g : k < i
    · rw [if_pos (by omega), if_pos g]
    · rw [if_neg (by omega), if_neg g]
theorem three_sets {w : World} {g : Nat} {v0 v1 v2 : Value} {e : TypeId} (h : w.heap[g]? = some (.cells #[v0, v1, v2] e (0, 0))) (a b c : Value) :
    (((w.setCell ⟨g, 0, none⟩ a).setCell ⟨g, 1, none⟩ b).setCell ⟨g, 2, none⟩ c).heap[g]? = some (.cells #[a, b, c] e (0, 0)) := by
  rw [blk_set (blk_set (blk_set h 0 a) 1 b) 2 c]; simp

/-- A block that P's type does not fit lies apart. -/
theorem blk_apart_row {w : World} {b n s g c k : Nat} {e e' : TypeId} {z : Nat × Nat} {cu : Array Value} {xs : List Value} (h : w.ownsRow b e s (.slice (some ⟨g, 0, none⟩) n c) n xs) (hk : w.heap[k]? = some (.cells cu e' z)) (hne : e ≠ e') : k ≠ g := fun e1 => by
  rcases owns_not_blk h hk hne with q | q
  · simp [Value.ownBlock] at q
  · exact q (by rw [e1]; rfl)
theorem blk_ne {w : World} {g k : Nat} {c c' : Array Value} {e e' : TypeId} {z z' : Nat × Nat} (h : w.heap[g]? = some (.cells c e z)) (h' : w.heap[k]? = some (.cells c' e' z')) (hne : e ≠ e') : g ≠ k := fun e1 => by
  rw [e1, h'] at h
  injection h with h
  injection h with _ h _
  exact hne h.symm
theorem stay_low {w : World} {b n s g c : Nat} {e : TypeId} {xs : List Value} (h : w.ownsRow b e s (.slice (some ⟨g, 0, none⟩) n c) n xs) (hk : w.heap.size ≤ g) : False := by
  have := (h.lt g rfl).2
  omega
theorem row_blk {w : World} {b n s g c : Nat} {e : TypeId} {xs : List Value} (h : w.ownsRow b e s (.slice (some ⟨g, 0, none⟩) n c) n xs) : ∃ cu, w.heap[g]? = some (.cells cu e (0, 0)) := by
  rcases h.2 with ⟨e, _⟩ | ⟨g1, c1, cu, e, _, hg1, _⟩
  · simp at e
  · injection e with e _ _
    injection e with e
    injection e with e _ _
    exact ⟨cu, by rw [e]; exact hg1⟩
theorem Chg.new {base : Nat} {P : TypeId → Prop} {w w' : World} (h : Chg base P w w') {g : Nat} (hg : w.heap.size ≤ g) (o : Nat) (v : Value) : Chg base P w (w'.setCell ⟨g, o, none⟩ v) :=
  ⟨h.os, h.tape, h.output, by simp [World.setCell]; exact h.size, fun k hk hc => (blk_other (by omega)).trans (h.block k hk hc)⟩
theorem Chg.mono {base : Nat} {P Q : TypeId → Prop} {w w' : World} (h : Chg base P w w') (hp : ∀ e, P e → Q e) : Chg base Q w w' :=
  ⟨h.os, h.tape, h.output, h.size, fun k hk hc => h.block k hk (hc.imp id fun h1 cur e z he hpe => h1 cur e z he (hp e hpe))⟩
theorem Chg.grown {base : Nat} {P : TypeId → Prop} {w w' w'' : World} (h : Chg base P w w') {g : Nat} {cu : Array Value} {e : TypeId} {z : Nat × Nat} (hg : w'.grownBy w'' (some g)) (hb : w'.heap[g]? = some (.cells cu e z)) (hl : base ≤ g) (hp : P e) : Chg base P w w'' :=
  h.trans ⟨hg.os, hg.tape, hg.output, hg.size, fun k hk hc => hg.block k hk (fun e1 => by
    injection e1 with e1
    subst e1
    rcases hc with h2 | h2
    · omega
    · exact h2 _ _ _ hb hp)⟩
theorem seat_off {w w0 : World} {base T G gc bw n c : Nat} {R : TR} {ps : List Pl} {lots : List Int} {q : Int} {S : TfS} {m : Nat} {xs : List Value} {cg cb : Array Value} (h : TS w base T R ps lots q S m) (ho : w.ownsRow G 42 2 (.slice (some ⟨gc, 0, none⟩) n c) n xs)
    (hg : w.heap[G]? = some (.cells cg 39 (0, 0))) (hb : w.heap[bw]? = some (.cells cb 3 (0, 0))) (hc : Chg base stepP w0 w) (s : Nat) :
    TS (w.setCell ⟨T, 3, none⟩ (.int .i64 (s : Int))) base T R ps lots q ⟨S.gs, S.ws, s⟩ m ∧ (w.setCell ⟨T, 3, none⟩ (.int .i64 (s : Int))).ownsRow G 42 2 (.slice (some ⟨gc, 0, none⟩) n c) n xs ∧
    (w.setCell ⟨T, 3, none⟩ (.int .i64 (s : Int))).heap[G]? = some (.cells cg 39 (0, 0)) ∧ (w.setCell ⟨T, 3, none⟩ (.int .i64 (s : Int))).heap[bw]? = some (.cells cb 3 (0, 0)) ∧ Chg base stepP w0 (w.setCell ⟨T, 3, none⟩ (.int .i64 (s : Int))) :=
  ⟨h.seats s, owns_set_blk ho h.blk (by decide), (blk_other (blk_ne hg h.blk (by decide))).trans hg, (blk_other (blk_ne hb h.blk (by decide))).trans hb, hc.set h.blk h.low (.inr (.inr (.inr rfl))) _⟩
theorem heldL_take (ps : List Pl) (gs : List Bool) (x k : Nat) : ∀ m, ∃ j, j ≤ m ∧ (heldL ps gs x m).take k = heldL ps gs x j
  | 0 => ⟨0, Nat.le_refl _, by simp [heldL]⟩
  | m + 1 => by
    obtain ⟨j, hj, he⟩ := heldL_take ps gs x k m
    by_cases h : tfFst ps gs m = (x : Int)
    · by_cases hk : k ≤ (heldL ps gs x m).length
      · exact ⟨j, by omega, by rw [heldL_hit h, List.take_append_of_le_length hk, he]⟩
      · exact ⟨m + 1, Nat.le_refl _, by rw [List.take_of_length_le]; rw [heldL_hit h, List.length_append]; simp; omega⟩
    · exact ⟨j, by omega, by rw [heldL_miss h, he]⟩

set_option maxRecDepth 100000 in
set_option maxHeartbeats 8000000 in
/-- **step**. -/
theorem step_as (base T : Nat) (R : TR) (ps : List Pl) (lots : List Int) (q : Int) (S : TfS) (n : Nat) (who : Int) (kind : Nat) (w : World) (hT : TS w base T R ps lots q S ps.length) (hbs : base ≤ w.heap.size) (A : TfArg ps lots q) (hg : TfGood ps lots S) (hs : 1 ≤ S.s) (hn : lots.length = n) (hf : fitsB ps (n : Int) = true)
    (hw : S.who ps lots q = who) (hk : S.kind ps lots q = kind) :
    Calls Try.prog 83 #[.pointer (some ⟨T, 0, none⟩)] w fun e w' => ∃ g c, e = .returned (.agg #[.slice (some ⟨g, 0, none⟩) n c, .int .i64 who, .int .i64 (kind : Int)]) ∧ w.heap.size ≤ g ∧ TS w' base T R ps lots q (tfNext ps lots q S) ps.length ∧ w'.ownsRow w.heap.size 42 2 (.slice (some ⟨g, 0, none⟩) n c) n (cellsF (S.cs ps)) ∧ Chg base stepP w w' := by
  obtain ⟨i0, hi, hz0, hz1, hz2⟩ := info_parts frac_info
  obtain ⟨G, hG⟩ : ∃ G, w.heap.size = G := ⟨_, rfl⟩
  obtain ⟨hp, hn1, hn5, hval⟩ := fits_parts hf
  have hl12 : ps.length ≤ 12 := (pilesB_pos hp).2.2.2.2
  obtain ⟨D, hD, -, hwok, hcok⟩ := hg.cnt A hs
  have hgl : S.gs.length = n := by rw [hg.lg, hn]
  have HCL : Hid ((S.cs ps).length = n) := by unfold Hid TfS.cs; rw [tfCnts_length, hgl]
  have hwm := hg.who_mem (q := q) hs
  rw [hw] at hwm
  have hwr := A.mem _ (there_mem.1 hwm).1
  rw [hn] at hwr
  obtain ⟨x, rfl⟩ := Int.eq_ofNat_of_zero_le hwr.1
  have hxn : x < n := by omega
  obtain ⟨D2, hD2, -, -, hcx⟩ := hg.count A hs (there_mem.1 hwm).1
  have hcb := okc_bound hcx hD2 (by omega)
  have hcxe : tfC (S.cs ps) (x : Int) = fAt (S.cs ps) x := by unfold tfC fAt; rw [Int.toNat_natCast]
  obtain ⟨c1, c2, hce⟩ : ∃ c1 c2, fAt (S.cs ps) x = (c1, c2) := ⟨_, _, rfl⟩
  rw [hcxe, hce] at hcb
  have hcb1 : 0 ≤ c1 ∧ c1 ≤ 3600 := hcb.1
  have hcb2 : 1 ≤ c2 ∧ c2 ≤ 60 := hcb.2.1
  have HK1 : Hid (kind = 1 → 0 ≤ c1 - q * c2) := fun e => by
    have h1 := tfKind_one (q := q) (lots := lots) (cs := S.cs ps) (gs := S.gs) (s := S.s) (by show S.kind ps lots q = 1; rw [hk, e])
    have h2 : tfWho q lots (S.cs ps) S.gs S.s = (x : Int) := hw
    rw [h2, hcxe, hce] at h1
    have h3 : decide (c1 * 1 < q * c2) = false := h1
    have := of_decide_eq_false h3
    omega
  have hkc : kind = 1 ∨ kind = 2 ∨ kind = 3 := by rw [← hk]; exact tfKind_cases _ _ _ _ _
  have HT := Lib.hid hT
  have HA := Lib.hid A
  have HG := Lib.hid hg
  have HN := Lib.hid hn
  have HF := Lib.hid hf
  have HW := Lib.hid hw
  have HK := Lib.hid hk
  have HWM := Lib.hid hwm
  have HVV := Lib.hid hval
  have HPV := Lib.hid hp
  have HWOK := Lib.hid hwok
  have HCOK := Lib.hid hcok
  have HCE := Lib.hid hce
  have HGLN := Lib.hid hgl
  have hq1 := A.qpos
  have hq61 := A.qtop
  have b0 : (w.alloc (.cells #[.slice none 0 0, .int .i64 0, .int .i64 0] 39)).heap[G]? = some (.cells #[.slice none 0 0, .int .i64 0, .int .i64 0] 39 (0, 0)) := by rw [← hG]; exact blk_new _ _
  have h0 : Below w.heap.size w (w.alloc (.cells #[.slice none 0 0, .int .i64 0, .int .i64 0] 39)) := (Below.refl _ _).alloc (Nat.le_refl _) _
  have BK0 := Lib.hid b0
  have B0 := Lib.hid h0
  clear hT A hg hn hf hw hk hwm hp hval hwok hcok hcx hcb hcxe hce hgl b0 h0
  go_enter Try.func83, Try.ntmps83
  go_wp2_with fail
  refine (held_as base T R ps lots q S n _ (HT.out.under B0.out) HF.out HN.out HGLN.out).mono ?_
  rintro e w1 ⟨gh, ch, H, rfl, hH, hb1⟩
  have BK1 := Lib.hid (blk_under BK0.out hb1)
  have B1 := Lib.hid (below_on B0.out hb1)
  have HH1 := Lib.hid hH
  clear hH hb1 B0 BK0
  go_wp2_with (at_make; refine wpList_make_full _ rfl _ _ 37 rfl G 42 i0 (.agg #[.int .i64 0, .int .i64 0]) 2 Try.underlying37 hi hz0 hz1 .i64 .i64 _ _ n rfl rfl rfl rfl (by rw [hz2]; omega) (by unfold maxLen; omega) (by have := B1.out.size; omega) ?_; intro w2 hown hgrow; have hb2 : Below w1.heap.size w1 w2 := (Below.refl _ w1).grown hgrow (Nat.le_refl _) (fun k e => by cases e); have gG : G ≤ w1.heap.size := (by have := B1.out.size; omega); have O2 := Lib.hid hown; have BK2 := Lib.hid (blk_under BK1.out hb2); have B2 := Lib.hid (below_on B1.out hb2); have HH2 := Lib.hid (HH1.out.under hb2); clear hown hgrow hb2)
  obtain ⟨gc, hgc⟩ : ∃ gc, w1.heap.size = gc := ⟨_, rfl⟩
  rw [hgc] at gG ⊢
  have O2' := O2.out
  rw [zerosF_made, ← tfPart_zero (S.cs ps) n, hgc] at O2'
  have OC2 := Lib.hid O2'
  clear O2 O2' hgc BK1 B1 HH1
  go_loopw [5, 6, 16] (fun _ _ iv wr => ∃ i : Nat, i ≤ n ∧ iv = .int .i64 (i : Int) ∧ Hid (wr.ownsRow G 42 2 (.slice (some ⟨gc, 0, none⟩) n n) n (cellsF (tfPart (S.cs ps) n i))) ∧ Hid (wr.heap[G]? = some (.cells #[.slice none 0 0, .int .i64 0, .int .i64 0] 39 (0, 0))) ∧ Hid (HeldT wr (w.alloc (.cells #[.slice none 0 0, .int .i64 0, .int .i64 0] 39)).heap.size gh ch n H R.B ps S.gs ps.length) ∧ Hid (Below w.heap.size w wr)) (fun _ _ iv _ => n - (intOf iv).toNat)
  case atStart => exact ⟨0, Nat.zero_le _, rfl, OC2, BK2, HH2, B2⟩
  case round =>
    clear OC2 BK2 HH2 B2
    obtain ⟨i, hin, rfl, hO, hBK, hH, hB⟩ := hrel
    by_cases hlt : i < n
    · obtain ⟨ha, hc, hH0⟩ : ∃ ha hc, H i = (ha, hc) := ⟨_, _, rfl⟩
      obtain ⟨L, hL⟩ : ∃ L, heldL ps S.gs i ps.length = L := ⟨_, rfl⟩
      have OX := hH.out.inner i hlt
      have CX : wr.cell? ⟨gh, i, none⟩ = some (.slice ha L.length hc) := by
        rw [hH.out.outer.cellAt i (by omega)]
        simp [hlt, hH0, hL]
      rw [hH0, hL] at OX
      have hLm : ∀ j ∈ L, j < ps.length := fun j hj => by rw [← hL] at hj; exact (heldL_mem.1 hj).1
      have hLs : L.length ≤ 12 := by rw [← hL]; exact Nat.le_trans (heldL_short ps S.gs i ps.length) hl12
      have HTW := HT.out.under hB.out
      have hsum : sumW ps S.ws L = fAt (S.cs ps) i := by
        rw [← hL, sumW_held]
        unfold fAt TfS.cs
        rw [tfCnts_at (by rw [HGLN.out]; exact hlt)]; rfl
      obtain ⟨x1, x2, hxe⟩ : ∃ x1 x2, fAt (S.cs ps) i = (x1, x2) := ⟨_, _, rfl⟩
      rw [hxe] at hsum
      have hP : ∀ j ∈ L, ∃ av l c, wr.heap[R.B j]? = some (.cells (pileC av l c (mAt ps j) (tfW S.ws j)) 160 (0, 0)) := fun j hj => ⟨_, _, _, HTW.pm.pile j (hLm j hj)⟩
      have hM : ∀ j ∈ L, 0 ≤ mAt ps j ∧ mAt ps j ≤ 99 := fun j _ => mAt_valid HPV.out j
      have hWV : ∀ j ∈ L, fracB (tfW S.ws j) = true ∧ fracB (ofF ((tfW S.ws j).1 * mAt ps j) (tfW S.ws j).2) = true := fun j hj =>
        ⟨okw_valid (HWOK.out j (hLm j hj)) hD, (w_part (HWOK.out j (hLm j hj)) hD (hM j hj)).2.2⟩
      have hCV : ∀ k, k ≤ L.length → fracB (sumW ps S.ws (L.take k)) = true := fun k _ => by
        obtain ⟨j, hj, he⟩ := heldL_take ps S.gs i k ps.length
        rw [hL] at he
        rw [he, sumW_held]
        obtain ⟨g1, g2⟩ := HCOK.out i j hj
        exact okc_valid g1 hD g2
      have HPT := Lib.hid (IsPt.of_owned OX (by omega))
      have HS := Lib.hid hsum
      have HP2 := Lib.hid hP
      have HM2 := Lib.hid hM
      have HWV := Lib.hid hWV
      have HCV := Lib.hid hCV
      have HXE := Lib.hid hxe
      clear OX hH0 hL hLm HTW hsum hP hM hWV hCV hxe
      go_wp2_with fail
      refine (sumOf_as _ _ _ L R.B ps S.ws x1 x2 _ HPT.out HP2.out HWV.out HM2.out HCV.out HS.out).mono ?_
      rintro e w3 ⟨rfl, hb3⟩
      have O3 := Lib.hid (owns_under hO.out hb3)
      have BK3 := Lib.hid (blk_under hBK.out hb3)
      have HH3 := Lib.hid (hH.out.under hb3)
      have B3 := Lib.hid (below_on hB.out hb3)
      have gC := (O3.out.lt gc rfl).1
      have hne : G ≠ gc := fun e => by
        rcases owns_not_blk O3.out BK3.out (by decide) with q1 | q1
        · simp [Value.ownBlock] at q1
        · exact q1 (by rw [e]; rfl)
      clear hO hBK hH hB hb3 CX HPT HP2 HM2 HWV HCV HS
      obtain ⟨⟨m0, m1⟩, m2, m3⟩ := meets_setF O3.out hlt (.int .i64 x1)
      obtain ⟨O4', G4⟩ := owns_setF O3.out i x1 x2
      have O4 : Hid (((w3.setCell ⟨gc, i * 2, none⟩ (.int .i64 x1)).setCell ⟨gc, i * 2 + 1, none⟩ (.int .i64 x2)).ownsRow G 42 2 (.slice (some ⟨gc, 0, none⟩) n n) n (cellsF (tfPart (S.cs ps) n (i + 1)))) := by
        unfold Hid; rw [tfPart_next hlt, HXE.out]; exact O4'
      have BK4 : Hid (((w3.setCell ⟨gc, i * 2, none⟩ (.int .i64 x1)).setCell ⟨gc, i * 2 + 1, none⟩ (.int .i64 x2)).heap[G]? = some (.cells #[.slice none 0 0, .int .i64 0, .int .i64 0] 39 (0, 0))) := by
        unfold Hid; rw [blk_other hne, blk_other hne]; exact BK3.out
      have B4 : Hid (Below w.heap.size w ((w3.setCell ⟨gc, i * 2, none⟩ (.int .i64 x1)).setCell ⟨gc, i * 2 + 1, none⟩ (.int .i64 x2))) := (B3.out.setCell (p := ⟨gc, i * 2, none⟩) (by show w.heap.size ≤ gc; omega) _).setCell (p := ⟨gc, i * 2 + 1, none⟩) (by show w.heap.size ≤ gc; omega) _
      have HH4 : Hid (HeldT ((w3.setCell ⟨gc, i * 2, none⟩ (.int .i64 x1)).setCell ⟨gc, i * 2 + 1, none⟩ (.int .i64 x2)) (w.alloc (.cells #[.slice none 0 0, .int .i64 0, .int .i64 0] 39)).heap.size gh ch n H R.B ps S.gs ps.length) :=
        ⟨HH3.out.outer.kept G4 (owns_apart (by decide) HH3.out.outer O3.out), fun k hk => (HH3.out.inner k hk).kept G4 (owns_apart (by decide) (HH3.out.inner k hk) O3.out), HH3.out.nil⟩
      have hii : (i : Int) < (n : Int) := by omega
      clear O3 BK3 HH3 B3 O4' G4
      go_wp2
      go_roundw
      case rel => exact ⟨i + 1, by omega, by go_num, O4, BK4, HH4, B4⟩
      case measure => simp [intOf]; omega
    · obtain rfl : i = n := by omega
      have hO2 := hO.out
      rw [tfPart_all HCL.out] at hO2
      have OC := Lib.hid hO2
      clear hO hO2
      rename World => wa
      go_wp2_with fail
      refine (choose_as base T R ps lots q S ps.length _ _ i (x : Int) kind _ (HT.out.under hB.out) (IsFr.of_owned OC.out (by omega)) HA.out HG.out hs HN.out HW.out HK.out).mono ?_
      rintro e w1 ⟨rfl, hb1⟩
      have OC1 := Lib.hid (owns_under OC.out hb1)
      have BK1 := Lib.hid (blk_under hBK.out hb1)
      have HH1 := Lib.hid (hH.out.under hb1)
      have B1 := Lib.hid (below_on hB.out hb1)
      clear OC hBK hH hB hb1
      have hbox : Below w1.heap.size w1 (w1.alloc (.cells #[.int .i64 (x : Int)] 3)) := (Below.refl _ _).alloc (Nat.le_refl _) _
      have OC2 := Lib.hid (owns_under OC1.out hbox)
      have BK2 := Lib.hid (blk_under BK1.out hbox)
      have HH2 := Lib.hid (HH1.out.under hbox)
      have B2 := Lib.hid (below_on B1.out hbox)
      have HT2 := Lib.hid (HT.out.under B2.out)
      have BB2 := Lib.hid (blk_new w1 (.cells #[.int .i64 (x : Int)] 3))
      have hbwG : Hid (w.heap.size ≤ w1.heap.size) := by have := B1.out.size; unfold Hid; omega
      have k3 : (w1.alloc (.cells #[.int .i64 (x : Int)] 3)).cell? ⟨T, 3, none⟩ = some (.int .i64 (S.s : Int)) := blk_cell HT2.out.blk 3
      have m3 : (w1.alloc (.cells #[.int .i64 (x : Int)] 3)).frozen? ⟨T, 3, none⟩ = false := blk_frozen HT2.out.blk 3
      have hs2 := HG.out.two
      obtain ⟨s1, hse⟩ : ∃ s1, S.s - 1 = s1 := ⟨_, rfl⟩
      have hs1 : (S.s : Int) - 1 = (s1 : Int) := by omega
      have hws : IntKind.i64.wrap (s1 : Int) = (s1 : Int) := IntWalk.i64_in _ (by omega)
      have HSE := Lib.hid hse
      have HG2 := Lib.hid hs2
      have HOCN := Lib.hid hxn
      clear hbox OC1 BK1 HH1 B1 hse hs2
      rcases hkc with rfl | rfl | rfl
      · have HNX : Hid (tfNext ps lots q S = ⟨S.gs.set x true, tfWeigh ps S.ws S.gs (x : Int) (c1, c2) q, s1⟩) := by
          unfold Hid tfNext
          rw [HW.out, HK.out, HSE.out, show tfC (S.cs ps) (x : Int) = (c1, c2) by rw [← HCE.out]; unfold tfC fAt; rw [Int.toNat_natCast]]
          simp
        have hqc : 0 < q * c2 := Int.mul_pos (by omega) (by omega)
        have hov := HK1.out rfl
        go_wp2_with fail
        generalize w1.heap.size = bw at *
        obtain ⟨wz, hwz⟩ : ∃ wz, (w1.alloc (.cells #[.int .i64 (x : Int)] 3)) = wz := ⟨_, rfl⟩
        rw [hwz] at OC2 BK2 HH2 B2 HT2 BB2 ⊢
        obtain ⟨ha, hc, hH0⟩ : ∃ ha hc, H x = (ha, hc) := ⟨_, _, rfl⟩
        obtain ⟨L0, hL0⟩ : ∃ L0, heldL ps S.gs x ps.length = L0 := ⟨_, rfl⟩
        have OX := HH2.out.inner x HOCN.out
        have CX : wz.cell? ⟨gh, x, none⟩ = some (.slice ha L0.length hc) := by
          rw [HH2.out.outer.cellAt x (by have := HOCN.out; omega)]
          simp [HOCN.out, hH0, hL0]
        rw [hH0, hL0] at OX
        have hoc : (S.cs ps).length = i := HCL.out
        have cc1 : wz.cell? ⟨gc, x * 2, none⟩ = some (.int .i64 c1) := by
          rw [OC2.out.cellAt (x * 2) (by have := HOCN.out; omega), cellsF_num _ _ (by rw [hoc]; exact HOCN.out), HCE.out]
        have cc2 : wz.cell? ⟨gc, x * 2 + 1, none⟩ = some (.int .i64 c2) := by
          rw [OC2.out.cellAt (x * 2 + 1) (by have := HOCN.out; omega), cellsF_den _ _ (by rw [hoc]; exact HOCN.out), HCE.out]
        have kB : wz.cell? ⟨bw, 0, none⟩ = some (.int .i64 (x : Int)) := blk_cell BB2.out 0
        have hbl := blk_lt BB2.out
        have hgl := (OC2.out.lt gc rfl).2
        have hhl := (HH2.out.outer.lt gh rfl).2
        have u0 : ∀ u : Beh wz, u.w.cell? ⟨bw, 0, none⟩ = _ := Beh.cell kB hbl
        have u1 : ∀ u : Beh wz, u.w.cell? ⟨gh, x, none⟩ = _ := Beh.cell CX hhl
        have u2 : ∀ u : Beh wz, u.w.cell? ⟨gc, x * 2, none⟩ = _ := Beh.cell cc1 hgl
        have u3 : ∀ u : Beh wz, u.w.cell? ⟨gc, x * 2 + 1, none⟩ = _ := Beh.cell cc2 hgl
        have hxi : (x : Int) < (i : Int) := by have := HOCN.out; omega
        have HX2 := Lib.hid OX
        have HL0 := Lib.hid hL0
        clear OX CX cc1 cc2 kB hH0 hL0 hoc k3 m3 hwz
        refine wp_region_below_tail 9 (by kernel_rfl) (by kernel_rfl) ?_
        simp only [List.take_succ_cons, List.take_zero, List.drop_succ_cons, List.drop_zero]
        repeat (go_big_quiet_step (fail))
        refine wpQuiet_nil ?_
        rintro w7 ⟨⟨_, hb8'⟩, he⟩
        have hb7 : Below wz.heap.size wz w7 := by rw [he]; exact hb8'
        clear he hb8' u0 u1 u2 u3 hbl hgl hhl
        have HT7 := Lib.hid (HT2.out.under hb7)
        have OC7 := Lib.hid (owns_under OC2.out hb7)
        have BK7 := Lib.hid (blk_under BK2.out hb7)
        have BB7 := Lib.hid (blk_under BB2.out hb7)
        have HX7 := Lib.hid (owns_under HX2.out hb7)
        have B7 := Lib.hid (below_on B2.out hb7)
        clear HT2 OC2 BK2 BB2 HX2 B2 HH2 hb7
        have hlm : L0.length ≤ 1048600 := by
          have h0 := heldL_short ps S.gs x ps.length
          rw [HL0.out] at h0
          omega
        go_wp2_with fail
        refine (keep_as base T _ R ps lots q S ha L0.length hc L0 c1 c2 D _ HT7.out HX7.out hlm (fun j hj => by rw [← HL0.out] at hj; exact (heldL_mem.1 hj).1) (by rw [← HL0.out]; exact heldL_nodup _ _ _ _) HWOK.out hD (by omega) (by omega) hov ⟨hq1, hq61⟩).mono ?_
        rintro e w6 ⟨rfl, hT6, hC6⟩
        have C6 : Chg base stepP w w6 := (Chg.of_below B7.out).trans (hC6.mono (fun e h => .inl h))
        obtain ⟨a1, a2, a3, a4, a5⟩ := seat_off hT6 (owns_chg OC7.out hC6 (by decide)) (blk_chg BK7.out hC6 (by decide)) (blk_chg BB7.out hC6 (by decide)) C6 s1
        have k3 : w6.cell? ⟨T, 3, none⟩ = some (.int .i64 (S.s : Int)) := blk_cell hT6.blk 3
        have m3 : w6.frozen? ⟨T, 3, none⟩ = false := blk_frozen hT6.blk 3
        rw [← HL0.out, tfMix_held] at a1
        have A1 := Lib.hid a1
        have A2 := Lib.hid a2
        have A3 := Lib.hid a3
        have A4 := Lib.hid a4
        have A5 := Lib.hid a5
        clear HT7 OC7 BK7 BB7 HX7 B7 hT6 hC6 C6 a1 a2 a3 a4 a5 hov hqc
        go_wp2_with fail
        obtain ⟨wx, hwx⟩ : ∃ wx, w6.setCell ⟨T, 3, none⟩ (.int .i64 (s1 : Int)) = wx := ⟨_, rfl⟩
        rw [hwx] at A1 A2 A3 A4 A5 ⊢
        have HTX := A1
        have CX := A5
        have OCX := A2
        have BKX := A3
        have BBX := A4
        clear A1 A2 A3 A4 A5 k3 m3 hwx
        have kT2 : wx.cell? ⟨T, 2, none⟩ = some (.slice (some ⟨R.gg, 0, none⟩) lots.length R.cg) := blk_cell HTX.out.blk 2
        have kB : wx.cell? ⟨bw, 0, none⟩ = some (.int .i64 (x : Int)) := blk_cell BBX.out 0
        have htl := blk_lt HTX.out.blk
        have hbl := blk_lt BBX.out
        have u0 : ∀ u : Beh wx, u.w.cell? ⟨T, 2, none⟩ = _ := Beh.cell kT2 htl
        have u1 : ∀ u : Beh wx, u.w.cell? ⟨bw, 0, none⟩ = _ := Beh.cell kB hbl
        have hxl' : x < lots.length := by have := HN.out; have := HOCN.out; omega
        have hxl : (x : Int) < (lots.length : Int) := by omega
        clear kT2 kB
        refine wp_region_below_tail 6 (by kernel_rfl) (by kernel_rfl) ?_
        simp only [List.take_succ_cons, List.take_zero, List.drop_succ_cons, List.drop_zero]
        repeat (go_big_quiet_step (fail))
        refine wpQuiet_nil ?_
        rintro w8 ⟨⟨_, hb8'⟩, he⟩
        have hb8 : Below wx.heap.size wx w8 := by rw [he]; exact hb8'
        clear he hb8' u0 u1
        have HT8 := Lib.hid (HTX.out.under hb8)
        have OC8 := Lib.hid (owns_under OCX.out hb8)
        have BK8 := Lib.hid (blk_under BKX.out hb8)
        have BB8 := Lib.hid (blk_under BBX.out hb8)
        have C8 := Lib.hid (CX.out.on hb8)
        clear HTX OCX BKX BBX CX hb8 htl hbl
        obtain ⟨cg0, hcg⟩ : ∃ v, w8.cell? ⟨R.gg, x, none⟩ = some v := by
          rw [HT8.out.gone.cellAt x (by omega)]
          exact ⟨_, List.getElem?_eq_getElem (by rw [List.length_map, HG.out.lg]; exact hxl')⟩
        have hcf : w8.frozen? ⟨R.gg, x, none⟩ = false := HT8.out.gone.frozenAt _
        obtain ⟨L, hLE⟩ : ∃ L, (thereL lots (tfG S.gs)).length = L := ⟨_, rfl⟩
        have hgr : (w8.grownBy (w8.setCell ⟨R.gg, x, none⟩ (.bool true)) (some R.gg)) := ⟨rfl, rfl, rfl, by simp [World.setCell], fun k _ hk => blk_other (fun e => hk (by rw [e]))⟩
        have htb := blk_apart_row HT8.out.gone HT8.out.blk (by decide)
        have hBb := blk_apart_row HT8.out.gone BB8.out (by decide)
        have hGb := blk_apart_row HT8.out.gone BK8.out (by decide)
        have hts := blk_apart_row HT8.out.stay HT8.out.blk (by decide)
        have hGs := blk_apart_row HT8.out.stay BK8.out (by decide)
        have hbs2 : bw ≠ R.gs := fun e => stay_low HT.out.stay (by have := hbwG.out; rw [← e]; exact this)
        have t1 : (w8.setCell ⟨R.gg, x, none⟩ (.bool true)).heap[T]? = _ := (blk_other htb).trans HT8.out.blk
        have g1 : (w8.setCell ⟨R.gg, x, none⟩ (.bool true)).heap[G]? = _ := (blk_other hGb).trans BK8.out
        have c1' : (w8.setCell ⟨R.gg, x, none⟩ (.bool true)).heap[bw]? = _ := (blk_other hBb).trans BB8.out
        have l1 : (w8.setCell ⟨R.gg, x, none⟩ (.bool true)).cell? ⟨T, 1, none⟩ = some (.slice (some ⟨R.gs, 0, none⟩) L R.cs) := by rw [← hLE]; exact blk_cell t1 1
        have OS1 := HT8.out.stay.kept hgr (owns_apart (by decide) HT8.out.stay HT8.out.gone)
        have OC1 := Lib.hid (OC8.out.kept hgr (owns_apart (by decide) OC8.out HT8.out.gone))
        rw [hLE] at OS1
        have hmem : (x : Int) ∈ thereL lots (tfG S.gs) := HWM.out
        have hnd : (thereL lots (tfG S.gs)).Nodup := HA.out.nodup.filter _
        obtain ⟨k0, hk0⟩ : ∃ k0, (thereL lots (tfG S.gs)).idxOf (x : Int) = k0 := ⟨_, rfl⟩
        have hkl : k0 < L := by rw [← hk0, ← hLE]; exact List.idxOf_lt_length_iff.2 hmem
        have hkx : (thereL lots (tfG S.gs))[k0]?.getD 0 = (x : Int) := by
          have h1 : (thereL lots (tfG S.gs)).idxOf (x : Int) < (thereL lots (tfG S.gs)).length := List.idxOf_lt_length_iff.2 hmem
          rw [← hk0, List.getElem?_eq_getElem h1, List.getElem_idxOf]; rfl
        have hkn : ∀ p, p ≠ k0 → p < L → (thereL lots (tfG S.gs))[p]?.getD 0 ≠ (x : Int) := fun p hp hpl e => by
          have h1 : p < (thereL lots (tfG S.gs)).length := by omega
          have h2 : k0 < (thereL lots (tfG S.gs)).length := by omega
          rw [← hkx, List.getElem?_eq_getElem h1, List.getElem?_eq_getElem h2] at e
          exact hp ((List.getElem_inj hnd).1 e)
        have her := there_erase (lots := lots) (g := tfG S.gs) (w := (x : Int)) HA.out.nodup
        rw [hk0, ← tfG_set (by rw [HG.out.lg]; exact hxl')] at her
        have hel : L - 1 = (thereL lots (tfG (S.gs.set x true))).length := by rw [← her, List.length_eraseIdx, if_pos (by omega), hLE]
        have hl7 : L ≤ 1048600 := by
          have h0 : (thereL lots (tfG S.gs)).length ≤ lots.length := List.length_filter_le _ _
          have := (lotsB_len HA.out.lots).2
          omega
        have HLV := Lib.hid hel
        have HER := Lib.hid her
        clear hk0 hmem hnd her hel
        go_wp2_with fail
        refine (deleteF_as R.gs L R.cs bw k0 base _ (x : Int) _ OS1 hl7 (blk_cell c1' 0) hbs2 hkl hkn hkx).mono ?_
        rintro e w9 ⟨rfl, h91, h92, h93⟩
        have t9 : w9.heap[T]? = _ := (h92.block T (blk_lt t1) (fun e => hts (by injection e))).trans t1
        have g9 : w9.heap[G]? = _ := (h92.block G (blk_lt g1) (fun e => hGs (by injection e))).trans g1
        have c9 : w9.heap[bw]? = _ := (h92.block bw (blk_lt c1') (fun e => hbs2 (by injection e))).trans c1'
        have t9c : w9.cell? ⟨T, 1, none⟩ = _ := blk_cell t9 1
        have t9f : w9.frozen? ⟨T, 1, none⟩ = false := blk_frozen t9 1
        have gT := blk_ne g9 t9 (by decide)
        have bT := blk_ne c9 t9 (by decide)
        have g0 : (w9.setCell ⟨T, 1, none⟩ (.slice (some ⟨R.gs, 0, none⟩) (L - 1) R.cs)).heap[G]? = _ := (blk_other gT).trans g9
        have b0 : (w9.setCell ⟨T, 1, none⟩ (.slice (some ⟨R.gs, 0, none⟩) (L - 1) R.cs)).heap[bw]? = _ := (blk_other bT).trans c9
        have b0c : (w9.setCell ⟨T, 1, none⟩ (.slice (some ⟨R.gs, 0, none⟩) (L - 1) R.cs)).cell? ⟨bw, 0, none⟩ = _ := blk_cell b0 0
        have q0 : (w9.setCell ⟨T, 1, none⟩ (.slice (some ⟨R.gs, 0, none⟩) (L - 1) R.cs)).cell? ⟨G, 0, none⟩ = _ := blk_cell g0 0
        have f0 : (w9.setCell ⟨T, 1, none⟩ (.slice (some ⟨R.gs, 0, none⟩) (L - 1) R.cs)).frozen? ⟨G, 0, none⟩ = _ := blk_frozen g0 0
        have g01 := blk_set g0 0 (.slice (some ⟨gc, 0, none⟩) i i)
        have q1 : ((w9.setCell ⟨T, 1, none⟩ (.slice (some ⟨R.gs, 0, none⟩) (L - 1) R.cs)).setCell ⟨G, 0, none⟩ (.slice (some ⟨gc, 0, none⟩) i i)).cell? ⟨G, 1, none⟩ = _ := blk_cell g01 1
        have f1 : ((w9.setCell ⟨T, 1, none⟩ (.slice (some ⟨R.gs, 0, none⟩) (L - 1) R.cs)).setCell ⟨G, 0, none⟩ (.slice (some ⟨gc, 0, none⟩) i i)).frozen? ⟨G, 1, none⟩ = false := blk_frozen g01 1
        have g02 := blk_set g01 1 (.int .i64 (x : Int))
        have q2 : (((w9.setCell ⟨T, 1, none⟩ (.slice (some ⟨R.gs, 0, none⟩) (L - 1) R.cs)).setCell ⟨G, 0, none⟩ (.slice (some ⟨gc, 0, none⟩) i i)).setCell ⟨G, 1, none⟩ (.int .i64 (x : Int))).cell? ⟨G, 2, none⟩ = _ := blk_cell g02 2
        have f2 : (((w9.setCell ⟨T, 1, none⟩ (.slice (some ⟨R.gs, 0, none⟩) (L - 1) R.cs)).setCell ⟨G, 0, none⟩ (.slice (some ⟨gc, 0, none⟩) i i)).setCell ⟨G, 1, none⟩ (.int .i64 (x : Int))).frozen? ⟨G, 2, none⟩ = false := blk_frozen g02 2
        go_wp2_with fail
        have g03 := blk_set g02 2 (.int .i64 1)
        have hgg : base ≤ G := by rw [← hG]; exact hbs
        have hgG : w.heap.size ≤ gc := by rw [hG]; exact (OC1.out.lt gc rfl).1
        obtain ⟨cb, hcb⟩ := row_blk HT8.out.gone
        obtain ⟨cs, hcs⟩ := row_blk OS1
        obtain ⟨cs9, hcs9⟩ := row_blk h91
        rw [HER.out] at h91
        have hTL := HT8.out.leave HLV.out h91 h92
        have hTG := (((Chg.refl base (fun e => e = 39) _).set (o := 0) g0 hgg rfl (.slice (some ⟨gc, 0, none⟩) i i)).set (o := 1) g01 hgg rfl (.int .i64 (x : Int))).set (o := 2) g02 hgg rfl (.int .i64 1)
        have hO9 := OC1.out.kept h92 (owns_apart (by decide) OC1.out OS1)
        have hO := owns_set_blk (i := 2) (u := .int .i64 1) (owns_set_blk (i := 1) (u := .int .i64 (x : Int)) (owns_set_blk (i := 0) (u := .slice (some ⟨gc, 0, none⟩) i i) (owns_set_blk (i := 1) (u := .slice (some ⟨R.gs, 0, none⟩) (L - 1) R.cs) hO9 t9 (by decide)) g0 (by decide)) g01 (by decide)) g02 (by decide)
        have hC := (((((C8.out.set (o := x) hcb (by have := (HT8.out.gone.lt R.gg rfl).1; exact this) (.inr (.inr (.inl rfl))) (.bool true)).grown h92 hcs (by have := (OS1.lt R.gs rfl).1; exact this) (.inr (.inl rfl))).set (o := 1) t9 HT8.out.low (.inr (.inr (.inr rfl))) (.slice (some ⟨R.gs, 0, none⟩) (L - 1) R.cs)).new (g := G) (by rw [hG]; exact Nat.le_refl _) 0 (.slice (some ⟨gc, 0, none⟩) i i)).new (g := G) (by rw [hG]; exact Nat.le_refl _) 1 (.int .i64 (x : Int))).new (g := G) (by rw [hG]; exact Nat.le_refl _) 2 (.int .i64 1)
        have r0 := blk_cell g03 0
        have r1 := blk_cell g03 1
        have r2 := blk_cell g03 2
        refine bodyPost_ret (v := .agg #[.slice (some ⟨gc, 0, none⟩) i i, .int .i64 (x : Int), .int .i64 1]) (by simp [results, Try.results83, go_sem, r0, r1, r2]) rfl ?_
        refine ⟨gc, i, rfl, hgG, ?_, ?_, hC⟩
        · rw [HNX.out]
          exact hTL.chg hTG (by decide) (by decide) (by decide) (by decide) (by decide)
        · rw [hG]; exact hO
      · clear k3 m3 hws hs1
        have HNX : Hid (tfNext ps lots q S = ⟨S.gs.set x true, S.ws, S.s⟩) := by unfold Hid tfNext; rw [HW.out, HK.out]; simp
        go_wp2_with fail
        generalize w1.heap.size = bw at *
        obtain ⟨wx, hwx⟩ : ∃ wx, (w1.alloc (.cells #[.int .i64 (x : Int)] 3)) = wx := ⟨_, rfl⟩
        rw [hwx] at OC2 BK2 HH2 B2 HT2 BB2 ⊢
        have HTX := HT2
        have CX : Hid (Chg base stepP w wx) := Lib.hid (Chg.of_below B2.out)
        have OCX := OC2
        have BKX := BK2
        have BBX := BB2
        clear HT2 B2 OC2 BK2 BB2 HH2 hwx
        have kT2 : wx.cell? ⟨T, 2, none⟩ = some (.slice (some ⟨R.gg, 0, none⟩) lots.length R.cg) := blk_cell HTX.out.blk 2
        have kB : wx.cell? ⟨bw, 0, none⟩ = some (.int .i64 (x : Int)) := blk_cell BBX.out 0
        have htl := blk_lt HTX.out.blk
        have hbl := blk_lt BBX.out
        have u0 : ∀ u : Beh wx, u.w.cell? ⟨T, 2, none⟩ = _ := Beh.cell kT2 htl
        have u1 : ∀ u : Beh wx, u.w.cell? ⟨bw, 0, none⟩ = _ := Beh.cell kB hbl
        have hxl' : x < lots.length := by have := HN.out; have := HOCN.out; omega
        have hxl : (x : Int) < (lots.length : Int) := by omega
        clear kT2 kB
        refine wp_region_below_tail 6 (by kernel_rfl) (by kernel_rfl) ?_
        simp only [List.take_succ_cons, List.take_zero, List.drop_succ_cons, List.drop_zero]
        repeat (go_big_quiet_step (fail))
        refine wpQuiet_nil ?_
        rintro w8 ⟨⟨_, hb8'⟩, he⟩
        have hb8 : Below wx.heap.size wx w8 := by rw [he]; exact hb8'
        clear he hb8' u0 u1
        have HT8 := Lib.hid (HTX.out.under hb8)
        have OC8 := Lib.hid (owns_under OCX.out hb8)
        have BK8 := Lib.hid (blk_under BKX.out hb8)
        have BB8 := Lib.hid (blk_under BBX.out hb8)
        have C8 := Lib.hid (CX.out.on hb8)
        clear HTX OCX BKX BBX CX hb8 htl hbl
        obtain ⟨cg0, hcg⟩ : ∃ v, w8.cell? ⟨R.gg, x, none⟩ = some v := by
          rw [HT8.out.gone.cellAt x (by omega)]
          exact ⟨_, List.getElem?_eq_getElem (by rw [List.length_map, HG.out.lg]; exact hxl')⟩
        have hcf : w8.frozen? ⟨R.gg, x, none⟩ = false := HT8.out.gone.frozenAt _
        obtain ⟨L, hLE⟩ : ∃ L, (thereL lots (tfG S.gs)).length = L := ⟨_, rfl⟩
        have hgr : (w8.grownBy (w8.setCell ⟨R.gg, x, none⟩ (.bool true)) (some R.gg)) := ⟨rfl, rfl, rfl, by simp [World.setCell], fun k _ hk => blk_other (fun e => hk (by rw [e]))⟩
        have htb := blk_apart_row HT8.out.gone HT8.out.blk (by decide)
        have hBb := blk_apart_row HT8.out.gone BB8.out (by decide)
        have hGb := blk_apart_row HT8.out.gone BK8.out (by decide)
        have hts := blk_apart_row HT8.out.stay HT8.out.blk (by decide)
        have hGs := blk_apart_row HT8.out.stay BK8.out (by decide)
        have hbs2 : bw ≠ R.gs := fun e => stay_low HT.out.stay (by have := hbwG.out; rw [← e]; exact this)
        have t1 : (w8.setCell ⟨R.gg, x, none⟩ (.bool true)).heap[T]? = _ := (blk_other htb).trans HT8.out.blk
        have g1 : (w8.setCell ⟨R.gg, x, none⟩ (.bool true)).heap[G]? = _ := (blk_other hGb).trans BK8.out
        have c1' : (w8.setCell ⟨R.gg, x, none⟩ (.bool true)).heap[bw]? = _ := (blk_other hBb).trans BB8.out
        have l1 : (w8.setCell ⟨R.gg, x, none⟩ (.bool true)).cell? ⟨T, 1, none⟩ = some (.slice (some ⟨R.gs, 0, none⟩) L R.cs) := by rw [← hLE]; exact blk_cell t1 1
        have OS1 := HT8.out.stay.kept hgr (owns_apart (by decide) HT8.out.stay HT8.out.gone)
        have OC1 := Lib.hid (OC8.out.kept hgr (owns_apart (by decide) OC8.out HT8.out.gone))
        rw [hLE] at OS1
        have hmem : (x : Int) ∈ thereL lots (tfG S.gs) := HWM.out
        have hnd : (thereL lots (tfG S.gs)).Nodup := HA.out.nodup.filter _
        obtain ⟨k0, hk0⟩ : ∃ k0, (thereL lots (tfG S.gs)).idxOf (x : Int) = k0 := ⟨_, rfl⟩
        have hkl : k0 < L := by rw [← hk0, ← hLE]; exact List.idxOf_lt_length_iff.2 hmem
        have hkx : (thereL lots (tfG S.gs))[k0]?.getD 0 = (x : Int) := by
          have h1 : (thereL lots (tfG S.gs)).idxOf (x : Int) < (thereL lots (tfG S.gs)).length := List.idxOf_lt_length_iff.2 hmem
          rw [← hk0, List.getElem?_eq_getElem h1, List.getElem_idxOf]; rfl
        have hkn : ∀ p, p ≠ k0 → p < L → (thereL lots (tfG S.gs))[p]?.getD 0 ≠ (x : Int) := fun p hp hpl e => by
          have h1 : p < (thereL lots (tfG S.gs)).length := by omega
          have h2 : k0 < (thereL lots (tfG S.gs)).length := by omega
          rw [← hkx, List.getElem?_eq_getElem h1, List.getElem?_eq_getElem h2] at e
          exact hp ((List.getElem_inj hnd).1 e)
        have her := there_erase (lots := lots) (g := tfG S.gs) (w := (x : Int)) HA.out.nodup
        rw [hk0, ← tfG_set (by rw [HG.out.lg]; exact hxl')] at her
        have hel : L - 1 = (thereL lots (tfG (S.gs.set x true))).length := by rw [← her, List.length_eraseIdx, if_pos (by omega), hLE]
        have hl7 : L ≤ 1048600 := by
          have h0 : (thereL lots (tfG S.gs)).length ≤ lots.length := List.length_filter_le _ _
          have := (lotsB_len HA.out.lots).2
          omega
        have HLV := Lib.hid hel
        have HER := Lib.hid her
        clear hk0 hmem hnd her hel
        go_wp2_with fail
        refine (deleteF_as R.gs L R.cs bw k0 base _ (x : Int) _ OS1 hl7 (blk_cell c1' 0) hbs2 hkl hkn hkx).mono ?_
        rintro e w9 ⟨rfl, h91, h92, h93⟩
        have t9 : w9.heap[T]? = _ := (h92.block T (blk_lt t1) (fun e => hts (by injection e))).trans t1
        have g9 : w9.heap[G]? = _ := (h92.block G (blk_lt g1) (fun e => hGs (by injection e))).trans g1
        have c9 : w9.heap[bw]? = _ := (h92.block bw (blk_lt c1') (fun e => hbs2 (by injection e))).trans c1'
        have t9c : w9.cell? ⟨T, 1, none⟩ = _ := blk_cell t9 1
        have t9f : w9.frozen? ⟨T, 1, none⟩ = false := blk_frozen t9 1
        have gT := blk_ne g9 t9 (by decide)
        have bT := blk_ne c9 t9 (by decide)
        have g0 : (w9.setCell ⟨T, 1, none⟩ (.slice (some ⟨R.gs, 0, none⟩) (L - 1) R.cs)).heap[G]? = _ := (blk_other gT).trans g9
        have b0 : (w9.setCell ⟨T, 1, none⟩ (.slice (some ⟨R.gs, 0, none⟩) (L - 1) R.cs)).heap[bw]? = _ := (blk_other bT).trans c9
        have b0c : (w9.setCell ⟨T, 1, none⟩ (.slice (some ⟨R.gs, 0, none⟩) (L - 1) R.cs)).cell? ⟨bw, 0, none⟩ = _ := blk_cell b0 0
        have q0 : (w9.setCell ⟨T, 1, none⟩ (.slice (some ⟨R.gs, 0, none⟩) (L - 1) R.cs)).cell? ⟨G, 0, none⟩ = _ := blk_cell g0 0
        have f0 : (w9.setCell ⟨T, 1, none⟩ (.slice (some ⟨R.gs, 0, none⟩) (L - 1) R.cs)).frozen? ⟨G, 0, none⟩ = _ := blk_frozen g0 0
        have g01 := blk_set g0 0 (.slice (some ⟨gc, 0, none⟩) i i)
        have q1 : ((w9.setCell ⟨T, 1, none⟩ (.slice (some ⟨R.gs, 0, none⟩) (L - 1) R.cs)).setCell ⟨G, 0, none⟩ (.slice (some ⟨gc, 0, none⟩) i i)).cell? ⟨G, 1, none⟩ = _ := blk_cell g01 1
        have f1 : ((w9.setCell ⟨T, 1, none⟩ (.slice (some ⟨R.gs, 0, none⟩) (L - 1) R.cs)).setCell ⟨G, 0, none⟩ (.slice (some ⟨gc, 0, none⟩) i i)).frozen? ⟨G, 1, none⟩ = false := blk_frozen g01 1
        have g02 := blk_set g01 1 (.int .i64 (x : Int))
        have q2 : (((w9.setCell ⟨T, 1, none⟩ (.slice (some ⟨R.gs, 0, none⟩) (L - 1) R.cs)).setCell ⟨G, 0, none⟩ (.slice (some ⟨gc, 0, none⟩) i i)).setCell ⟨G, 1, none⟩ (.int .i64 (x : Int))).cell? ⟨G, 2, none⟩ = _ := blk_cell g02 2
        have f2 : (((w9.setCell ⟨T, 1, none⟩ (.slice (some ⟨R.gs, 0, none⟩) (L - 1) R.cs)).setCell ⟨G, 0, none⟩ (.slice (some ⟨gc, 0, none⟩) i i)).setCell ⟨G, 1, none⟩ (.int .i64 (x : Int))).frozen? ⟨G, 2, none⟩ = false := blk_frozen g02 2
        go_wp2_with fail
        have g03 := blk_set g02 2 (.int .i64 2)
        have hgg : base ≤ G := by rw [← hG]; exact hbs
        have hgG : w.heap.size ≤ gc := by rw [hG]; exact (OC1.out.lt gc rfl).1
        obtain ⟨cb, hcb⟩ := row_blk HT8.out.gone
        obtain ⟨cs, hcs⟩ := row_blk OS1
        obtain ⟨cs9, hcs9⟩ := row_blk h91
        rw [HER.out] at h91
        have hTL := HT8.out.leave HLV.out h91 h92
        have hTG := (((Chg.refl base (fun e => e = 39) _).set (o := 0) g0 hgg rfl (.slice (some ⟨gc, 0, none⟩) i i)).set (o := 1) g01 hgg rfl (.int .i64 (x : Int))).set (o := 2) g02 hgg rfl (.int .i64 2)
        have hO9 := OC1.out.kept h92 (owns_apart (by decide) OC1.out OS1)
        have hO := owns_set_blk (i := 2) (u := .int .i64 2) (owns_set_blk (i := 1) (u := .int .i64 (x : Int)) (owns_set_blk (i := 0) (u := .slice (some ⟨gc, 0, none⟩) i i) (owns_set_blk (i := 1) (u := .slice (some ⟨R.gs, 0, none⟩) (L - 1) R.cs) hO9 t9 (by decide)) g0 (by decide)) g01 (by decide)) g02 (by decide)
        have hC := (((((C8.out.set (o := x) hcb (by have := (HT8.out.gone.lt R.gg rfl).1; exact this) (.inr (.inr (.inl rfl))) (.bool true)).grown h92 hcs (by have := (OS1.lt R.gs rfl).1; exact this) (.inr (.inl rfl))).set (o := 1) t9 HT8.out.low (.inr (.inr (.inr rfl))) (.slice (some ⟨R.gs, 0, none⟩) (L - 1) R.cs)).new (g := G) (by rw [hG]; exact Nat.le_refl _) 0 (.slice (some ⟨gc, 0, none⟩) i i)).new (g := G) (by rw [hG]; exact Nat.le_refl _) 1 (.int .i64 (x : Int))).new (g := G) (by rw [hG]; exact Nat.le_refl _) 2 (.int .i64 2)
        have r0 := blk_cell g03 0
        have r1 := blk_cell g03 1
        have r2 := blk_cell g03 2
        refine bodyPost_ret (v := .agg #[.slice (some ⟨gc, 0, none⟩) i i, .int .i64 (x : Int), .int .i64 2]) (by simp [results, Try.results83, go_sem, r0, r1, r2]) rfl ?_
        refine ⟨gc, i, rfl, hgG, ?_, ?_, hC⟩
        · rw [HNX.out]
          exact hTL.chg hTG (by decide) (by decide) (by decide) (by decide) (by decide)
        · rw [hG]; exact hO
      · have HNX : Hid (tfNext ps lots q S = ⟨S.gs.set x true, S.ws, s1⟩) := by unfold Hid tfNext; rw [HW.out, HK.out, HSE.out]; simp
        go_wp2_with fail
        generalize w1.heap.size = bw at *
        obtain ⟨wz, hwz⟩ : ∃ wz, (w1.alloc (.cells #[.int .i64 (x : Int)] 3)) = wz := ⟨_, rfl⟩
        rw [hwz] at OC2 BK2 HH2 B2 HT2 BB2 ⊢
        obtain ⟨a1, a2, a3, a4, a5⟩ := seat_off HT2.out OC2.out BK2.out BB2.out (Chg.of_below (base := base) (P := stepP) B2.out) s1
        have A1 := Lib.hid a1
        have A2 := Lib.hid a2
        have A3 := Lib.hid a3
        have A4 := Lib.hid a4
        have A5 := Lib.hid a5
        clear k3 m3 hwz
        obtain ⟨wx, hwx⟩ : ∃ wx, wz.setCell ⟨T, 3, none⟩ (.int .i64 (s1 : Int)) = wx := ⟨_, rfl⟩
        rw [hwx] at A1 A2 A3 A4 A5 ⊢
        have HTX := A1
        have CX := A5
        have OCX := A2
        have BKX := A3
        have BBX := A4
        clear A1 A2 A3 A4 A5 HT2 B2 OC2 BK2 BB2 HH2 hwx a1 a2 a3 a4 a5
        have kT2 : wx.cell? ⟨T, 2, none⟩ = some (.slice (some ⟨R.gg, 0, none⟩) lots.length R.cg) := blk_cell HTX.out.blk 2
        have kB : wx.cell? ⟨bw, 0, none⟩ = some (.int .i64 (x : Int)) := blk_cell BBX.out 0
        have htl := blk_lt HTX.out.blk
        have hbl := blk_lt BBX.out
        have u0 : ∀ u : Beh wx, u.w.cell? ⟨T, 2, none⟩ = _ := Beh.cell kT2 htl
        have u1 : ∀ u : Beh wx, u.w.cell? ⟨bw, 0, none⟩ = _ := Beh.cell kB hbl
        have hxl' : x < lots.length := by have := HN.out; have := HOCN.out; omega
        have hxl : (x : Int) < (lots.length : Int) := by omega
        clear kT2 kB
        refine wp_region_below_tail 6 (by kernel_rfl) (by kernel_rfl) ?_
        simp only [List.take_succ_cons, List.take_zero, List.drop_succ_cons, List.drop_zero]
        repeat (go_big_quiet_step (fail))
        refine wpQuiet_nil ?_
        rintro w8 ⟨⟨_, hb8'⟩, he⟩
        have hb8 : Below wx.heap.size wx w8 := by rw [he]; exact hb8'
        clear he hb8' u0 u1
        have HT8 := Lib.hid (HTX.out.under hb8)
        have OC8 := Lib.hid (owns_under OCX.out hb8)
        have BK8 := Lib.hid (blk_under BKX.out hb8)
        have BB8 := Lib.hid (blk_under BBX.out hb8)
        have C8 := Lib.hid (CX.out.on hb8)
        clear HTX OCX BKX BBX CX hb8 htl hbl
        obtain ⟨cg0, hcg⟩ : ∃ v, w8.cell? ⟨R.gg, x, none⟩ = some v := by
          rw [HT8.out.gone.cellAt x (by omega)]
          exact ⟨_, List.getElem?_eq_getElem (by rw [List.length_map, HG.out.lg]; exact hxl')⟩
        have hcf : w8.frozen? ⟨R.gg, x, none⟩ = false := HT8.out.gone.frozenAt _
        obtain ⟨L, hLE⟩ : ∃ L, (thereL lots (tfG S.gs)).length = L := ⟨_, rfl⟩
        have hgr : (w8.grownBy (w8.setCell ⟨R.gg, x, none⟩ (.bool true)) (some R.gg)) := ⟨rfl, rfl, rfl, by simp [World.setCell], fun k _ hk => blk_other (fun e => hk (by rw [e]))⟩
        have htb := blk_apart_row HT8.out.gone HT8.out.blk (by decide)
        have hBb := blk_apart_row HT8.out.gone BB8.out (by decide)
        have hGb := blk_apart_row HT8.out.gone BK8.out (by decide)
        have hts := blk_apart_row HT8.out.stay HT8.out.blk (by decide)
        have hGs := blk_apart_row HT8.out.stay BK8.out (by decide)
        have hbs2 : bw ≠ R.gs := fun e => stay_low HT.out.stay (by have := hbwG.out; rw [← e]; exact this)
        have t1 : (w8.setCell ⟨R.gg, x, none⟩ (.bool true)).heap[T]? = _ := (blk_other htb).trans HT8.out.blk
        have g1 : (w8.setCell ⟨R.gg, x, none⟩ (.bool true)).heap[G]? = _ := (blk_other hGb).trans BK8.out
        have c1' : (w8.setCell ⟨R.gg, x, none⟩ (.bool true)).heap[bw]? = _ := (blk_other hBb).trans BB8.out
        have l1 : (w8.setCell ⟨R.gg, x, none⟩ (.bool true)).cell? ⟨T, 1, none⟩ = some (.slice (some ⟨R.gs, 0, none⟩) L R.cs) := by rw [← hLE]; exact blk_cell t1 1
        have OS1 := HT8.out.stay.kept hgr (owns_apart (by decide) HT8.out.stay HT8.out.gone)
        have OC1 := Lib.hid (OC8.out.kept hgr (owns_apart (by decide) OC8.out HT8.out.gone))
        rw [hLE] at OS1
        have hmem : (x : Int) ∈ thereL lots (tfG S.gs) := HWM.out
        have hnd : (thereL lots (tfG S.gs)).Nodup := HA.out.nodup.filter _
        obtain ⟨k0, hk0⟩ : ∃ k0, (thereL lots (tfG S.gs)).idxOf (x : Int) = k0 := ⟨_, rfl⟩
        have hkl : k0 < L := by rw [← hk0, ← hLE]; exact List.idxOf_lt_length_iff.2 hmem
        have hkx : (thereL lots (tfG S.gs))[k0]?.getD 0 = (x : Int) := by
          have h1 : (thereL lots (tfG S.gs)).idxOf (x : Int) < (thereL lots (tfG S.gs)).length := List.idxOf_lt_length_iff.2 hmem
          rw [← hk0, List.getElem?_eq_getElem h1, List.getElem_idxOf]; rfl
        have hkn : ∀ p, p ≠ k0 → p < L → (thereL lots (tfG S.gs))[p]?.getD 0 ≠ (x : Int) := fun p hp hpl e => by
          have h1 : p < (thereL lots (tfG S.gs)).length := by omega
          have h2 : k0 < (thereL lots (tfG S.gs)).length := by omega
          rw [← hkx, List.getElem?_eq_getElem h1, List.getElem?_eq_getElem h2] at e
          exact hp ((List.getElem_inj hnd).1 e)
        have her := there_erase (lots := lots) (g := tfG S.gs) (w := (x : Int)) HA.out.nodup
        rw [hk0, ← tfG_set (by rw [HG.out.lg]; exact hxl')] at her
        have hel : L - 1 = (thereL lots (tfG (S.gs.set x true))).length := by rw [← her, List.length_eraseIdx, if_pos (by omega), hLE]
        have hl7 : L ≤ 1048600 := by
          have h0 : (thereL lots (tfG S.gs)).length ≤ lots.length := List.length_filter_le _ _
          have := (lotsB_len HA.out.lots).2
          omega
        have HLV := Lib.hid hel
        have HER := Lib.hid her
        clear hk0 hmem hnd her hel
        go_wp2_with fail
        refine (deleteF_as R.gs L R.cs bw k0 base _ (x : Int) _ OS1 hl7 (blk_cell c1' 0) hbs2 hkl hkn hkx).mono ?_
        rintro e w9 ⟨rfl, h91, h92, h93⟩
        have t9 : w9.heap[T]? = _ := (h92.block T (blk_lt t1) (fun e => hts (by injection e))).trans t1
        have g9 : w9.heap[G]? = _ := (h92.block G (blk_lt g1) (fun e => hGs (by injection e))).trans g1
        have c9 : w9.heap[bw]? = _ := (h92.block bw (blk_lt c1') (fun e => hbs2 (by injection e))).trans c1'
        have t9c : w9.cell? ⟨T, 1, none⟩ = _ := blk_cell t9 1
        have t9f : w9.frozen? ⟨T, 1, none⟩ = false := blk_frozen t9 1
        have gT := blk_ne g9 t9 (by decide)
        have bT := blk_ne c9 t9 (by decide)
        have g0 : (w9.setCell ⟨T, 1, none⟩ (.slice (some ⟨R.gs, 0, none⟩) (L - 1) R.cs)).heap[G]? = _ := (blk_other gT).trans g9
        have b0 : (w9.setCell ⟨T, 1, none⟩ (.slice (some ⟨R.gs, 0, none⟩) (L - 1) R.cs)).heap[bw]? = _ := (blk_other bT).trans c9
        have b0c : (w9.setCell ⟨T, 1, none⟩ (.slice (some ⟨R.gs, 0, none⟩) (L - 1) R.cs)).cell? ⟨bw, 0, none⟩ = _ := blk_cell b0 0
        have q0 : (w9.setCell ⟨T, 1, none⟩ (.slice (some ⟨R.gs, 0, none⟩) (L - 1) R.cs)).cell? ⟨G, 0, none⟩ = _ := blk_cell g0 0
        have f0 : (w9.setCell ⟨T, 1, none⟩ (.slice (some ⟨R.gs, 0, none⟩) (L - 1) R.cs)).frozen? ⟨G, 0, none⟩ = _ := blk_frozen g0 0
        have g01 := blk_set g0 0 (.slice (some ⟨gc, 0, none⟩) i i)
        have q1 : ((w9.setCell ⟨T, 1, none⟩ (.slice (some ⟨R.gs, 0, none⟩) (L - 1) R.cs)).setCell ⟨G, 0, none⟩ (.slice (some ⟨gc, 0, none⟩) i i)).cell? ⟨G, 1, none⟩ = _ := blk_cell g01 1
        have f1 : ((w9.setCell ⟨T, 1, none⟩ (.slice (some ⟨R.gs, 0, none⟩) (L - 1) R.cs)).setCell ⟨G, 0, none⟩ (.slice (some ⟨gc, 0, none⟩) i i)).frozen? ⟨G, 1, none⟩ = false := blk_frozen g01 1
        have g02 := blk_set g01 1 (.int .i64 (x : Int))
        have q2 : (((w9.setCell ⟨T, 1, none⟩ (.slice (some ⟨R.gs, 0, none⟩) (L - 1) R.cs)).setCell ⟨G, 0, none⟩ (.slice (some ⟨gc, 0, none⟩) i i)).setCell ⟨G, 1, none⟩ (.int .i64 (x : Int))).cell? ⟨G, 2, none⟩ = _ := blk_cell g02 2
        have f2 : (((w9.setCell ⟨T, 1, none⟩ (.slice (some ⟨R.gs, 0, none⟩) (L - 1) R.cs)).setCell ⟨G, 0, none⟩ (.slice (some ⟨gc, 0, none⟩) i i)).setCell ⟨G, 1, none⟩ (.int .i64 (x : Int))).frozen? ⟨G, 2, none⟩ = false := blk_frozen g02 2
        go_wp2_with fail
        have g03 := blk_set g02 2 (.int .i64 3)
        have hgg : base ≤ G := by rw [← hG]; exact hbs
        have hgG : w.heap.size ≤ gc := by rw [hG]; exact (OC1.out.lt gc rfl).1
        obtain ⟨cb, hcb⟩ := row_blk HT8.out.gone
        obtain ⟨cs, hcs⟩ := row_blk OS1
        obtain ⟨cs9, hcs9⟩ := row_blk h91
        rw [HER.out] at h91
        have hTL := HT8.out.leave HLV.out h91 h92
        have hTG := (((Chg.refl base (fun e => e = 39) _).set (o := 0) g0 hgg rfl (.slice (some ⟨gc, 0, none⟩) i i)).set (o := 1) g01 hgg rfl (.int .i64 (x : Int))).set (o := 2) g02 hgg rfl (.int .i64 3)
        have hO9 := OC1.out.kept h92 (owns_apart (by decide) OC1.out OS1)
        have hO := owns_set_blk (i := 2) (u := .int .i64 3) (owns_set_blk (i := 1) (u := .int .i64 (x : Int)) (owns_set_blk (i := 0) (u := .slice (some ⟨gc, 0, none⟩) i i) (owns_set_blk (i := 1) (u := .slice (some ⟨R.gs, 0, none⟩) (L - 1) R.cs) hO9 t9 (by decide)) g0 (by decide)) g01 (by decide)) g02 (by decide)
        have hC := (((((C8.out.set (o := x) hcb (by have := (HT8.out.gone.lt R.gg rfl).1; exact this) (.inr (.inr (.inl rfl))) (.bool true)).grown h92 hcs (by have := (OS1.lt R.gs rfl).1; exact this) (.inr (.inl rfl))).set (o := 1) t9 HT8.out.low (.inr (.inr (.inr rfl))) (.slice (some ⟨R.gs, 0, none⟩) (L - 1) R.cs)).new (g := G) (by rw [hG]; exact Nat.le_refl _) 0 (.slice (some ⟨gc, 0, none⟩) i i)).new (g := G) (by rw [hG]; exact Nat.le_refl _) 1 (.int .i64 (x : Int))).new (g := G) (by rw [hG]; exact Nat.le_refl _) 2 (.int .i64 3)
        have r0 := blk_cell g03 0
        have r1 := blk_cell g03 1
        have r2 := blk_cell g03 2
        refine bodyPost_ret (v := .agg #[.slice (some ⟨gc, 0, none⟩) i i, .int .i64 (x : Int), .int .i64 3]) (by simp [results, Try.results83, go_sem, r0, r1, r2]) rfl ?_
        refine ⟨gc, i, rfl, hgG, ?_, ?_, hC⟩
        · rw [HNX.out]
          exact hTL.chg hTG (by decide) (by decide) (by decide) (by decide) (by decide)
        · rw [hG]; exact hO

end Go.Proofs.Yteomnjakcnfchaa
