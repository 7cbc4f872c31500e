/-
  The method step of impl's transfer: the next step; it changes the transfer's own blocks alone.
  Whether piles fit n candidates: impl.pilesFit, for every list of piles (at most 1048600, with texts of at most 1048600 bytes) and every number; it does not write into memory that was there.
  slices.Clone at []int and impl.newTransfer: a transfer ahead of its first step, in memory of its own; nothing that was there is written.
  newTransfer of impl: the transfer's start in memory of its own, or nothing where the arguments are not valid; it writes into no memory that was there.
-/
import Derived.Test.YtafnmongglhlaaaGrp20
import Derived.Test.YtafnmongglhlaaaGrp21
import Derived.Test.YtafnmongglhlaaaGrp22
import Derived.Test.YtafnmongglhlaaaGrpQ
import Derived.Test.YtafnmongglhlaaaGrp16
import Derived.Test.YtafnmongglhlaaaGrp6
import Derived.Test.YtafnmongglhlaaaGrp3
import Derived.Test.YtafnmongglhlaaaGrp18
import Derived.Test.YtafnmongglhlaaaGrp4
import Derived.Lib.SliceRun
import Derived.Deep.RegionHeld3
namespace Go.Proofs.Ytafnmongglhlaaa
open Go.RowKit

attribute [local go_sem] Oper.semAt_some

theorem zerosF_made (n : Nat) : (madeCells (Value.agg #[.int .i64 0, .int .i64 0]).cells (n * 2)).toList = cellsF (List.replicate n (0, 0)) := by
  have e : (Value.agg #[.int .i64 0, .int .i64 0]).cells = #[.int .i64 0, .int .i64 0] := by rfl
  rw [e]
  refine List.ext_getElem? (fun i => ?_)
  have hl : (cellsF (List.replicate n (0, 0))).length = n * 2 := by rw [cellsF_length, List.length_replicate]
  by_cases h : i < n * 2
  · have h2 : (cellsF (List.replicate n ((0, 0) : Fr)))[i]? = some (.int .i64 0) := by
      have hr : fAt (List.replicate n ((0, 0) : Fr)) (i / 2) = (0, 0) := by unfold fAt; simp [show i / 2 < n by omega]
      rcases Nat.mod_two_eq_zero_or_one i with g | g
      · have := cellsF_num (List.replicate n ((0, 0) : Fr)) (i / 2) (by simp; omega)
        rw [hr, show i / 2 * 2 = i by omega] at this; exact this
      · have := cellsF_den (List.replicate n ((0, 0) : Fr)) (i / 2) (by simp; omega)
        rw [hr, show i / 2 * 2 + 1 = i by omega] at this; exact this
    rw [h2]
    simp [madeCells, h]
    rcases Nat.mod_two_eq_zero_or_one i with g | g <;> simp [g]
  · rw [List.getElem?_eq_none (by rw [Array.length_toList, size_madeCells]; omega), List.getElem?_eq_none (by rw [hl]; omega)]

/-- The counts of the first i candidates, zeros for the others. -/
def tfPart (cs : List Fr) (n i : Nat) : List Fr := (List.range n).map fun k => if k < i then fAt cs k else (0, 0)
theorem tfPart_zero (cs : List Fr) (n : Nat) : tfPart cs n 0 = List.replicate n (0, 0) := by
  refine List.ext_getElem (by simp [tfPart]) (fun k h1 h2 => ?_)
  simp [tfPart]
theorem tfPart_all {cs : List Fr} {n : Nat} (h : cs.length = n) : tfPart cs n n = cs := by
  refine List.ext_getElem (by simp [tfPart, h]) (fun k h1 h2 => ?_)
  simp [tfPart, fAt, h2, show k < n by rw [← h]; exact h2]
theorem tfPart_next {cs : List Fr} {n i : Nat} (_ : i < n) : tfPart cs n (i + 1) = (tfPart cs n i).set i (fAt cs i) := by
  refine List.ext_getElem (by simp [tfPart]) (fun k h1 h2 => ?_)
  rw [List.getElem_set]
  simp only [tfPart, List.getElem_map, List.getElem_range]
  by_cases e : i = k
  · subst e; simp
  · rw [if_neg e]
    by_cases g : k < i
    · rw [if_pos (by omega), if_pos g]
    · rw [if_neg (by omega), if_neg g]
theorem three_sets {w : World} {g : Nat} {v0 v1 v2 : Value} {e : TypeId} (h : w.heap[g]? = some (.cells #[v0, v1, v2] e (0, 0))) (a b c : Value) :
    (((w.setCell ⟨g, 0, none⟩ a).setCell ⟨g, 1, none⟩ b).setCell ⟨g, 2, none⟩ c).heap[g]? = some (.cells #[a, b, c] e (0, 0)) := by
  rw [blk_set (blk_set (blk_set h 0 a) 1 b) 2 c]; simp

/-- A block that P's type does not fit lies apart. -/
theorem blk_apart_row {w : World} {b n s g c k : Nat} {e e' : TypeId} {z : Nat × Nat} {cu : Array Value} {xs : List Value} (h : w.ownsRow b e s (.slice (some ⟨g, 0, none⟩) n c) n xs) (hk : w.heap[k]? = some (.cells cu e' z)) (hne : e ≠ e') : k ≠ g := fun e1 => by
  rcases owns_not_blk h hk hne with q | q
  · simp [Value.ownBlock] at q
  · exact q (by rw [e1]; rfl)
theorem blk_ne {w : World} {g k : Nat} {c c' : Array Value} {e e' : TypeId} {z z' : Nat × Nat} (h : w.heap[g]? = some (.cells c e z)) (h' : w.heap[k]? = some (.cells c' e' z')) (hne : e ≠ e') : g ≠ k := fun e1 => by
  rw [e1, h'] at h
  injection h with h
  injection h with _ h _
  exact hne h.symm
theorem stay_low {w : World} {b n s g c : Nat} {e : TypeId} {xs : List Value} (h : w.ownsRow b e s (.slice (some ⟨g, 0, none⟩) n c) n xs) (hk : w.heap.size ≤ g) : False := by
  have := (h.lt g rfl).2
  omega
theorem row_blk {w : World} {b n s g c : Nat} {e : TypeId} {xs : List Value} (h : w.ownsRow b e s (.slice (some ⟨g, 0, none⟩) n c) n xs) : ∃ cu, w.heap[g]? = some (.cells cu e (0, 0)) := by
  rcases h.2 with ⟨e, _⟩ | ⟨g1, c1, cu, e, _, hg1, _⟩
  · simp at e
  · injection e with e _ _
    injection e with e
    injection e with e _ _
    exact ⟨cu, by rw [e]; exact hg1⟩
theorem Chg.new {base : Nat} {P : TypeId → Prop} {w w' : World} (h : Chg base P w w') {g : Nat} (hg : w.heap.size ≤ g) (o : Nat) (v : Value) : Chg base P w (w'.setCell ⟨g, o, none⟩ v) :=
  ⟨h.os, h.tape, h.output, by simp [World.setCell]; exact h.size, fun k hk hc => (blk_other (by omega)).trans (h.block k hk hc)⟩
theorem Chg.mono {base : Nat} {P Q : TypeId → Prop} {w w' : World} (h : Chg base P w w') (hp : ∀ e, P e → Q e) : Chg base Q w w' :=
  ⟨h.os, h.tape, h.output, h.size, fun k hk hc => h.block k hk (hc.imp id fun h1 cur e z he hpe => h1 cur e z he (hp e hpe))⟩
theorem Chg.grown {base : Nat} {P : TypeId → Prop} {w w' w'' : World} (h : Chg base P w w') {g : Nat} {cu : Array Value} {e : TypeId} {z : Nat × Nat} (hg : w'.grownBy w'' (some g)) (hb : w'.heap[g]? = some (.cells cu e z)) (hl : base ≤ g) (hp : P e) : Chg base P w w'' :=
  h.trans ⟨hg.os, hg.tape, hg.output, hg.size, fun k hk hc => hg.block k hk (fun e1 => by
    injection e1 with e1
    subst e1
    rcases hc with h2 | h2
    · omega
    · exact h2 _ _ _ hb hp)⟩
theorem seat_off {w w0 : World} {base T G gc bw n c : Nat} {R : TR} {ps : List Pl} {lots : List Int} {q : Int} {S : TfS} {m : Nat} {xs : List Value} {cg cb : Array Value} (h : TS w base T R ps lots q S m) (ho : w.ownsRow G 40 2 (.slice (some ⟨gc, 0, none⟩) n c) n xs)
    (hg : w.heap[G]? = some (.cells cg 35 (0, 0))) (hb : w.heap[bw]? = some (.cells cb 3 (0, 0))) (hc : Chg base stepP w0 w) (s : Nat) :
    TS (w.setCell ⟨T, 3, none⟩ (.int .i64 (s : Int))) base T R ps lots q ⟨S.gs, S.ws, s⟩ m ∧ (w.setCell ⟨T, 3, none⟩ (.int .i64 (s : Int))).ownsRow G 40 2 (.slice (some ⟨gc, 0, none⟩) n c) n xs ∧
    (w.setCell ⟨T, 3, none⟩ (.int .i64 (s : Int))).heap[G]? = some (.cells cg 35 (0, 0)) ∧ (w.setCell ⟨T, 3, none⟩ (.int .i64 (s : Int))).heap[bw]? = some (.cells cb 3 (0, 0)) ∧ Chg base stepP w0 (w.setCell ⟨T, 3, none⟩ (.int .i64 (s : Int))) :=
  ⟨h.seats s, owns_set_blk ho h.blk (by decide), (blk_other (blk_ne hg h.blk (by decide))).trans hg, (blk_other (blk_ne hb h.blk (by decide))).trans hb, hc.set h.blk h.low (.inr (.inr (.inr rfl))) _⟩
theorem heldL_take (ps : List Pl) (gs : List Bool) (x k : Nat) : ∀ m, ∃ j, j ≤ m ∧ (heldL ps gs x m).take k = heldL ps gs x j
  | 0 => ⟨0, Nat.le_refl _, by simp [heldL]⟩
  | m + 1 => by
    obtain ⟨j, hj, he⟩ := heldL_take ps gs x k m
    by_cases h : tfFst ps gs m = (x : Int)
    · by_cases hk : k ≤ (heldL ps gs x m).length
      · exact ⟨j, by omega, by rw [heldL_hit h, List.take_append_of_le_length hk, he]⟩
      · exact ⟨m + 1, Nat.le_refl _, by rw [List.take_of_length_le]; rw [heldL_hit h, List.length_append]; simp; omega⟩
    · exact ⟨j, by omega, by rw [heldL_miss h, he]⟩

set_option maxRecDepth 100000 in
set_option maxHeartbeats 8000000 in
/-- **step**. -/
theorem step_as (base T : Nat) (R : TR) (ps : List Pl) (lots : List Int) (q : Int) (S : TfS) (n : Nat) (who : Int) (kind : Nat) (w : World) (hT : TS w base T R ps lots q S ps.length) (hbs : base ≤ w.heap.size) (A : TfArg ps lots q) (hg : TfGood ps lots S) (hs : 1 ≤ S.s) (hn : lots.length = n) (hf : fitsB ps (n : Int) = true)
    (hw : S.who ps lots q = who) (hk : S.kind ps lots q = kind) :
    Calls Try.prog 78 #[.pointer (some ⟨T, 0, none⟩)] w fun e w' => ∃ g c, e = .returned (.agg #[.slice (some ⟨g, 0, none⟩) n c, .int .i64 who, .int .i64 (kind : Int)]) ∧ w.heap.size ≤ g ∧ TS w' base T R ps lots q (tfNext ps lots q S) ps.length ∧ w'.ownsRow w.heap.size 40 2 (.slice (some ⟨g, 0, none⟩) n c) n (cellsF (S.cs ps)) ∧ Chg base stepP w w' := by
  obtain ⟨i0, hi, hz0, hz1, hz2⟩ := info_parts frac_info
  obtain ⟨G, hG⟩ : ∃ G, w.heap.size = G := ⟨_, rfl⟩
  obtain ⟨hp, hn1, hn5, hval⟩ := fits_parts hf
  have hl12 : ps.length ≤ 12 := (pilesB_pos hp).2.2.2.2
  obtain ⟨D, hD, -, hwok, hcok⟩ := hg.cnt A hs
  have hgl : S.gs.length = n := by rw [hg.lg, hn]
  have HCL : Hid ((S.cs ps).length = n) := by unfold Hid TfS.cs; rw [tfCnts_length, hgl]
  have hwm := hg.who_mem (q := q) hs
  rw [hw] at hwm
  have hwr := A.mem _ (there_mem.1 hwm).1
  rw [hn] at hwr
  obtain ⟨x, rfl⟩ := Int.eq_ofNat_of_zero_le hwr.1
  have hxn : x < n := by omega
  obtain ⟨D2, hD2, -, -, hcx⟩ := hg.count A hs (there_mem.1 hwm).1
  have hcb := okc_bound hcx hD2 (by omega)
  have hcxe : tfC (S.cs ps) (x : Int) = fAt (S.cs ps) x := by unfold tfC fAt; rw [Int.toNat_natCast]
  obtain ⟨c1, c2, hce⟩ : ∃ c1 c2, fAt (S.cs ps) x = (c1, c2) := ⟨_, _, rfl⟩
  rw [hcxe, hce] at hcb
  have hcb1 : 0 ≤ c1 ∧ c1 ≤ 3600 := hcb.1
  have hcb2 : 1 ≤ c2 ∧ c2 ≤ 60 := hcb.2.1
  have HK1 : Hid (kind = 1 → 0 ≤ c1 - q * c2) := fun e => by
    have h1 := tfKind_one (q := q) (lots := lots) (cs := S.cs ps) (gs := S.gs) (s := S.s) (by show S.kind ps lots q = 1; rw [hk, e])
    have h2 : tfWho q lots (S.cs ps) S.gs S.s = (x : Int) := hw
    rw [h2, hcxe, hce] at h1
    have h3 : decide (c1 * 1 < q * c2) = false := h1
    have := of_decide_eq_false h3
    omega
  have hkc : kind = 1 ∨ kind = 2 ∨ kind = 3 := by rw [← hk]; exact tfKind_cases _ _ _ _ _
  have HT := Lib.hid hT
  have HA := Lib.hid A
  have HG := Lib.hid hg
  have HN := Lib.hid hn
  have HF := Lib.hid hf
  have HW := Lib.hid hw
  have HK := Lib.hid hk
  have HWM := Lib.hid hwm
  have HVV := Lib.hid hval
  have HPV := Lib.hid hp
  have HWOK := Lib.hid hwok
  have HCOK := Lib.hid hcok
  have HCE := Lib.hid hce
  have HGLN := Lib.hid hgl
  have hq1 := A.qpos
  have hq61 := A.qtop
  have b0 : (w.alloc (.cells #[.slice none 0 0, .int .i64 0, .int .i64 0] 35)).heap[G]? = some (.cells #[.slice none 0 0, .int .i64 0, .int .i64 0] 35 (0, 0)) := by rw [← hG]; exact blk_new _ _
  have h0 : Below w.heap.size w (w.alloc (.cells #[.slice none 0 0, .int .i64 0, .int .i64 0] 35)) := (Below.refl _ _).alloc (Nat.le_refl _) _
  have BK0 := Lib.hid b0
  have B0 := Lib.hid h0
  clear hT A hg hn hf hw hk hwm hp hval hwok hcok hcx hcb hcxe hce hgl b0 h0
  go_enter Try.func78, Try.ntmps78
  go_wp2_with fail
  refine (held_as base T R ps lots q S n _ (HT.out.under B0.out) HF.out HN.out HGLN.out).mono ?_
  rintro e w1 ⟨gh, ch, H, rfl, hH, hb1⟩
  have BK1 := Lib.hid (blk_under BK0.out hb1)
  have B1 := Lib.hid (below_on B0.out hb1)
  have HH1 := Lib.hid hH
  clear hH hb1 B0 BK0
  go_wp2_with (at_make; refine wpList_make_full _ rfl _ _ 33 rfl G 40 i0 (.agg #[.int .i64 0, .int .i64 0]) 2 Try.underlying33 hi hz0 hz1 .i64 .i64 _ _ n rfl rfl rfl rfl (by rw [hz2]; omega) (by unfold maxLen; omega) (by have := B1.out.size; omega) ?_; intro w2 hown hgrow; have hb2 : Below w1.heap.size w1 w2 := (Below.refl _ w1).grown hgrow (Nat.le_refl _) (fun k e => by cases e); have gG : G ≤ w1.heap.size := (by have := B1.out.size; omega); have O2 := Lib.hid hown; have BK2 := Lib.hid (blk_under BK1.out hb2); have B2 := Lib.hid (below_on B1.out hb2); have HH2 := Lib.hid (HH1.out.under hb2); clear hown hgrow hb2)
  obtain ⟨gc, hgc⟩ : ∃ gc, w1.heap.size = gc := ⟨_, rfl⟩
  rw [hgc] at gG ⊢
  have O2' := O2.out
  rw [zerosF_made, ← tfPart_zero (S.cs ps) n, hgc] at O2'
  have OC2 := Lib.hid O2'
  clear O2 O2' hgc BK1 B1 HH1
  go_loopw [5, 6, 16] (fun _ _ iv wr => ∃ i : Nat, i ≤ n ∧ iv = .int .i64 (i : Int) ∧ Hid (wr.ownsRow G 40 2 (.slice (some ⟨gc, 0, none⟩) n n) n (cellsF (tfPart (S.cs ps) n i))) ∧ Hid (wr.heap[G]? = some (.cells #[.slice none 0 0, .int .i64 0, .int .i64 0] 35 (0, 0))) ∧ Hid (HeldT wr (w.alloc (.cells #[.slice none 0 0, .int .i64 0, .int .i64 0] 35)).heap.size gh ch n H R.B ps S.gs ps.length) ∧ Hid (Below w.heap.size w wr)) (fun _ _ iv _ => n - (intOf iv).toNat)
  case atStart => exact ⟨0, Nat.zero_le _, rfl, OC2, BK2, HH2, B2⟩
  case round =>
    clear OC2 BK2 HH2 B2
    obtain ⟨i, hin, rfl, hO, hBK, hH, hB⟩ := hrel
    by_cases hlt : i < n
    · obtain ⟨ha, hc, hH0⟩ : ∃ ha hc, H i = (ha, hc) := ⟨_, _, rfl⟩
      obtain ⟨L, hL⟩ : ∃ L, heldL ps S.gs i ps.length = L := ⟨_, rfl⟩
      have OX := hH.out.inner i hlt
      have CX : wr.cell? ⟨gh, i, none⟩ = some (.slice ha L.length hc) := by
        rw [hH.out.outer.cellAt i (by omega)]
        simp [hlt, hH0, hL]
      rw [hH0, hL] at OX
      have hLm : ∀ j ∈ L, j < ps.length := fun j hj => by rw [← hL] at hj; exact (heldL_mem.1 hj).1
      have hLs : L.length ≤ 12 := by rw [← hL]; exact Nat.le_trans (heldL_short ps S.gs i ps.length) hl12
      have HTW := HT.out.under hB.out
      have hsum : sumW ps S.ws L = fAt (S.cs ps) i := by
        rw [← hL, sumW_held]
        unfold fAt TfS.cs
        rw [tfCnts_at (by rw [HGLN.out]; exact hlt)]; rfl
      obtain ⟨x1, x2, hxe⟩ : ∃ x1 x2, fAt (S.cs ps) i = (x1, x2) := ⟨_, _, rfl⟩
      rw [hxe] at hsum
      have hP : ∀ j ∈ L, ∃ av l c, wr.heap[R.B j]? = some (.cells (pileC av l c (mAt ps j) (tfW S.ws j)) 158 (0, 0)) := fun j hj => ⟨_, _, _, HTW.pm.pile j (hLm j hj)⟩
      have hM : ∀ j ∈ L, 0 ≤ mAt ps j ∧ mAt ps j ≤ 99 := fun j _ => mAt_valid HPV.out j
      have hWV : ∀ j ∈ L, fracB (tfW S.ws j) = true ∧ fracB (ofF ((tfW S.ws j).1 * mAt ps j) (tfW S.ws j).2) = true := fun j hj =>
        ⟨okw_valid (HWOK.out j (hLm j hj)) hD, (w_part (HWOK.out j (hLm j hj)) hD (hM j hj)).2.2⟩
      have hCV : ∀ k, k ≤ L.length → fracB (sumW ps S.ws (L.take k)) = true := fun k _ => by
        obtain ⟨j, hj, he⟩ := heldL_take ps S.gs i k ps.length
        rw [hL] at he
        rw [he, sumW_held]
        obtain ⟨g1, g2⟩ := HCOK.out i j hj
        exact okc_valid g1 hD g2
      have HPT := Lib.hid (IsPt.of_owned OX (by omega))
      have HS := Lib.hid hsum
      have HP2 := Lib.hid hP
      have HM2 := Lib.hid hM
      have HWV := Lib.hid hWV
      have HCV := Lib.hid hCV
      have HXE := Lib.hid hxe
      clear OX hH0 hL hLm HTW hsum hP hM hWV hCV hxe
      go_wp2_with fail
      refine (sumOf_as _ _ _ L R.B ps S.ws x1 x2 _ HPT.out HP2.out HWV.out HM2.out HCV.out HS.out).mono ?_
      rintro e w3 ⟨rfl, hb3⟩
      have O3 := Lib.hid (owns_under hO.out hb3)
      have BK3 := Lib.hid (blk_under hBK.out hb3)
      have HH3 := Lib.hid (hH.out.under hb3)
      have B3 := Lib.hid (below_on hB.out hb3)
      have gC := (O3.out.lt gc rfl).1
      have hne : G ≠ gc := fun e => by
        rcases owns_not_blk O3.out BK3.out (by decide) with q1 | q1
        · simp [Value.ownBlock] at q1
        · exact q1 (by rw [e]; rfl)
      clear hO hBK hH hB hb3 CX HPT HP2 HM2 HWV HCV HS
      obtain ⟨⟨m0, m1⟩, m2, m3⟩ := meets_setF O3.out hlt (.int .i64 x1)
      obtain ⟨O4', G4⟩ := owns_setF O3.out i x1 x2
      have O4 : Hid (((w3.setCell ⟨gc, i * 2, none⟩ (.int .i64 x1)).setCell ⟨gc, i * 2 + 1, none⟩ (.int .i64 x2)).ownsRow G 40 2 (.slice (some ⟨gc, 0, none⟩) n n) n (cellsF (tfPart (S.cs ps) n (i + 1)))) := by
        unfold Hid; rw [tfPart_next hlt, HXE.out]; exact O4'
      have BK4 : Hid (((w3.setCell ⟨gc, i * 2, none⟩ (.int .i64 x1)).setCell ⟨gc, i * 2 + 1, none⟩ (.int .i64 x2)).heap[G]? = some (.cells #[.slice none 0 0, .int .i64 0, .int .i64 0] 35 (0, 0))) := by
        unfold Hid; rw [blk_other hne, blk_other hne]; exact BK3.out
      have B4 : Hid (Below w.heap.size w ((w3.setCell ⟨gc, i * 2, none⟩ (.int .i64 x1)).setCell ⟨gc, i * 2 + 1, none⟩ (.int .i64 x2))) := (B3.out.setCell (p := ⟨gc, i * 2, none⟩) (by show w.heap.size ≤ gc; omega) _).setCell (p := ⟨gc, i * 2 + 1, none⟩) (by show w.heap.size ≤ gc; omega) _
      have HH4 : Hid (HeldT ((w3.setCell ⟨gc, i * 2, none⟩ (.int .i64 x1)).setCell ⟨gc, i * 2 + 1, none⟩ (.int .i64 x2)) (w.alloc (.cells #[.slice none 0 0, .int .i64 0, .int .i64 0] 35)).heap.size gh ch n H R.B ps S.gs ps.length) :=
        ⟨HH3.out.outer.kept G4 (owns_apart (by decide) HH3.out.outer O3.out), fun k hk => (HH3.out.inner k hk).kept G4 (owns_apart (by decide) (HH3.out.inner k hk) O3.out), HH3.out.nil⟩
      have hii : (i : Int) < (n : Int) := by omega
      clear O3 BK3 HH3 B3 O4' G4
      go_wp2
      go_roundw
      case rel => exact ⟨i + 1, by omega, by go_num, O4, BK4, HH4, B4⟩
      case measure => simp [intOf]; omega
    · obtain rfl : i = n := by omega
      have hO2 := hO.out
      rw [tfPart_all HCL.out] at hO2
      have OC := Lib.hid hO2
      clear hO hO2
      rename World => wa
      go_wp2_with fail
      refine (choose_as base T R ps lots q S ps.length _ _ i (x : Int) kind _ (HT.out.under hB.out) (IsFr.of_owned OC.out (by omega)) HA.out HG.out hs HN.out HW.out HK.out).mono ?_
      rintro e w1 ⟨rfl, hb1⟩
      have OC1 := Lib.hid (owns_under OC.out hb1)
      have BK1 := Lib.hid (blk_under hBK.out hb1)
      have HH1 := Lib.hid (hH.out.under hb1)
      have B1 := Lib.hid (below_on hB.out hb1)
      clear OC hBK hH hB hb1
      have hbox : Below w1.heap.size w1 (w1.alloc (.cells #[.int .i64 (x : Int)] 3)) := (Below.refl _ _).alloc (Nat.le_refl _) _
      have OC2 := Lib.hid (owns_under OC1.out hbox)
      have BK2 := Lib.hid (blk_under BK1.out hbox)
      have HH2 := Lib.hid (HH1.out.under hbox)
      have B2 := Lib.hid (below_on B1.out hbox)
      have HT2 := Lib.hid (HT.out.under B2.out)
      have BB2 := Lib.hid (blk_new w1 (.cells #[.int .i64 (x : Int)] 3))
      have hbwG : Hid (w.heap.size ≤ w1.heap.size) := by have := B1.out.size; unfold Hid; omega
      have k3 : (w1.alloc (.cells #[.int .i64 (x : Int)] 3)).cell? ⟨T, 3, none⟩ = some (.int .i64 (S.s : Int)) := blk_cell HT2.out.blk 3
      have m3 : (w1.alloc (.cells #[.int .i64 (x : Int)] 3)).frozen? ⟨T, 3, none⟩ = false := blk_frozen HT2.out.blk 3
      have hs2 := HG.out.two
      obtain ⟨s1, hse⟩ : ∃ s1, S.s - 1 = s1 := ⟨_, rfl⟩
      have hs1 : (S.s : Int) - 1 = (s1 : Int) := by omega
      have hws : IntKind.i64.wrap (s1 : Int) = (s1 : Int) := IntWalk.i64_in _ (by omega)
      have HSE := Lib.hid hse
      have HG2 := Lib.hid hs2
      have HOCN := Lib.hid hxn
      clear hbox OC1 BK1 HH1 B1 hse hs2
      rcases hkc with rfl | rfl | rfl
      · have HNX : Hid (tfNext ps lots q S = ⟨S.gs.set x true, tfWeigh ps S.ws S.gs (x : Int) (c1, c2) q, s1⟩) := by
          unfold Hid tfNext
          rw [HW.out, HK.out, HSE.out, show tfC (S.cs ps) (x : Int) = (c1, c2) by rw [← HCE.out]; unfold tfC fAt; rw [Int.toNat_natCast]]
          simp
        have hqc : 0 < q * c2 := Int.mul_pos (by omega) (by omega)
        have hov := HK1.out rfl
        go_wp2_with fail
        generalize w1.heap.size = bw at *
        obtain ⟨wz, hwz⟩ : ∃ wz, (w1.alloc (.cells #[.int .i64 (x : Int)] 3)) = wz := ⟨_, rfl⟩
        rw [hwz] at OC2 BK2 HH2 B2 HT2 BB2 ⊢
        obtain ⟨ha, hc, hH0⟩ : ∃ ha hc, H x = (ha, hc) := ⟨_, _, rfl⟩
        obtain ⟨L0, hL0⟩ : ∃ L0, heldL ps S.gs x ps.length = L0 := ⟨_, rfl⟩
        have OX := HH2.out.inner x HOCN.out
        have CX : wz.cell? ⟨gh, x, none⟩ = some (.slice ha L0.length hc) := by
          rw [HH2.out.outer.cellAt x (by have := HOCN.out; omega)]
          simp [HOCN.out, hH0, hL0]
        rw [hH0, hL0] at OX
        have hoc : (S.cs ps).length = i := HCL.out
        have cc1 : wz.cell? ⟨gc, x * 2, none⟩ = some (.int .i64 c1) := by
          rw [OC2.out.cellAt (x * 2) (by have := HOCN.out; omega), cellsF_num _ _ (by rw [hoc]; exact HOCN.out), HCE.out]
        have cc2 : wz.cell? ⟨gc, x * 2 + 1, none⟩ = some (.int .i64 c2) := by
          rw [OC2.out.cellAt (x * 2 + 1) (by have := HOCN.out; omega), cellsF_den _ _ (by rw [hoc]; exact HOCN.out), HCE.out]
        have kB : wz.cell? ⟨bw, 0, none⟩ = some (.int .i64 (x : Int)) := blk_cell BB2.out 0
        have hbl := blk_lt BB2.out
        have hgl := (OC2.out.lt gc rfl).2
        have hhl := (HH2.out.outer.lt gh rfl).2
        have u0 : ∀ u : Beh wz, u.w.cell? ⟨bw, 0, none⟩ = _ := Beh.cell kB hbl
        have u1 : ∀ u : Beh wz, u.w.cell? ⟨gh, x, none⟩ = _ := Beh.cell CX hhl
        have u2 : ∀ u : Beh wz, u.w.cell? ⟨gc, x * 2, none⟩ = _ := Beh.cell cc1 hgl
        have u3 : ∀ u : Beh wz, u.w.cell? ⟨gc, x * 2 + 1, none⟩ = _ := Beh.cell cc2 hgl
        have hxi : (x : Int) < (i : Int) := by have := HOCN.out; omega
        have HX2 := Lib.hid OX
        have HL0 := Lib.hid hL0
        clear OX CX cc1 cc2 kB hH0 hL0 hoc k3 m3 hwz
        refine wp_region_below_tail 9 (by kernel_rfl) (by kernel_rfl) ?_
        simp only [List.take_succ_cons, List.take_zero, List.drop_succ_cons, List.drop_zero]
        repeat (go_big_quiet_step (fail))
        refine wpQuiet_nil ?_
        rintro w7 ⟨⟨_, hb8'⟩, he⟩
        have hb7 : Below wz.heap.size wz w7 := by rw [he]; exact hb8'
        clear he hb8' u0 u1 u2 u3 hbl hgl hhl
        have HT7 := Lib.hid (HT2.out.under hb7)
        have OC7 := Lib.hid (owns_under OC2.out hb7)
        have BK7 := Lib.hid (blk_under BK2.out hb7)
        have BB7 := Lib.hid (blk_under BB2.out hb7)
        have HX7 := Lib.hid (owns_under HX2.out hb7)
        have B7 := Lib.hid (below_on B2.out hb7)
        clear HT2 OC2 BK2 BB2 HX2 B2 HH2 hb7
        have hlm : L0.length ≤ 1048600 := by
          have h0 := heldL_short ps S.gs x ps.length
          rw [HL0.out] at h0
          omega
        go_wp2_with fail
        refine (keep_as base T _ R ps lots q S ha L0.length hc L0 c1 c2 D _ HT7.out HX7.out hlm (fun j hj => by rw [← HL0.out] at hj; exact (heldL_mem.1 hj).1) (by rw [← HL0.out]; exact heldL_nodup _ _ _ _) HWOK.out hD (by omega) (by omega) hov ⟨hq1, hq61⟩).mono ?_
        rintro e w6 ⟨rfl, hT6, hC6⟩
        have C6 : Chg base stepP w w6 := (Chg.of_below B7.out).trans (hC6.mono (fun e h => .inl h))
        obtain ⟨a1, a2, a3, a4, a5⟩ := seat_off hT6 (owns_chg OC7.out hC6 (by decide)) (blk_chg BK7.out hC6 (by decide)) (blk_chg BB7.out hC6 (by decide)) C6 s1
        have k3 : w6.cell? ⟨T, 3, none⟩ = some (.int .i64 (S.s : Int)) := blk_cell hT6.blk 3
        have m3 : w6.frozen? ⟨T, 3, none⟩ = false := blk_frozen hT6.blk 3
        rw [← HL0.out, tfMix_held] at a1
        have A1 := Lib.hid a1
        have A2 := Lib.hid a2
        have A3 := Lib.hid a3
        have A4 := Lib.hid a4
        have A5 := Lib.hid a5
        clear HT7 OC7 BK7 BB7 HX7 B7 hT6 hC6 C6 a1 a2 a3 a4 a5 hov hqc
        go_wp2_with fail
        obtain ⟨wx, hwx⟩ : ∃ wx, w6.setCell ⟨T, 3, none⟩ (.int .i64 (s1 : Int)) = wx := ⟨_, rfl⟩
        rw [hwx] at A1 A2 A3 A4 A5 ⊢
        have HTX := A1
        have CX := A5
        have OCX := A2
        have BKX := A3
        have BBX := A4
        clear A1 A2 A3 A4 A5 k3 m3 hwx
        have kT2 : wx.cell? ⟨T, 2, none⟩ = some (.slice (some ⟨R.gg, 0, none⟩) lots.length R.cg) := blk_cell HTX.out.blk 2
        have kB : wx.cell? ⟨bw, 0, none⟩ = some (.int .i64 (x : Int)) := blk_cell BBX.out 0
        have htl := blk_lt HTX.out.blk
        have hbl := blk_lt BBX.out
        have u0 : ∀ u : Beh wx, u.w.cell? ⟨T, 2, none⟩ = _ := Beh.cell kT2 htl
        have u1 : ∀ u : Beh wx, u.w.cell? ⟨bw, 0, none⟩ = _ := Beh.cell kB hbl
        have hxl' : x < lots.length := by have := HN.out; have := HOCN.out; omega
        have hxl : (x : Int) < (lots.length : Int) := by omega
        clear kT2 kB
        refine wp_region_below_tail 6 (by kernel_rfl) (by kernel_rfl) ?_
        simp only [List.take_succ_cons, List.take_zero, List.drop_succ_cons, List.drop_zero]
        repeat (go_big_quiet_step (fail))
        refine wpQuiet_nil ?_
        rintro w8 ⟨⟨_, hb8'⟩, he⟩
        have hb8 : Below wx.heap.size wx w8 := by rw [he]; exact hb8'
        clear he hb8' u0 u1
        have HT8 := Lib.hid (HTX.out.under hb8)
        have OC8 := Lib.hid (owns_under OCX.out hb8)
        have BK8 := Lib.hid (blk_under BKX.out hb8)
        have BB8 := Lib.hid (blk_under BBX.out hb8)
        have C8 := Lib.hid (CX.out.on hb8)
        clear HTX OCX BKX BBX CX hb8 htl hbl
        obtain ⟨cg0, hcg⟩ : ∃ v, w8.cell? ⟨R.gg, x, none⟩ = some v := by
          rw [HT8.out.gone.cellAt x (by omega)]
          exact ⟨_, List.getElem?_eq_getElem (by rw [List.length_map, HG.out.lg]; exact hxl')⟩
        have hcf : w8.frozen? ⟨R.gg, x, none⟩ = false := HT8.out.gone.frozenAt _
        obtain ⟨L, hLE⟩ : ∃ L, (thereL lots (tfG S.gs)).length = L := ⟨_, rfl⟩
        have hgr : (w8.grownBy (w8.setCell ⟨R.gg, x, none⟩ (.bool true)) (some R.gg)) := ⟨rfl, rfl, rfl, by simp [World.setCell], fun k _ hk => blk_other (fun e => hk (by rw [e]))⟩
        have htb := blk_apart_row HT8.out.gone HT8.out.blk (by decide)
        have hBb := blk_apart_row HT8.out.gone BB8.out (by decide)
        have hGb := blk_apart_row HT8.out.gone BK8.out (by decide)
        have hts := blk_apart_row HT8.out.stay HT8.out.blk (by decide)
        have hGs := blk_apart_row HT8.out.stay BK8.out (by decide)
        have hbs2 : bw ≠ R.gs := fun e => stay_low HT.out.stay (by have := hbwG.out; rw [← e]; exact this)
        have t1 : (w8.setCell ⟨R.gg, x, none⟩ (.bool true)).heap[T]? = _ := (blk_other htb).trans HT8.out.blk
        have g1 : (w8.setCell ⟨R.gg, x, none⟩ (.bool true)).heap[G]? = _ := (blk_other hGb).trans BK8.out
        have c1' : (w8.setCell ⟨R.gg, x, none⟩ (.bool true)).heap[bw]? = _ := (blk_other hBb).trans BB8.out
        have l1 : (w8.setCell ⟨R.gg, x, none⟩ (.bool true)).cell? ⟨T, 1, none⟩ = some (.slice (some ⟨R.gs, 0, none⟩) L R.cs) := by rw [← hLE]; exact blk_cell t1 1
        have OS1 := HT8.out.stay.kept hgr (owns_apart (by decide) HT8.out.stay HT8.out.gone)
        have OC1 := Lib.hid (OC8.out.kept hgr (owns_apart (by decide) OC8.out HT8.out.gone))
        rw [hLE] at OS1
        have hmem : (x : Int) ∈ thereL lots (tfG S.gs) := HWM.out
        have hnd : (thereL lots (tfG S.gs)).Nodup := HA.out.nodup.filter _
        obtain ⟨k0, hk0⟩ : ∃ k0, (thereL lots (tfG S.gs)).idxOf (x : Int) = k0 := ⟨_, rfl⟩
        have hkl : k0 < L := by rw [← hk0, ← hLE]; exact List.idxOf_lt_length_iff.2 hmem
        have hkx : (thereL lots (tfG S.gs))[k0]?.getD 0 = (x : Int) := by
          have h1 : (thereL lots (tfG S.gs)).idxOf (x : Int) < (thereL lots (tfG S.gs)).length := List.idxOf_lt_length_iff.2 hmem
          rw [← hk0, List.getElem?_eq_getElem h1, List.getElem_idxOf]; rfl
        have hkn : ∀ p, p ≠ k0 → p < L → (thereL lots (tfG S.gs))[p]?.getD 0 ≠ (x : Int) := fun p hp hpl e => by
          have h1 : p < (thereL lots (tfG S.gs)).length := by omega
          have h2 : k0 < (thereL lots (tfG S.gs)).length := by omega
          rw [← hkx, List.getElem?_eq_getElem h1, List.getElem?_eq_getElem h2] at e
          exact hp ((List.getElem_inj hnd).1 e)
        have her := there_erase (lots := lots) (g := tfG S.gs) (w := (x : Int)) HA.out.nodup
        rw [hk0, ← tfG_set (by rw [HG.out.lg]; exact hxl')] at her
        have hel : L - 1 = (thereL lots (tfG (S.gs.set x true))).length := by rw [← her, List.length_eraseIdx, if_pos (by omega), hLE]
        have hl7 : L ≤ 1048600 := by
          have h0 : (thereL lots (tfG S.gs)).length ≤ lots.length := List.length_filter_le _ _
          have := (lotsB_len HA.out.lots).2
          omega
        have HLV := Lib.hid hel
        have HER := Lib.hid her
        clear hk0 hmem hnd her hel
        go_wp2_with fail
        refine (deleteF_as R.gs L R.cs bw k0 base _ (x : Int) _ OS1 hl7 (blk_cell c1' 0) hbs2 hkl hkn hkx).mono ?_
        rintro e w9 ⟨rfl, h91, h92, h93⟩
        have t9 : w9.heap[T]? = _ := (h92.block T (blk_lt t1) (fun e => hts (by injection e))).trans t1
        have g9 : w9.heap[G]? = _ := (h92.block G (blk_lt g1) (fun e => hGs (by injection e))).trans g1
        have c9 : w9.heap[bw]? = _ := (h92.block bw (blk_lt c1') (fun e => hbs2 (by injection e))).trans c1'
        have t9c : w9.cell? ⟨T, 1, none⟩ = _ := blk_cell t9 1
        have t9f : w9.frozen? ⟨T, 1, none⟩ = false := blk_frozen t9 1
        have gT := blk_ne g9 t9 (by decide)
        have bT := blk_ne c9 t9 (by decide)
        have g0 : (w9.setCell ⟨T, 1, none⟩ (.slice (some ⟨R.gs, 0, none⟩) (L - 1) R.cs)).heap[G]? = _ := (blk_other gT).trans g9
        have b0 : (w9.setCell ⟨T, 1, none⟩ (.slice (some ⟨R.gs, 0, none⟩) (L - 1) R.cs)).heap[bw]? = _ := (blk_other bT).trans c9
        have b0c : (w9.setCell ⟨T, 1, none⟩ (.slice (some ⟨R.gs, 0, none⟩) (L - 1) R.cs)).cell? ⟨bw, 0, none⟩ = _ := blk_cell b0 0
        have q0 : (w9.setCell ⟨T, 1, none⟩ (.slice (some ⟨R.gs, 0, none⟩) (L - 1) R.cs)).cell? ⟨G, 0, none⟩ = _ := blk_cell g0 0
        have f0 : (w9.setCell ⟨T, 1, none⟩ (.slice (some ⟨R.gs, 0, none⟩) (L - 1) R.cs)).frozen? ⟨G, 0, none⟩ = _ := blk_frozen g0 0
        have g01 := blk_set g0 0 (.slice (some ⟨gc, 0, none⟩) i i)
        have q1 : ((w9.setCell ⟨T, 1, none⟩ (.slice (some ⟨R.gs, 0, none⟩) (L - 1) R.cs)).setCell ⟨G, 0, none⟩ (.slice (some ⟨gc, 0, none⟩) i i)).cell? ⟨G, 1, none⟩ = _ := blk_cell g01 1
        have f1 : ((w9.setCell ⟨T, 1, none⟩ (.slice (some ⟨R.gs, 0, none⟩) (L - 1) R.cs)).setCell ⟨G, 0, none⟩ (.slice (some ⟨gc, 0, none⟩) i i)).frozen? ⟨G, 1, none⟩ = false := blk_frozen g01 1
        have g02 := blk_set g01 1 (.int .i64 (x : Int))
        have q2 : (((w9.setCell ⟨T, 1, none⟩ (.slice (some ⟨R.gs, 0, none⟩) (L - 1) R.cs)).setCell ⟨G, 0, none⟩ (.slice (some ⟨gc, 0, none⟩) i i)).setCell ⟨G, 1, none⟩ (.int .i64 (x : Int))).cell? ⟨G, 2, none⟩ = _ := blk_cell g02 2
        have f2 : (((w9.setCell ⟨T, 1, none⟩ (.slice (some ⟨R.gs, 0, none⟩) (L - 1) R.cs)).setCell ⟨G, 0, none⟩ (.slice (some ⟨gc, 0, none⟩) i i)).setCell ⟨G, 1, none⟩ (.int .i64 (x : Int))).frozen? ⟨G, 2, none⟩ = false := blk_frozen g02 2
        go_wp2_with fail
        have g03 := blk_set g02 2 (.int .i64 1)
        have hgg : base ≤ G := by rw [← hG]; exact hbs
        have hgG : w.heap.size ≤ gc := by rw [hG]; exact (OC1.out.lt gc rfl).1
        obtain ⟨cb, hcb⟩ := row_blk HT8.out.gone
        obtain ⟨cs, hcs⟩ := row_blk OS1
        obtain ⟨cs9, hcs9⟩ := row_blk h91
        rw [HER.out] at h91
        have hTL := HT8.out.leave HLV.out h91 h92
        have hTG := (((Chg.refl base (fun e => e = 35) _).set (o := 0) g0 hgg rfl (.slice (some ⟨gc, 0, none⟩) i i)).set (o := 1) g01 hgg rfl (.int .i64 (x : Int))).set (o := 2) g02 hgg rfl (.int .i64 1)
        have hO9 := OC1.out.kept h92 (owns_apart (by decide) OC1.out OS1)
        have hO := owns_set_blk (i := 2) (u := .int .i64 1) (owns_set_blk (i := 1) (u := .int .i64 (x : Int)) (owns_set_blk (i := 0) (u := .slice (some ⟨gc, 0, none⟩) i i) (owns_set_blk (i := 1) (u := .slice (some ⟨R.gs, 0, none⟩) (L - 1) R.cs) hO9 t9 (by decide)) g0 (by decide)) g01 (by decide)) g02 (by decide)
        have hC := (((((C8.out.set (o := x) hcb (by have := (HT8.out.gone.lt R.gg rfl).1; exact this) (.inr (.inr (.inl rfl))) (.bool true)).grown h92 hcs (by have := (OS1.lt R.gs rfl).1; exact this) (.inr (.inl rfl))).set (o := 1) t9 HT8.out.low (.inr (.inr (.inr rfl))) (.slice (some ⟨R.gs, 0, none⟩) (L - 1) R.cs)).new (g := G) (by rw [hG]; exact Nat.le_refl _) 0 (.slice (some ⟨gc, 0, none⟩) i i)).new (g := G) (by rw [hG]; exact Nat.le_refl _) 1 (.int .i64 (x : Int))).new (g := G) (by rw [hG]; exact Nat.le_refl _) 2 (.int .i64 1)
        have r0 := blk_cell g03 0
        have r1 := blk_cell g03 1
        have r2 := blk_cell g03 2
        refine bodyPost_ret (v := .agg #[.slice (some ⟨gc, 0, none⟩) i i, .int .i64 (x : Int), .int .i64 1]) (by simp [results, Try.results78, go_sem, r0, r1, r2]) rfl ?_
        refine ⟨gc, i, rfl, hgG, ?_, ?_, hC⟩
        · rw [HNX.out]
          exact hTL.chg hTG (by decide) (by decide) (by decide) (by decide) (by decide)
        · rw [hG]; exact hO
      · clear k3 m3 hws hs1
        have HNX : Hid (tfNext ps lots q S = ⟨S.gs.set x true, S.ws, S.s⟩) := by unfold Hid tfNext; rw [HW.out, HK.out]; simp
        go_wp2_with fail
        generalize w1.heap.size = bw at *
        obtain ⟨wx, hwx⟩ : ∃ wx, (w1.alloc (.cells #[.int .i64 (x : Int)] 3)) = wx := ⟨_, rfl⟩
        rw [hwx] at OC2 BK2 HH2 B2 HT2 BB2 ⊢
        have HTX := HT2
        have CX : Hid (Chg base stepP w wx) := Lib.hid (Chg.of_below B2.out)
        have OCX := OC2
        have BKX := BK2
        have BBX := BB2
        clear HT2 B2 OC2 BK2 BB2 HH2 hwx
        have kT2 : wx.cell? ⟨T, 2, none⟩ = some (.slice (some ⟨R.gg, 0, none⟩) lots.length R.cg) := blk_cell HTX.out.blk 2
        have kB : wx.cell? ⟨bw, 0, none⟩ = some (.int .i64 (x : Int)) := blk_cell BBX.out 0
        have htl := blk_lt HTX.out.blk
        have hbl := blk_lt BBX.out
        have u0 : ∀ u : Beh wx, u.w.cell? ⟨T, 2, none⟩ = _ := Beh.cell kT2 htl
        have u1 : ∀ u : Beh wx, u.w.cell? ⟨bw, 0, none⟩ = _ := Beh.cell kB hbl
        have hxl' : x < lots.length := by have := HN.out; have := HOCN.out; omega
        have hxl : (x : Int) < (lots.length : Int) := by omega
        clear kT2 kB
        refine wp_region_below_tail 6 (by kernel_rfl) (by kernel_rfl) ?_
        simp only [List.take_succ_cons, List.take_zero, List.drop_succ_cons, List.drop_zero]
        repeat (go_big_quiet_step (fail))
        refine wpQuiet_nil ?_
        rintro w8 ⟨⟨_, hb8'⟩, he⟩
        have hb8 : Below wx.heap.size wx w8 := by rw [he]; exact hb8'
        clear he hb8' u0 u1
        have HT8 := Lib.hid (HTX.out.under hb8)
        have OC8 := Lib.hid (owns_under OCX.out hb8)
        have BK8 := Lib.hid (blk_under BKX.out hb8)
        have BB8 := Lib.hid (blk_under BBX.out hb8)
        have C8 := Lib.hid (CX.out.on hb8)
        clear HTX OCX BKX BBX CX hb8 htl hbl
        obtain ⟨cg0, hcg⟩ : ∃ v, w8.cell? ⟨R.gg, x, none⟩ = some v := by
          rw [HT8.out.gone.cellAt x (by omega)]
          exact ⟨_, List.getElem?_eq_getElem (by rw [List.length_map, HG.out.lg]; exact hxl')⟩
        have hcf : w8.frozen? ⟨R.gg, x, none⟩ = false := HT8.out.gone.frozenAt _
        obtain ⟨L, hLE⟩ : ∃ L, (thereL lots (tfG S.gs)).length = L := ⟨_, rfl⟩
        have hgr : (w8.grownBy (w8.setCell ⟨R.gg, x, none⟩ (.bool true)) (some R.gg)) := ⟨rfl, rfl, rfl, by simp [World.setCell], fun k _ hk => blk_other (fun e => hk (by rw [e]))⟩
        have htb := blk_apart_row HT8.out.gone HT8.out.blk (by decide)
        have hBb := blk_apart_row HT8.out.gone BB8.out (by decide)
        have hGb := blk_apart_row HT8.out.gone BK8.out (by decide)
        have hts := blk_apart_row HT8.out.stay HT8.out.blk (by decide)
        have hGs := blk_apart_row HT8.out.stay BK8.out (by decide)
        have hbs2 : bw ≠ R.gs := fun e => stay_low HT.out.stay (by have := hbwG.out; rw [← e]; exact this)
        have t1 : (w8.setCell ⟨R.gg, x, none⟩ (.bool true)).heap[T]? = _ := (blk_other htb).trans HT8.out.blk
        have g1 : (w8.setCell ⟨R.gg, x, none⟩ (.bool true)).heap[G]? = _ := (blk_other hGb).trans BK8.out
        have c1' : (w8.setCell ⟨R.gg, x, none⟩ (.bool true)).heap[bw]? = _ := (blk_other hBb).trans BB8.out
        have l1 : (w8.setCell ⟨R.gg, x, none⟩ (.bool true)).cell? ⟨T, 1, none⟩ = some (.slice (some ⟨R.gs, 0, none⟩) L R.cs) := by rw [← hLE]; exact blk_cell t1 1
        have OS1 := HT8.out.stay.kept hgr (owns_apart (by decide) HT8.out.stay HT8.out.gone)
        have OC1 := Lib.hid (OC8.out.kept hgr (owns_apart (by decide) OC8.out HT8.out.gone))
        rw [hLE] at OS1
        have hmem : (x : Int) ∈ thereL lots (tfG S.gs) := HWM.out
        have hnd : (thereL lots (tfG S.gs)).Nodup := HA.out.nodup.filter _
        obtain ⟨k0, hk0⟩ : ∃ k0, (thereL lots (tfG S.gs)).idxOf (x : Int) = k0 := ⟨_, rfl⟩
        have hkl : k0 < L := by rw [← hk0, ← hLE]; exact List.idxOf_lt_length_iff.2 hmem
        have hkx : (thereL lots (tfG S.gs))[k0]?.getD 0 = (x : Int) := by
          have h1 : (thereL lots (tfG S.gs)).idxOf (x : Int) < (thereL lots (tfG S.gs)).length := List.idxOf_lt_length_iff.2 hmem
          rw [← hk0, List.getElem?_eq_getElem h1, List.getElem_idxOf]; rfl
        have hkn : ∀ p, p ≠ k0 → p < L → (thereL lots (tfG S.gs))[p]?.getD 0 ≠ (x : Int) := fun p hp hpl e => by
          have h1 : p < (thereL lots (tfG S.gs)).length := by omega
          have h2 : k0 < (thereL lots (tfG S.gs)).length := by omega
          rw [← hkx, List.getElem?_eq_getElem h1, List.getElem?_eq_getElem h2] at e
          exact hp ((List.getElem_inj hnd).1 e)
        have her := there_erase (lots := lots) (g := tfG S.gs) (w := (x : Int)) HA.out.nodup
        rw [hk0, ← tfG_set (by rw [HG.out.lg]; exact hxl')] at her
        have hel : L - 1 = (thereL lots (tfG (S.gs.set x true))).length := by rw [← her, List.length_eraseIdx, if_pos (by omega), hLE]
        have hl7 : L ≤ 1048600 := by
          have h0 : (thereL lots (tfG S.gs)).length ≤ lots.length := List.length_filter_le _ _
          have := (lotsB_len HA.out.lots).2
          omega
        have HLV := Lib.hid hel
        have HER := Lib.hid her
        clear hk0 hmem hnd her hel
        go_wp2_with fail
        refine (deleteF_as R.gs L R.cs bw k0 base _ (x : Int) _ OS1 hl7 (blk_cell c1' 0) hbs2 hkl hkn hkx).mono ?_
        rintro e w9 ⟨rfl, h91, h92, h93⟩
        have t9 : w9.heap[T]? = _ := (h92.block T (blk_lt t1) (fun e => hts (by injection e))).trans t1
        have g9 : w9.heap[G]? = _ := (h92.block G (blk_lt g1) (fun e => hGs (by injection e))).trans g1
        have c9 : w9.heap[bw]? = _ := (h92.block bw (blk_lt c1') (fun e => hbs2 (by injection e))).trans c1'
        have t9c : w9.cell? ⟨T, 1, none⟩ = _ := blk_cell t9 1
        have t9f : w9.frozen? ⟨T, 1, none⟩ = false := blk_frozen t9 1
        have gT := blk_ne g9 t9 (by decide)
        have bT := blk_ne c9 t9 (by decide)
        have g0 : (w9.setCell ⟨T, 1, none⟩ (.slice (some ⟨R.gs, 0, none⟩) (L - 1) R.cs)).heap[G]? = _ := (blk_other gT).trans g9
        have b0 : (w9.setCell ⟨T, 1, none⟩ (.slice (some ⟨R.gs, 0, none⟩) (L - 1) R.cs)).heap[bw]? = _ := (blk_other bT).trans c9
        have b0c : (w9.setCell ⟨T, 1, none⟩ (.slice (some ⟨R.gs, 0, none⟩) (L - 1) R.cs)).cell? ⟨bw, 0, none⟩ = _ := blk_cell b0 0
        have q0 : (w9.setCell ⟨T, 1, none⟩ (.slice (some ⟨R.gs, 0, none⟩) (L - 1) R.cs)).cell? ⟨G, 0, none⟩ = _ := blk_cell g0 0
        have f0 : (w9.setCell ⟨T, 1, none⟩ (.slice (some ⟨R.gs, 0, none⟩) (L - 1) R.cs)).frozen? ⟨G, 0, none⟩ = _ := blk_frozen g0 0
        have g01 := blk_set g0 0 (.slice (some ⟨gc, 0, none⟩) i i)
        have q1 : ((w9.setCell ⟨T, 1, none⟩ (.slice (some ⟨R.gs, 0, none⟩) (L - 1) R.cs)).setCell ⟨G, 0, none⟩ (.slice (some ⟨gc, 0, none⟩) i i)).cell? ⟨G, 1, none⟩ = _ := blk_cell g01 1
        have f1 : ((w9.setCell ⟨T, 1, none⟩ (.slice (some ⟨R.gs, 0, none⟩) (L - 1) R.cs)).setCell ⟨G, 0, none⟩ (.slice (some ⟨gc, 0, none⟩) i i)).frozen? ⟨G, 1, none⟩ = false := blk_frozen g01 1
        have g02 := blk_set g01 1 (.int .i64 (x : Int))
        have q2 : (((w9.setCell ⟨T, 1, none⟩ (.slice (some ⟨R.gs, 0, none⟩) (L - 1) R.cs)).setCell ⟨G, 0, none⟩ (.slice (some ⟨gc, 0, none⟩) i i)).setCell ⟨G, 1, none⟩ (.int .i64 (x : Int))).cell? ⟨G, 2, none⟩ = _ := blk_cell g02 2
        have f2 : (((w9.setCell ⟨T, 1, none⟩ (.slice (some ⟨R.gs, 0, none⟩) (L - 1) R.cs)).setCell ⟨G, 0, none⟩ (.slice (some ⟨gc, 0, none⟩) i i)).setCell ⟨G, 1, none⟩ (.int .i64 (x : Int))).frozen? ⟨G, 2, none⟩ = false := blk_frozen g02 2
        go_wp2_with fail
        have g03 := blk_set g02 2 (.int .i64 2)
        have hgg : base ≤ G := by rw [← hG]; exact hbs
        have hgG : w.heap.size ≤ gc := by rw [hG]; exact (OC1.out.lt gc rfl).1
        obtain ⟨cb, hcb⟩ := row_blk HT8.out.gone
        obtain ⟨cs, hcs⟩ := row_blk OS1
        obtain ⟨cs9, hcs9⟩ := row_blk h91
        rw [HER.out] at h91
        have hTL := HT8.out.leave HLV.out h91 h92
        have hTG := (((Chg.refl base (fun e => e = 35) _).set (o := 0) g0 hgg rfl (.slice (some ⟨gc, 0, none⟩) i i)).set (o := 1) g01 hgg rfl (.int .i64 (x : Int))).set (o := 2) g02 hgg rfl (.int .i64 2)
        have hO9 := OC1.out.kept h92 (owns_apart (by decide) OC1.out OS1)
        have hO := owns_set_blk (i := 2) (u := .int .i64 2) (owns_set_blk (i := 1) (u := .int .i64 (x : Int)) (owns_set_blk (i := 0) (u := .slice (some ⟨gc, 0, none⟩) i i) (owns_set_blk (i := 1) (u := .slice (some ⟨R.gs, 0, none⟩) (L - 1) R.cs) hO9 t9 (by decide)) g0 (by decide)) g01 (by decide)) g02 (by decide)
        have hC := (((((C8.out.set (o := x) hcb (by have := (HT8.out.gone.lt R.gg rfl).1; exact this) (.inr (.inr (.inl rfl))) (.bool true)).grown h92 hcs (by have := (OS1.lt R.gs rfl).1; exact this) (.inr (.inl rfl))).set (o := 1) t9 HT8.out.low (.inr (.inr (.inr rfl))) (.slice (some ⟨R.gs, 0, none⟩) (L - 1) R.cs)).new (g := G) (by rw [hG]; exact Nat.le_refl _) 0 (.slice (some ⟨gc, 0, none⟩) i i)).new (g := G) (by rw [hG]; exact Nat.le_refl _) 1 (.int .i64 (x : Int))).new (g := G) (by rw [hG]; exact Nat.le_refl _) 2 (.int .i64 2)
        have r0 := blk_cell g03 0
        have r1 := blk_cell g03 1
        have r2 := blk_cell g03 2
        refine bodyPost_ret (v := .agg #[.slice (some ⟨gc, 0, none⟩) i i, .int .i64 (x : Int), .int .i64 2]) (by simp [results, Try.results78, go_sem, r0, r1, r2]) rfl ?_
        refine ⟨gc, i, rfl, hgG, ?_, ?_, hC⟩
        · rw [HNX.out]
          exact hTL.chg hTG (by decide) (by decide) (by decide) (by decide) (by decide)
        · rw [hG]; exact hO
      · have HNX : Hid (tfNext ps lots q S = ⟨S.gs.set x true, S.ws, s1⟩) := by unfold Hid tfNext; rw [HW.out, HK.out, HSE.out]; simp
        go_wp2_with fail
        generalize w1.heap.size = bw at *
        obtain ⟨wz, hwz⟩ : ∃ wz, (w1.alloc (.cells #[.int .i64 (x : Int)] 3)) = wz := ⟨_, rfl⟩
        rw [hwz] at OC2 BK2 HH2 B2 HT2 BB2 ⊢
        obtain ⟨a1, a2, a3, a4, a5⟩ := seat_off HT2.out OC2.out BK2.out BB2.out (Chg.of_below (base := base) (P := stepP) B2.out) s1
        have A1 := Lib.hid a1
        have A2 := Lib.hid a2
        have A3 := Lib.hid a3
        have A4 := Lib.hid a4
        have A5 := Lib.hid a5
        clear k3 m3 hwz
        obtain ⟨wx, hwx⟩ : ∃ wx, wz.setCell ⟨T, 3, none⟩ (.int .i64 (s1 : Int)) = wx := ⟨_, rfl⟩
        rw [hwx] at A1 A2 A3 A4 A5 ⊢
        have HTX := A1
        have CX := A5
        have OCX := A2
        have BKX := A3
        have BBX := A4
        clear A1 A2 A3 A4 A5 HT2 B2 OC2 BK2 BB2 HH2 hwx a1 a2 a3 a4 a5
        have kT2 : wx.cell? ⟨T, 2, none⟩ = some (.slice (some ⟨R.gg, 0, none⟩) lots.length R.cg) := blk_cell HTX.out.blk 2
        have kB : wx.cell? ⟨bw, 0, none⟩ = some (.int .i64 (x : Int)) := blk_cell BBX.out 0
        have htl := blk_lt HTX.out.blk
        have hbl := blk_lt BBX.out
        have u0 : ∀ u : Beh wx, u.w.cell? ⟨T, 2, none⟩ = _ := Beh.cell kT2 htl
        have u1 : ∀ u : Beh wx, u.w.cell? ⟨bw, 0, none⟩ = _ := Beh.cell kB hbl
        have hxl' : x < lots.length := by have := HN.out; have := HOCN.out; omega
        have hxl : (x : Int) < (lots.length : Int) := by omega
        clear kT2 kB
        refine wp_region_below_tail 6 (by kernel_rfl) (by kernel_rfl) ?_
        simp only [List.take_succ_cons, List.take_zero, List.drop_succ_cons, List.drop_zero]
        repeat (go_big_quiet_step (fail))
        refine wpQuiet_nil ?_
        rintro w8 ⟨⟨_, hb8'⟩, he⟩
        have hb8 : Below wx.heap.size wx w8 := by rw [he]; exact hb8'
        clear he hb8' u0 u1
        have HT8 := Lib.hid (HTX.out.under hb8)
        have OC8 := Lib.hid (owns_under OCX.out hb8)
        have BK8 := Lib.hid (blk_under BKX.out hb8)
        have BB8 := Lib.hid (blk_under BBX.out hb8)
        have C8 := Lib.hid (CX.out.on hb8)
        clear HTX OCX BKX BBX CX hb8 htl hbl
        obtain ⟨cg0, hcg⟩ : ∃ v, w8.cell? ⟨R.gg, x, none⟩ = some v := by
          rw [HT8.out.gone.cellAt x (by omega)]
          exact ⟨_, List.getElem?_eq_getElem (by rw [List.length_map, HG.out.lg]; exact hxl')⟩
        have hcf : w8.frozen? ⟨R.gg, x, none⟩ = false := HT8.out.gone.frozenAt _
        obtain ⟨L, hLE⟩ : ∃ L, (thereL lots (tfG S.gs)).length = L := ⟨_, rfl⟩
        have hgr : (w8.grownBy (w8.setCell ⟨R.gg, x, none⟩ (.bool true)) (some R.gg)) := ⟨rfl, rfl, rfl, by simp [World.setCell], fun k _ hk => blk_other (fun e => hk (by rw [e]))⟩
        have htb := blk_apart_row HT8.out.gone HT8.out.blk (by decide)
        have hBb := blk_apart_row HT8.out.gone BB8.out (by decide)
        have hGb := blk_apart_row HT8.out.gone BK8.out (by decide)
        have hts := blk_apart_row HT8.out.stay HT8.out.blk (by decide)
        have hGs := blk_apart_row HT8.out.stay BK8.out (by decide)
        have hbs2 : bw ≠ R.gs := fun e => stay_low HT.out.stay (by have := hbwG.out; rw [← e]; exact this)
        have t1 : (w8.setCell ⟨R.gg, x, none⟩ (.bool true)).heap[T]? = _ := (blk_other htb).trans HT8.out.blk
        have g1 : (w8.setCell ⟨R.gg, x, none⟩ (.bool true)).heap[G]? = _ := (blk_other hGb).trans BK8.out
        have c1' : (w8.setCell ⟨R.gg, x, none⟩ (.bool true)).heap[bw]? = _ := (blk_other hBb).trans BB8.out
        have l1 : (w8.setCell ⟨R.gg, x, none⟩ (.bool true)).cell? ⟨T, 1, none⟩ = some (.slice (some ⟨R.gs, 0, none⟩) L R.cs) := by rw [← hLE]; exact blk_cell t1 1
        have OS1 := HT8.out.stay.kept hgr (owns_apart (by decide) HT8.out.stay HT8.out.gone)
        have OC1 := Lib.hid (OC8.out.kept hgr (owns_apart (by decide) OC8.out HT8.out.gone))
        rw [hLE] at OS1
        have hmem : (x : Int) ∈ thereL lots (tfG S.gs) := HWM.out
        have hnd : (thereL lots (tfG S.gs)).Nodup := HA.out.nodup.filter _
        obtain ⟨k0, hk0⟩ : ∃ k0, (thereL lots (tfG S.gs)).idxOf (x : Int) = k0 := ⟨_, rfl⟩
        have hkl : k0 < L := by rw [← hk0, ← hLE]; exact List.idxOf_lt_length_iff.2 hmem
        have hkx : (thereL lots (tfG S.gs))[k0]?.getD 0 = (x : Int) := by
          have h1 : (thereL lots (tfG S.gs)).idxOf (x : Int) < (thereL lots (tfG S.gs)).length := List.idxOf_lt_length_iff.2 hmem
          rw [← hk0, List.getElem?_eq_getElem h1, List.getElem_idxOf]; rfl
        have hkn : ∀ p, p ≠ k0 → p < L → (thereL lots (tfG S.gs))[p]?.getD 0 ≠ (x : Int) := fun p hp hpl e => by
          have h1 : p < (thereL lots (tfG S.gs)).length := by omega
          have h2 : k0 < (thereL lots (tfG S.gs)).length := by omega
          rw [← hkx, List.getElem?_eq_getElem h1, List.getElem?_eq_getElem h2] at e
          exact hp ((List.getElem_inj hnd).1 e)
        have her := there_erase (lots := lots) (g := tfG S.gs) (w := (x : Int)) HA.out.nodup
        rw [hk0, ← tfG_set (by rw [HG.out.lg]; exact hxl')] at her
        have hel : L - 1 = (thereL lots (tfG (S.gs.set x true))).length := by rw [← her, List.length_eraseIdx, if_pos (by omega), hLE]
        have hl7 : L ≤ 1048600 := by
          have h0 : (thereL lots (tfG S.gs)).length ≤ lots.length := List.length_filter_le _ _
          have := (lotsB_len HA.out.lots).2
          omega
        have HLV := Lib.hid hel
        have HER := Lib.hid her
        clear hk0 hmem hnd her hel
        go_wp2_with fail
        refine (deleteF_as R.gs L R.cs bw k0 base _ (x : Int) _ OS1 hl7 (blk_cell c1' 0) hbs2 hkl hkn hkx).mono ?_
        rintro e w9 ⟨rfl, h91, h92, h93⟩
        have t9 : w9.heap[T]? = _ := (h92.block T (blk_lt t1) (fun e => hts (by injection e))).trans t1
        have g9 : w9.heap[G]? = _ := (h92.block G (blk_lt g1) (fun e => hGs (by injection e))).trans g1
        have c9 : w9.heap[bw]? = _ := (h92.block bw (blk_lt c1') (fun e => hbs2 (by injection e))).trans c1'
        have t9c : w9.cell? ⟨T, 1, none⟩ = _ := blk_cell t9 1
        have t9f : w9.frozen? ⟨T, 1, none⟩ = false := blk_frozen t9 1
        have gT := blk_ne g9 t9 (by decide)
        have bT := blk_ne c9 t9 (by decide)
        have g0 : (w9.setCell ⟨T, 1, none⟩ (.slice (some ⟨R.gs, 0, none⟩) (L - 1) R.cs)).heap[G]? = _ := (blk_other gT).trans g9
        have b0 : (w9.setCell ⟨T, 1, none⟩ (.slice (some ⟨R.gs, 0, none⟩) (L - 1) R.cs)).heap[bw]? = _ := (blk_other bT).trans c9
        have b0c : (w9.setCell ⟨T, 1, none⟩ (.slice (some ⟨R.gs, 0, none⟩) (L - 1) R.cs)).cell? ⟨bw, 0, none⟩ = _ := blk_cell b0 0
        have q0 : (w9.setCell ⟨T, 1, none⟩ (.slice (some ⟨R.gs, 0, none⟩) (L - 1) R.cs)).cell? ⟨G, 0, none⟩ = _ := blk_cell g0 0
        have f0 : (w9.setCell ⟨T, 1, none⟩ (.slice (some ⟨R.gs, 0, none⟩) (L - 1) R.cs)).frozen? ⟨G, 0, none⟩ = _ := blk_frozen g0 0
        have g01 := blk_set g0 0 (.slice (some ⟨gc, 0, none⟩) i i)
        have q1 : ((w9.setCell ⟨T, 1, none⟩ (.slice (some ⟨R.gs, 0, none⟩) (L - 1) R.cs)).setCell ⟨G, 0, none⟩ (.slice (some ⟨gc, 0, none⟩) i i)).cell? ⟨G, 1, none⟩ = _ := blk_cell g01 1
        have f1 : ((w9.setCell ⟨T, 1, none⟩ (.slice (some ⟨R.gs, 0, none⟩) (L - 1) R.cs)).setCell ⟨G, 0, none⟩ (.slice (some ⟨gc, 0, none⟩) i i)).frozen? ⟨G, 1, none⟩ = false := blk_frozen g01 1
        have g02 := blk_set g01 1 (.int .i64 (x : Int))
        have q2 : (((w9.setCell ⟨T, 1, none⟩ (.slice (some ⟨R.gs, 0, none⟩) (L - 1) R.cs)).setCell ⟨G, 0, none⟩ (.slice (some ⟨gc, 0, none⟩) i i)).setCell ⟨G, 1, none⟩ (.int .i64 (x : Int))).cell? ⟨G, 2, none⟩ = _ := blk_cell g02 2
        have f2 : (((w9.setCell ⟨T, 1, none⟩ (.slice (some ⟨R.gs, 0, none⟩) (L - 1) R.cs)).setCell ⟨G, 0, none⟩ (.slice (some ⟨gc, 0, none⟩) i i)).setCell ⟨G, 1, none⟩ (.int .i64 (x : Int))).frozen? ⟨G, 2, none⟩ = false := blk_frozen g02 2
        go_wp2_with fail
        have g03 := blk_set g02 2 (.int .i64 3)
        have hgg : base ≤ G := by rw [← hG]; exact hbs
        have hgG : w.heap.size ≤ gc := by rw [hG]; exact (OC1.out.lt gc rfl).1
        obtain ⟨cb, hcb⟩ := row_blk HT8.out.gone
        obtain ⟨cs, hcs⟩ := row_blk OS1
        obtain ⟨cs9, hcs9⟩ := row_blk h91
        rw [HER.out] at h91
        have hTL := HT8.out.leave HLV.out h91 h92
        have hTG := (((Chg.refl base (fun e => e = 35) _).set (o := 0) g0 hgg rfl (.slice (some ⟨gc, 0, none⟩) i i)).set (o := 1) g01 hgg rfl (.int .i64 (x : Int))).set (o := 2) g02 hgg rfl (.int .i64 3)
        have hO9 := OC1.out.kept h92 (owns_apart (by decide) OC1.out OS1)
        have hO := owns_set_blk (i := 2) (u := .int .i64 3) (owns_set_blk (i := 1) (u := .int .i64 (x : Int)) (owns_set_blk (i := 0) (u := .slice (some ⟨gc, 0, none⟩) i i) (owns_set_blk (i := 1) (u := .slice (some ⟨R.gs, 0, none⟩) (L - 1) R.cs) hO9 t9 (by decide)) g0 (by decide)) g01 (by decide)) g02 (by decide)
        have hC := (((((C8.out.set (o := x) hcb (by have := (HT8.out.gone.lt R.gg rfl).1; exact this) (.inr (.inr (.inl rfl))) (.bool true)).grown h92 hcs (by have := (OS1.lt R.gs rfl).1; exact this) (.inr (.inl rfl))).set (o := 1) t9 HT8.out.low (.inr (.inr (.inr rfl))) (.slice (some ⟨R.gs, 0, none⟩) (L - 1) R.cs)).new (g := G) (by rw [hG]; exact Nat.le_refl _) 0 (.slice (some ⟨gc, 0, none⟩) i i)).new (g := G) (by rw [hG]; exact Nat.le_refl _) 1 (.int .i64 (x : Int))).new (g := G) (by rw [hG]; exact Nat.le_refl _) 2 (.int .i64 3)
        have r0 := blk_cell g03 0
        have r1 := blk_cell g03 1
        have r2 := blk_cell g03 2
        refine bodyPost_ret (v := .agg #[.slice (some ⟨gc, 0, none⟩) i i, .int .i64 (x : Int), .int .i64 3]) (by simp [results, Try.results78, go_sem, r0, r1, r2]) rfl ?_
        refine ⟨gc, i, rfl, hgG, ?_, ?_, hC⟩
        · rw [HNX.out]
          exact hTL.chg hTG (by decide) (by decide) (by decide) (by decide) (by decide)
        · rw [hG]; exact hO

end Go.Proofs.Ytafnmongglhlaaa

namespace Go.Proofs.Ytafnmongglhlaaa
open Go.RowKit

attribute [local go_sem] Oper.semAt_some

theorem fits_out {ps : List Pl} {n : Int} (h : n < 1 ∨ 5 < n) : fitsB ps n = false := by
  have e : inB n 1 5 = false := by unfold inB; exact decide_eq_false (by omega)
  unfold fitsB; rw [e]; simp

set_option maxRecDepth 100000 in
set_option maxHeartbeats 2000000 in
/-- **impl.pilesFit**. -/
theorem implFits_as (a : Option Addr) (len cap : Nat) (ps : List Pl) (n : Int) (v : Bool) (w : World) (h : IsPiles w a len cap ps) (hs : Small ps) (hv : fitsB ps n = v) :
    Calls Try.prog 108 #[.slice a len cap, .int .i64 n] w fun e w' => e = .returned (.bool v) ∧ Below w.heap.size w w' := by
  have HI := Lib.hid h
  have HS := Lib.hid hs
  have HV := Lib.hid hv
  have H1 := Lib.hid h.1
  clear h hs hv
  obtain ⟨G, hG⟩ : ∃ G, w.heap.size = G := ⟨_, rfl⟩
  by_cases h1 : n < 1
  · have HE : Hid (fitsB ps n = false) := fits_out (by omega)
    have hd : decide (n < 1) = true := decide_eq_true h1
    go_enter Try.func108, Try.ntmps108
    go_wp2
    go_ret
    exact ⟨ret_bool (by rw [← HV.out, HE.out]), Below.refl _ _⟩
  by_cases h5 : 5 < n
  · have HE : Hid (fitsB ps n = false) := fits_out (by omega)
    have hd : decide (n < 1) = false := decide_eq_false h1
    have hd5 : decide (5 < n) = true := decide_eq_true h5
    go_enter Try.func108, Try.ntmps108
    go_wp2
    go_ret
    exact ⟨ret_bool (by rw [← HV.out, HE.out]), Below.refl _ _⟩
  have hd : decide (n < 1) = false := decide_eq_false h1
  have hd5 : decide (5 < n) = false := decide_eq_false h5
  have HIN : Hid (inB n 1 5 = true) := by unfold Hid inB; simp; omega
  cases hp : pilesB ps
  · have HE : Hid (fitsB ps n = false) := by unfold Hid fitsB; rw [hp]; rfl
    have HP := Lib.hid hp; clear hp
    go_enter Try.func108, Try.ntmps108
    go_wp2_with fail
    refine (implPiles_as _ _ _ ps false _ HI.out HS.out HP.out).mono ?_
    rintro e w3 ⟨rfl, hb3⟩
    go_wp2
    go_ret
    exact ⟨ret_bool (by rw [← HV.out, HE.out]), hb3⟩
  · have hl12 : len ≤ 12 := by have := (pilesB_pos hp).2.2.2.2; rw [H1.out] at this; exact this
    have HP := Lib.hid hp; clear hp
    go_enter Try.func108, Try.ntmps108
    go_wp2_with fail
    refine (implPiles_as _ _ _ ps true _ HI.out HS.out HP.out).mono ?_
    rintro e w3 ⟨rfl, hb3⟩
    have B3 := Lib.hid (hG ▸ hb3); clear hb3
    go_wp2
    go_loopw [6, 7, 8, 22] (fun _ _ _ i wr => ∃ k : Nat, k ≤ len ∧ i = .int .i64 k ∧ Hid (∀ j, j < k → validB (parseL (tAt ps j)) n = true) ∧ Below G w wr) (fun _ _ _ i _ => len - (intOf i).toNat)
    case atStart => exact ⟨0, Nat.zero_le _, rfl, fun j hj => by omega, B3.out⟩
    case round =>
      obtain ⟨k, hk, rfl, hA, hB⟩ := hrel
      have hBw : Below w.heap.size w wr := hG.symm ▸ hB
      by_cases hlt : k < len
      · obtain ⟨b, off, rfl, hb, c0, c1⟩ := (HI.out.below hBw).at_text hlt
        obtain ⟨t, ht⟩ : ∃ t, tAt ps k = t := ⟨_, rfl⟩
        obtain ⟨m, hm⟩ : ∃ m, mAt ps k = m := ⟨_, rfl⟩
        obtain ⟨pl, hpl⟩ : ∃ pl, parseL t = pl := ⟨_, rfl⟩
        obtain ⟨u, hu⟩ : ∃ u, validB pl n = u := ⟨_, rfl⟩
        have hst : t.size ≤ 1048600 := by rw [← ht]; exact HS.out k
        have hl5 : pl.length ≤ 5 := by rw [← hpl]; exact parseL_short t
        have HOK : Hid (validB (nums t) 5 = true) := by
          have := (pilesB_pos HP.out).2.2.2.1 _ (pile_mem (ps := ps) (k := k) (by rw [H1.out]; exact hlt))
          unfold Hid; rw [← ht]; exact this
        rw [ht] at c0
        rw [hm] at c1
        have HT := Lib.hid ht
        have HPL := Lib.hid hpl
        have HU := Lib.hid hu
        have hGs : G ≤ wr.heap.size := by have := hB.size; rw [hG] at this; exact this
        clear ht hpl hu hBw hm
        go_wp2_with fail
        refine (implParse_as t pl true _ hst HPL.out HOK.out).mono ?_
        rintro e w4 ⟨a4, c4, rfl, ho4, hb4⟩
        have I4 := Lib.hid (IsInts.of_owned ho4 (by omega))
        have B4 : Hid (Below G w w4) := by
          refine hB.trans (Below.mono (?_ : Below wr.heap.size wr w4) hGs)
          first | exact ((Below.refl _ _).alloc (Nat.le_refl _) _).trans (hb4.mono (by simp)) | trace_state
        clear ho4 hb4
        go_wp2_with fail
        refine (implValid_any _ _ _ pl n _ I4.out).mono ?_
        rintro e w5 ⟨he, hb5⟩
        rw [HU.out] at he
        subst he
        have B5 := Lib.hid (B4.out.trans (hb5.mono (by have := B4.out.size; rw [hG] at this; exact this)))
        clear hb5
        have HN : Hid (validB (parseL (tAt ps k)) n = u) := by unfold Hid; rw [HT.out, HPL.out, HU.out]
        cases u
        · go_wp2
          go_ret
          exact ⟨ret_bool (by rw [← HV.out]; exact (fits_no (by rw [H1.out]; exact hlt) HN.out).symm), hG.symm ▸ B5.out⟩
        · go_wp2
          go_roundw
          case rel =>
            refine ⟨k + 1, by omega, by go_num, fun j hj => ?_, B5.out⟩
            by_cases e : j = k
            · subst e; exact HN.out
            · exact hA.out j (by omega)
          case measure => simp [intOf]; omega
      · obtain rfl : k = len := by omega
        have HE : Hid (fitsB ps n = (pilesB ps && inB n 1 5)) := fits_all (fun i hi => hA.out i (by rw [← H1.out]; exact hi))
        go_wp2
        go_ret
        exact ⟨ret_bool (by rw [← HV.out, HE.out, HP.out, HIN.out]; rfl), hG.symm ▸ hB⟩

end Go.Proofs.Ytafnmongglhlaaa

namespace Go.Proofs.Ytafnmongglhlaaa
open Go.RowKit

attribute [local go_sem] Oper.semAt_some

set_option maxRecDepth 100000 in
set_option maxHeartbeats 2000000 in
/-- **slices.Clone** of a list that is not empty. -/
theorem clone_as (a : Option Addr) (len cap : Nat) (zs : List Int) (w : World) (h : IsInts w a len cap zs) (hp : 0 < len) :
    Calls Try.prog 109 #[.slice a len cap] w fun e w' => ∃ g c, e = .returned (.slice (some ⟨g, 0, none⟩) len c) ∧ w'.ownsRow w.heap.size 3 1 (.slice (some ⟨g, 0, none⟩) len c) len (zs.map (Value.int .i64)) ∧ Below w.heap.size w w' := by
  obtain ⟨i0, hi, hz0, hz1, hz2⟩ := info_parts int_info
  obtain ⟨b, off, rfl, hb, hc⟩ := h.2.2.2 hp
  have hzl := h.1
  have hlm := h.2.2.1
  have hlit := Lib.hid (World.ownsRow_lit (base := w.heap.size) (e := 3) (size := 1) w #[] 0 (Nat.le_refl _) (by unfold maxLen; omega) rfl)
  have HCG : Hid (∀ k u, (zs.map (Value.int .i64))[k]? = some u → (w.alloc (.cells #[] 3)).cell? ((⟨b, off, none⟩ : Addr).add k) = some u) := fun k u hu => by
    have hk : k < len := by
      rcases Nat.lt_or_ge k len with q | q
      · exact q
      · rw [List.getElem?_eq_none (by simp; omega)] at hu; cases hu
    have e : (⟨b, off, none⟩ : Addr).add k = ⟨b, off + k, none⟩ := by
      by_cases q : k = 0
      · subst q; simp [Addr.add]
      · simp [Addr.add, q]
    rw [e]
    have h1 := (((Below.refl w.heap.size w).alloc (Nat.le_refl _) (.cells #[] 3)).cell (p := ⟨b, off + k, none⟩) hb).trans (hc k hk)
    rw [h1]
    rw [List.getElem?_map, List.getElem?_eq_getElem (by omega)] at hu
    simp only [Option.map_some] at hu
    rw [← hu]
    simp [show k < zs.length by omega]
  have HLN : Hid ((zs.map (Value.int .i64)).length = len * 1) := by unfold Hid; rw [List.length_map, hzl, Nat.mul_one]
  have q22 : ∀ (w : World) (a : Option Addr) (n c n' c' : Nat), (binOp .eql 24 (.slice a n c) (.slice none n' c')).run Try.prog w = .ok (.bool a.isNone) w := fun w a n c n' c' => Lib.run_eql_slice_nil w _ _ a n c n' c' Try.underlying24
  clear h hc hzl
  go_enter Try.func109, Try.ntmps109
  go_wp2_with (at_builtin; refine wpList_append_own _ rfl _ _ 24 rfl w.heap.size 3 i0 (.int .i64 0) 1 8 Try.underlying24 hi hz0 hz1 hz2 rfl (by decide) _ _ _ rfl hlit.out ⟨b, off, none⟩ len cap (zs.map (Value.int .i64)) rfl HLN.out HCG.out (ints_one' _) (by unfold maxLen; omega) (by omega) (by simp) ?_; intro v' w8 hown8 hgrow8 _; rw [Nat.zero_add] at hown8; change w8.ownsRow _ _ _ v' len (zs.map (Value.int .i64)) at hown8; obtain ⟨g8, c8, rfl⟩ := some_of_owns hown8 hp; have h8 : Below w.heap.size w w8 := ((Below.refl _ w).alloc (Nat.le_refl _) _).grown hgrow8 (by simp) (fun k e => by have e2 : (some w.heap.size : Option Nat) = some k := e; injection e2 with e3; omega); have O8 := Lib.hid hown8; have H8 := Lib.hid h8; clear hown8 hgrow8 h8)
  go_ret
  exact ⟨g8, c8, rfl, O8.out, H8.out⟩

theorem there_start {lots : List Int} (h : lotsB lots = true) : thereL lots (tfG (List.replicate lots.length false)) = lots := by
  unfold thereL
  rw [List.filter_eq_self]
  intro z hz
  have : tfG (List.replicate lots.length false) z = false := by
    rw [tfG_nn ((vB_mem h).2.2 z hz).1, List.getElem?_replicate]; split <;> rfl
  rw [this]; rfl
/-- One pile more. -/
def TR.push (R : TR) (i g : Nat) (a : Option Addr) (c : Nat) (a' : Option Addr) (c' : Nat) : TR :=
  { R with ap := a', cp := c', B := fun j => if j = i then g else R.B j, ba := fun j => if j = i then a else R.ba j, bc := fun j => if j = i then c else R.bc j }
theorem ptrs_push (R : TR) (i g : Nat) (a : Option Addr) (c : Nat) (a' : Option Addr) (c' : Nat) : ptrs (R.push i g a c a' c').B (List.range (i + 1)) = ptrs R.B (List.range i) ++ [.pointer (some ⟨g, 0, none⟩)] := by
  unfold ptrs
  rw [List.range_succ, List.map_append]
  congr 1
  · refine List.map_congr_left (fun j hj => ?_)
    have := List.mem_range.1 hj
    simp [TR.push, show j ≠ i by omega]
  · simp [TR.push]
theorem TS.push {w w' : World} {base T : Nat} {R : TR} {ps : List Pl} {lots : List Int} {q : Int} {S : TfS} {i g c c' : Nat} {a a' : Option Addr} (h : TS w base T R ps lots q S i)
    (hg : w.heap[g]? = some (.cells (pileC a (parseL (tAt ps i)).length c (mAt ps i) (tfW S.ws i)) 158 (0, 0))) (hgb : base ≤ g) (hnew : ∀ j, j < i → R.B j ≠ g)
    (hbal : w.ownsRow (R.gs + 1) 3 1 (.slice a (parseL (tAt ps i)).length c) (parseL (tAt ps i)).length ((parseL (tAt ps i)).map (Value.int .i64)))
    (ho : w'.ownsRow base 143 1 (.slice a' (i + 1) c') (i + 1) (ptrs R.B (List.range i) ++ [.pointer (some ⟨g, 0, none⟩)])) (hgr : w.grownBy w' (Value.slice R.ap i R.cp).ownBlock) :
    TS (w'.setCell ⟨T, 0, none⟩ (.slice a' (i + 1) c')) base T (R.push i g a c a' c') ps lots q S (i + 1) := by
  have hblk : ∀ {k : Nat} {cu : Array Value} {e : TypeId}, w.heap[k]? = some (.cells cu e (0, 0)) → (143 : TypeId) ≠ e → w'.heap[k]? = some (.cells cu e (0, 0)) := fun {k cu e} hk hne => by
    refine (hgr.block k (blk_lt hk) ?_).trans hk
    rcases owns_not_blk h.piles hk hne with q | q
    · rw [q]; intro e2; cases e2
    · intro e2; exact q e2.symm
  have hT := hblk h.blk (by decide)
  have hrow : ∀ {b n s : Nat} {e : TypeId} {v : Value} {xs : List Value}, w.ownsRow b e s v n xs → e ≠ 143 → e ≠ 115 → (w'.setCell ⟨T, 0, none⟩ (.slice a' (i + 1) c')).ownsRow b e s v n xs := fun hr h1 h2 => by
    have h3 := hr.kept hgr (owns_apart h1 hr h.piles)
    exact owns_set_blk h3 hT h2
  have hother : ∀ {k : Nat} {cu : Array Value}, w.heap[k]? = some (.cells cu 158 (0, 0)) → (w'.setCell ⟨T, 0, none⟩ (.slice a' (i + 1) c')).heap[k]? = some (.cells cu 158 (0, 0)) := fun {k cu} hk => by
    have h1 := hblk hk (by decide)
    rw [blk_other]
    · exact h1
    · intro e
      subst e
      rw [hT] at h1
      injection h1 with h1
      injection h1 with _ h1 _
      exact absurd h1 (by decide)
  refine ⟨?_, h.low, ?_, ?_, ?_, ?_⟩
  · rw [blk_set hT]; simp [TR.push]
  · rw [ptrs_push]; exact owns_set_blk ho hT (by decide)
  · exact hrow h.stay (by decide) (by decide)
  · exact hrow h.gone (by decide) (by decide)
  · refine ⟨fun j hj => ?_, fun j hj => ?_, fun j hj => ?_, fun x y hx hy he => ?_⟩
    · by_cases e : j = i
      · subst e; simp only [TR.push, if_true]; exact hother hg
      · simp only [TR.push, if_neg e]; exact hother (h.pm.pile j (by omega))
    · by_cases e : j = i
      · subst e; simp only [TR.push, if_true]; exact hgb
      · simp only [TR.push, if_neg e]; exact h.pm.low j (by omega)
    · by_cases e : j = i
      · subst e; simp only [TR.push, if_true]; exact hrow hbal (by decide) (by decide)
      · simp only [TR.push, if_neg e]; exact hrow (h.pm.ballot j (by omega)) (by decide) (by decide)
    · by_cases e1 : x = i
      · by_cases e2 : y = i
        · omega
        · simp only [TR.push, if_pos e1, if_neg e2] at he
          exact absurd he.symm (hnew y (by omega))
      · by_cases e2 : y = i
        · simp only [TR.push, if_neg e1, if_pos e2] at he
          exact absurd he (hnew x (by omega))
        · simp only [TR.push, if_neg e1, if_neg e2] at he
          exact h.pm.inj x y (by omega) (by omega) he
/-- make, as one step of a region that draws. -/
theorem step_make {P : Program} {ops : Array Oper} {o : Oper} {a : Act} {w : World} {K : Act → World → Prop} {Q : Exit → Act → World → Prop} {E : Prop}
    (hg : o.guard = none) (l c : Operand) (t : TypeId) (hop : o.op = Op.makeSlice t l c)
    (base : Nat) (e : TypeId) (i : TypeInfo) (z : Value) (size : Nat) (h1 : P.underlying t = some (.slice e)) (h2 : P.info? e = some i) (h3 : i.zero = some z) (h4 : i.size = size)
    (kl kc : IntKind) (L C : Int) (n : Nat) (hl : a.eval l = .int kl L) (hc : a.eval c = .int kc C) (hL : L = (n : Int)) (hC : C = (n : Int)) (b2 : i.bytes * n ≤ 281474976710656) (b3 : n ≤ maxLen) (b4 : base ≤ w.heap.size)
    (hK : ∀ w', w'.ownsRow base e size (.slice (some ⟨w.heap.size, 0, none⟩) n n) n (madeCells z.cells (n * size)).toList → w.grownBy w' none → K (a.put o.dst (.slice (some ⟨w.heap.size, 0, none⟩) n n)) w') :
    if Region.wanted o (yielded ops a.tmps) = true then Oper.wp P o a w K Q else E := by
  have hw : Region.wanted o (yielded ops a.tmps) = true := by simp [Region.wanted, hg]
  rw [if_pos hw]
  obtain ⟨w', hrun, r1, r2⟩ := run_make_full (P := P) w base t e i z size h1 h2 h3 h4 kl kc n b2 b3 b4
  subst hL
  subst hC
  unfold Oper.wp
  simp [execOp, hop, hl, hc, hrun, Result.andThen]
  exact hK w' r1 r2

end Go.Proofs.Ytafnmongglhlaaa

namespace Go.Proofs.Ytafnmongglhlaaa
open Go.RowKit

attribute [local go_sem] Oper.semAt_some

set_option maxRecDepth 100000 in
set_option maxHeartbeats 4000000 in
/-- **newTransfer** at arguments that are not valid. -/
theorem newT_no (a : Option Addr) (len cap : Nat) (ps : List Pl) (al : Option Addr) (n cl : Nat) (lots : List Int) (s : Int) (w : World) (h : IsPiles w a len cap ps) (hs : Small ps) (hl : IsInts w al n cl lots) (hv : transB ps lots s = false) :
    Calls Try.prog 76 #[.slice a len cap, .slice al n cl, .int .i64 s] w fun e w' => e = .returned (.tuple #[.pointer none, .bool false]) ∧ Below w.heap.size w w' := by
  have HI := Lib.hid h
  have HS := Lib.hid hs
  have HL := Lib.hid hl
  have HL1 := Lib.hid hl.1
  have HV := Lib.hid hv
  clear h hs hl hv
  cases h1 : lotsB lots
  · have H1 := Lib.hid h1; clear h1
    go_enter Try.func76, Try.ntmps76
    go_wp2_with fail
    refine (implLots_as _ _ _ lots false _ HL.out H1.out).mono ?_
    rintro e w1 ⟨rfl, hb⟩
    go_wp2
    go_ret2
    exact ⟨rfl, hb⟩
  · have H1 := Lib.hid h1
    cases h2 : fitsB ps (n : Int)
    · have H2 := Lib.hid h2; clear h1 h2
      go_enter Try.func76, Try.ntmps76
      go_wp2_with fail
      refine (implLots_as _ _ _ lots true _ HL.out H1.out).mono ?_
      rintro e w1 ⟨rfl, hb⟩
      have B1 := Lib.hid hb
      clear hb
      go_wp2_with fail
      refine (implFits_as _ _ _ ps (n : Int) false _ (HI.out.below B1.out) HS.out H2.out).mono ?_
      rintro e w2 ⟨rfl, hb⟩
      have B2 := Lib.hid (below_on B1.out hb)
      clear hb
      go_wp2
      go_ret2
      exact ⟨rfl, B2.out⟩
    · have H2 := Lib.hid h2
      by_cases h3 : (n : Int) < s
      · have h3d : decide ((n : Int) < s) = true := decide_eq_true h3
        clear h1 h2
        go_enter Try.func76, Try.ntmps76
        go_wp2_with fail
        refine (implLots_as _ _ _ lots true _ HL.out H1.out).mono ?_
        rintro e w1 ⟨rfl, hb⟩
        have B1 := Lib.hid hb
        clear hb
        go_wp2_with fail
        refine (implFits_as _ _ _ ps (n : Int) true _ (HI.out.below B1.out) HS.out H2.out).mono ?_
        rintro e w2 ⟨rfl, hb⟩
        have B2 := Lib.hid (below_on B1.out hb)
        clear hb
        go_wp2
        go_ret2
        exact ⟨rfl, B2.out⟩
      · have h3d : decide ((n : Int) < s) = false := decide_eq_false h3
        have hp := (fits_parts h2).1
        have hq : quoR (sumL ps) s = -1 := by
          refine quoR_no ?_
          have h5 := HV.out
          unfold transB at h5
          rw [h1, HL1.out, h2] at h5
          unfold quoB
          have h0 := sumL_low (pilesB_pos hp).2.1
          simp only [Bool.true_and, Bool.and_eq_false_iff, decide_eq_false_iff_not, inB] at h5 ⊢
          omega
        obtain ⟨tl, htl⟩ : ∃ tl, totalL ps = tl := ⟨_, rfl⟩
        have htl2 : sumL ps = tl := by rw [← htl]; unfold totalL; rw [if_pos hp]
        rw [htl2] at hq
        have HTL := Lib.hid htl
        have HQ := Lib.hid hq
        clear h1 h2 hp hq htl htl2
        go_enter Try.func76, Try.ntmps76
        go_wp2_with fail
        refine (implLots_as _ _ _ lots true _ HL.out H1.out).mono ?_
        rintro e w1 ⟨rfl, hb⟩
        have B1 := Lib.hid hb
        clear hb
        go_wp2_with fail
        refine (implFits_as _ _ _ ps (n : Int) true _ (HI.out.below B1.out) HS.out H2.out).mono ?_
        rintro e w2 ⟨rfl, hb⟩
        have B2 := Lib.hid (below_on B1.out hb)
        clear hb
        go_wp2_with fail
        refine (implTotal_as _ _ _ ps _ _ (HI.out.below B2.out) HS.out HTL.out).mono ?_
        rintro e w3 ⟨rfl, hb⟩
        have B3 := Lib.hid (below_on B2.out hb)
        clear hb
        go_wp2_with fail
        refine (implQuota_as _ _ _ _ HQ.out).mono ?_
        rintro e w4 ⟨rfl, rfl⟩
        go_wp2
        go_ret2
        exact ⟨rfl, B3.out⟩

/-- A transfer with no pile yet, made out of nothing that was there. -/
def NewT (w0 : World) (base : Nat) (ps : List Pl) (lots : List Int) (q : Int) (S : TfS) (v : Value) (w' : World) : Prop :=
  ∃ T R, v = .pointer (some ⟨T, 0, none⟩) ∧ Hid (TS w' base T R ps lots q S 0) ∧ Hid (Below w0.heap.size w0 w')
theorem ptr_info' : (Try.prog.info? 143).map (fun i => (i.zero, i.size, i.bytes)) = some (some (.pointer none), 1, 8) := by kernel_rfl
theorem newT_at {w0 w : World} {base n cg gs cs gg : Nat} {ps : List Pl} {lots : List Int} {q : Int} {s : Nat} (hn : lots.length = n) (hl : lotsB lots = true) (hb0 : base ≤ w0.heap.size) (hB : Below w0.heap.size w0 w)
    (h1 : w.ownsRow base 3 1 (.slice (some ⟨gs, 0, none⟩) n cs) n (lots.map (Value.int .i64))) (h2 : w.ownsRow base 4 1 (.slice (some ⟨gg, 0, none⟩) n cg) n ((List.replicate n false).map Value.bool)) :
    NewT w0 base ps lots q (tfStart ps n s) (.pointer (some ⟨w.heap.size, 0, none⟩)) (w.alloc (.cells #[.slice none 0 0, .slice (some ⟨gs, 0, none⟩) n cs, .slice (some ⟨gg, 0, none⟩) n cg, .int .i64 (s : Int), .int .i64 q] 115)) := by
  subst hn
  have hs := hB.size
  have hbx : Below w.heap.size w (w.alloc (.cells #[.slice none 0 0, .slice (some ⟨gs, 0, none⟩) lots.length cs, .slice (some ⟨gg, 0, none⟩) lots.length cg, .int .i64 (s : Int), .int .i64 q] 115)) := (Below.refl _ _).alloc (Nat.le_refl _) _
  have ht : thereL lots (tfG (tfStart ps lots.length s).gs) = lots := there_start hl
  refine ⟨w.heap.size, ⟨none, 0, gs, cs, gg, cg, fun _ => 0, fun _ => none, fun _ => 0⟩, rfl, ⟨?_, ?_, ?_, ?_, ?_, ⟨fun j hj => by omega, fun j hj => by omega, fun j hj => by omega, fun i j hi => by omega⟩⟩, below_on hB hbx⟩
  · rw [ht]; exact blk_new _ _
  · omega
  · exact ⟨rfl, .inl ⟨rfl, rfl⟩⟩
  · rw [ht]; exact owns_under h1 hbx
  · exact owns_under h2 hbx
theorem upon_make {P : Program} {o : Oper} {a : Act} {w : World} {K : Act → World → Prop} {Q : Exit → Act → World → Prop} (t : TypeId) (base : Nat) (e : TypeId) (i : TypeInfo) (z : Value) (size : Nat) (h1 : P.underlying t = some (.slice e)) (h2 : P.info? e = some i) (h3 : i.zero = some z) (h4 : i.size = size)
    (kl kc : IntKind) (n : Nat) (b2 : i.bytes * n ≤ 281474976710656) (b3 : n ≤ maxLen) (b4 : base ≤ w.heap.size)
    (hK : ∀ w', w'.ownsRow base e size (.slice (some ⟨w.heap.size, 0, none⟩) n n) n (madeCells z.cells (n * size)).toList → w.grownBy w' none → K (a.put o.dst (.slice (some ⟨w.heap.size, 0, none⟩) n n)) w') :
    Oper.upon P o a K Q ((Sem.run P (Instr.makeSlice t (.int kl (n : Int)) (.int kc (n : Int))) w).andThen fun v w' => Result.ok (Next.value v) w') := by
  obtain ⟨w', hrun, r1, r2⟩ := run_make_full (P := P) w base t e i z size h1 h2 h3 h4 kl kc n b2 b3 b4
  have hrun' : Sem.run P (Instr.makeSlice t (.int kl (n : Int)) (.int kc (n : Int))) w = _ := hrun
  rw [hrun']
  exact hK w' r1 r2
theorem grown_blk {w w' : World} {b n s k : Nat} {e e' : TypeId} {v : Value} {xs : List Value} {cu : Array Value} (h : w.ownsRow b e s v n xs) (hk : w.heap[k]? = some (.cells cu e' (0, 0))) (hne : e ≠ e') (hgr : w.grownBy w' v.ownBlock) : w'.heap[k]? = some (.cells cu e' (0, 0)) := by
  refine (hgr.block k (blk_lt hk) ?_).trans hk
  rcases owns_not_blk h hk hne with q | q
  · rw [q]; intro e2; cases e2
  · intro e2; exact q e2.symm
theorem tfStart_w {ps : List Pl} {n s i : Nat} (h : i < ps.length) : tfW (tfStart ps n s).ws i = (1, 1) := by simp [tfStart, tfW, h]

set_option maxRecDepth 100000 in
set_option maxHeartbeats 8000000 in
/-- **newTransfer** at valid arguments. -/
theorem newT_yes (a : Option Addr) (len cap : Nat) (ps : List Pl) (al : Option Addr) (n cl : Nat) (lots : List Int) (s : Nat) (w : World) (h : IsPiles w a len cap ps) (hs : Small ps) (hl : IsInts w al n cl lots) (hv : transB ps lots (s : Int) = true) :
    Calls Try.prog 76 #[.slice a len cap, .slice al n cl, .int .i64 (s : Int)] w fun e w' => ∃ T R, e = .returned (.tuple #[.pointer (some ⟨T, 0, none⟩), .bool true]) ∧ TS w' w.heap.size T R ps lots (quoR (sumL ps) (s : Int)) (tfStart ps n s) ps.length ∧ Below w.heap.size w w' := by
  obtain ⟨i0, hi, hz0, hz1, hz2⟩ := info_parts ptr_info'
  obtain ⟨ib, hib, hb0, hb1, hb2⟩ := info_parts bool_info
  obtain ⟨h1, h2, h3, h4, h5⟩ := (transB_iff ps lots (s : Int)).1 hv
  obtain ⟨G, hG⟩ : ∃ G, w.heap.size = G := ⟨_, rfl⟩
  have HI := Lib.hid h
  have HS := Lib.hid hs
  have HL := Lib.hid hl
  have hnl := hl.1
  have HL1 := Lib.hid hl.1
  have HIL := Lib.hid h.1
  have HV := Lib.hid hv
  have H1 := Lib.hid h1
  rw [hnl] at h2 h4
  have hn15 := lotsB_len h1
  have H2 := Lib.hid h2
  have h3d : decide ((n : Int) < (s : Int)) = false := decide_eq_false (by omega)
  have hp := (fits_parts h2).1
  have hl12 : len ≤ 12 := by have := (pilesB_pos hp).2.2.2.2; rw [h.1] at this; exact this
  have hlm := h.2.2.1
  obtain ⟨tl, htl⟩ : ∃ tl, totalL ps = tl := ⟨_, rfl⟩
  have htl2 : sumL ps = tl := by rw [← htl]; unfold totalL; rw [if_pos hp]
  have h0 := sumL_low (pilesB_pos hp).2.1
  have hqr := quoR_range (t := sumL ps) (s := (s : Int)) ((quoB_iff _ _).2 ⟨⟨h0, h5⟩, h3⟩)
  rw [htl2] at hqr ⊢
  obtain ⟨q, hq⟩ : ∃ q, quoR tl (s : Int) = q := ⟨_, rfl⟩
  rw [hq] at hqr ⊢
  have hq1 : (q == -1) = false := beq_eq_false_iff_ne.2 (by omega)
  have HTL := Lib.hid htl
  have HQ := Lib.hid hq
  have HP := Lib.hid hp
  clear h hs hl hv h1 h2 hp htl htl2 h0 hq h5
  go_enter Try.func76, Try.ntmps76
  go_wp2_with fail
  refine (implLots_as _ _ _ lots true _ HL.out H1.out).mono ?_
  rintro e w1 ⟨rfl, hb⟩
  have B1 := Lib.hid hb
  clear hb
  go_wp2_with fail
  refine (implFits_as _ _ _ ps (n : Int) true _ (HI.out.below B1.out) HS.out H2.out).mono ?_
  rintro e w2 ⟨rfl, hb⟩
  have B2 := Lib.hid (below_on B1.out hb)
  clear hb
  go_wp2_with fail
  refine (implTotal_as _ _ _ ps _ _ (HI.out.below B2.out) HS.out HTL.out).mono ?_
  rintro e w3 ⟨rfl, hb⟩
  have B3 := Lib.hid (below_on B2.out hb)
  clear hb
  go_wp2_with fail
  refine (implQuota_as _ _ _ _ HQ.out).mono ?_
  rintro e w4 ⟨rfl, rfl⟩
  clear B1 B2
  rename World => w4
  go_upto_region 7 with fail
  have hG4 : G ≤ w4.heap.size := by have := B3.out.size; omega
  have L4 := Lib.hid (HL.out.below B3.out)
  have D4 : Below w4.heap.size w4 w4.drew := (Below.refl _ _).drew
  go_cut [10] from 35 to 42 (fun s10 wx => NewT w4 G ps lots q (tfStart ps n s) s10 wx)
  case first =>
    go_region_with (first
      | (go_at_call 109; refine (clone_as al n cl lots _ (by first | exact LM.out | exact L4.out.below D4) (by omega)).mono ?_; rintro e w6 ⟨g6, c6, rfl, ho6, hb6⟩; (first | (have B6 := Lib.hid (below_on BM.out hb6); have O6 := Lib.hid (World.ownsRow.mono ho6 (show G ≤ _ by have := BM.out.size; omega)); have OG6 := Lib.hid (owns_under OM.out hb6)) | (have O6 := Lib.hid (World.ownsRow.mono ho6 (show G ≤ w4.drew.heap.size from hG4)); have B6 := Lib.hid (below_on D4 hb6))); clear ho6 hb6)
      | (refine upon_make 113 G 4 ib (.bool false) 1 Try.underlying113 hib hb0 hb1 .i64 .i64 n (by rw [hb2]; omega) (by unfold maxLen; omega) (by first | exact (show G ≤ w4.drew.heap.size from hG4) | (have := B6.out.size; omega)) ?_; intro w5 hown hgrow; rw [falses_are] at hown; have hbM := (Below.refl _ _).grown hgrow (Nat.le_refl _) (fun k e => by cases e); have OM := Lib.hid hown; (first | (have BM := Lib.hid (below_on B6.out hbM); have O5 := Lib.hid (owns_under O6.out hbM)) | (have BM := Lib.hid (below_on D4 hbM); have LM := Lib.hid (L4.out.below BM.out))); clear hown hgrow hbM))
    all_goals
      go_wp2_with fail
      go_meet
      first
        | exact newT_at HL1.out H1.out hG4 BM.out O5.out OM.out
        | exact newT_at HL1.out H1.out hG4 B6.out O6.out OG6.out
  case rest =>
  obtain ⟨T, R0, rfl, hT, hBx⟩ := hcut
  have B4 : Hid (Below G w _) := Lib.hid (hG ▸ below_on B3.out hBx.out)
  clear hBx B3 L4 D4 hG4
  clear w4
  rename World => w5
  go_wp2
  go_loopw [12, 45] (fun _ iv wr => ∃ (i : Nat) (R : TR), i ≤ len ∧ iv = .int .i64 (i : Int) ∧ Hid (TS wr G T R ps lots q (tfStart ps n s) i) ∧ Hid (Below G w wr)) (fun _ iv _ => len - (intOf iv).toNat)
  case atStart => exact ⟨0, R0, Nat.zero_le _, rfl, hT, B4⟩
  case round =>
    clear hT B4
    obtain ⟨i, R, hil, rfl, hTS, hB⟩ := hrel
    have hBw : Below w.heap.size w wr := hG.symm ▸ hB.out
    by_cases hlt : i < len
    · obtain ⟨b, off, rfl, hb, c0, c1⟩ := (HI.out.below hBw).at_text hlt
      obtain ⟨t, ht⟩ : ∃ t, tAt ps i = t := ⟨_, rfl⟩
      obtain ⟨m, hm⟩ : ∃ m, mAt ps i = m := ⟨_, rfl⟩
      obtain ⟨pl, hpl⟩ : ∃ pl, parseL t = pl := ⟨_, rfl⟩
      have hst : t.size ≤ 1048600 := by rw [← ht]; exact HS.out i
      have HOK : Hid (validB (nums t) 5 = true) := by
        have := (pilesB_pos HP.out).2.2.2.1 _ (pile_mem (ps := ps) (k := i) (by rw [HIL.out]; exact hlt))
        unfold Hid; rw [← ht]; exact this
      rw [ht] at c0
      rw [hm] at c1
      have HT := Lib.hid ht
      have HM := Lib.hid hm
      have HPL := Lib.hid hpl
      obtain ⟨W, hW⟩ : ∃ W, wr.alloc (.cells #[.string t, .int .i64 m] 49) = W := ⟨_, rfl⟩
      have hrW : Below wr.heap.size wr W := by rw [← hW]; exact (Below.refl _ _).alloc (Nat.le_refl _) _
      have TW := Lib.hid (hTS.out.under hrW)
      have BW := Lib.hid (hB.out.trans (hrW.mono (by have := hBw.size; omega)))
      have e0 : W.cell? ⟨wr.heap.size, 0, none⟩ = some (.string t) := by rw [← hW]; exact World.cell?_alloc_new wr _ _ 0
      have e1 : W.cell? ⟨wr.heap.size, 1, none⟩ = some (.int .i64 m) := by rw [← hW]; exact World.cell?_alloc_new wr _ _ 1
      have e2 : W.cell? ⟨T, 0, none⟩ = some (.slice R.ap i R.cp) := blk_cell TW.out.blk 0
      have hwW : wr.heap.size < W.heap.size := by rw [← hW]; simp
      have hTW := blk_lt TW.out.blk
      have hGW : G ≤ W.heap.size := by have := hBw.size; omega
      have hgsW := (TW.out.stay.lt R.gs rfl).2
      clear ht hm hpl hrW hTS hB hBw
      have NP : Calls Try.prog 110 #[.agg #[.string t, .int .i64 m]] W.drew fun e w5 => ∃ g ga gc, e = .returned (.pointer (some ⟨g, 0, none⟩)) ∧ Hid (TS (w5.alloc (.cells #[.pointer (some ⟨g, 0, none⟩)] 143)) G T R ps lots q (tfStart ps n s) i) ∧ Hid ((w5.alloc (.cells #[.pointer (some ⟨g, 0, none⟩)] 143)).heap[g]? = some (.cells (pileC ga pl.length gc m (1, 1)) 158 (0, 0))) ∧
          Hid ((w5.alloc (.cells #[.pointer (some ⟨g, 0, none⟩)] 143)).ownsRow (R.gs + 1) 3 1 (.slice ga pl.length gc) pl.length (pl.map (Value.int .i64))) ∧ Hid (Below W.heap.size W (w5.alloc (.cells #[.pointer (some ⟨g, 0, none⟩)] 143))) ∧ (w5.cell? ⟨T, 0, none⟩ = some (.slice R.ap i R.cp) ∧ w5.cell? ⟨wr.heap.size, 0, none⟩ = some (.string t) ∧ w5.cell? ⟨wr.heap.size, 1, none⟩ = some (.int .i64 m)) ∧ (w5.alloc (.cells #[.pointer (some ⟨g, 0, none⟩)] 143)).cell? ⟨T, 0, none⟩ = some (.slice R.ap i R.cp) ∧ (w5.alloc (.cells #[.pointer (some ⟨g, 0, none⟩)] 143)).cell? ⟨w5.heap.size, 0, none⟩ = some (.pointer (some ⟨g, 0, none⟩)) ∧ Hid (W.heap.size ≤ g) ∧ Hid (G ≤ (w5.alloc (.cells #[.pointer (some ⟨g, 0, none⟩)] 143)).heap.size) := by
        refine (newPile_as t m pl _ hst HPL.out HOK.out).mono ?_
        rintro e w5 ⟨g, ga, gc, rfl, hg5, ho5, hgs5, hb5⟩
        have b5 : Below W.heap.size W w5 := (Below.refl _ W).drew.trans hb5
        have ba := (Below.refl w5.heap.size w5).alloc (Nat.le_refl _) (.cells #[.pointer (some ⟨g, 0, none⟩)] 143)
        have bw := below_on b5 ba
        have hs5 := bw.size
        exact ⟨g, ga, gc, rfl, (TW.out.under b5).under ba, blk_under hg5 ba, owns_under (World.ownsRow.mono ho5 (show R.gs + 1 ≤ W.heap.size by omega)) ba, bw,
          ⟨(b5.cell (p := ⟨T, 0, none⟩) hTW).trans e2, (b5.cell (p := ⟨wr.heap.size, 0, none⟩) hwW).trans e0, (b5.cell (p := ⟨wr.heap.size, 1, none⟩) hwW).trans e1⟩, (ba.cell (p := ⟨T, 0, none⟩) (Nat.lt_of_lt_of_le hTW b5.size)).trans ((b5.cell (p := ⟨T, 0, none⟩) hTW).trans e2), World.cell?_alloc_new w5 _ _ 0, hgs5, by unfold Hid; omega⟩
      have HNP := Lib.hid NP
      clear NP
      go_wp2_with fail
      go_region_law (first
          | (go_simp; go_at_call 110; refine HNP.out.mono ?_; rintro e w5 ⟨g, ga, gc, rfl, T5, G5, OB5, BW5, ⟨d2, d0, d1⟩, f2, CP, HGG, HG5⟩; have OP := Lib.hid T5.out.piles)
          | (refine step_append_own (by rfl) _ _ _ (by rfl) G 143 i0 (.pointer none) 1 8 Try.underlying112 hi hz0 hz1 hz2 rfl Nat.one_pos (.slice R.ap i R.cp) i (ptrs R.B (List.range i)) (by rfl) OP.out ⟨w5.heap.size, 0, none⟩ 1 _ [.pointer (some ⟨g, 0, none⟩)] (by rfl) (by simp) (one_cell CP) (by simp [Value.oneCell']) (by unfold maxLen; omega) (by omega) HG5.out ?_; intro v6 w6 hown6 hgr6 _; obtain ⟨a6, c6, rfl⟩ := owns_slice hown6; have T6 := grown_blk OP.out T5.out.blk (by decide) hgr6; have h0 : w6.cell? ⟨T, 0, none⟩ = some (.slice R.ap i R.cp) := blk_cell T6 0; have h9 : w6.frozen? ⟨T, 0, none⟩ = false := blk_frozen T6 0; have O6 := Lib.hid hown6; have GR6 := Lib.hid hgr6; clear hown6 hgr6))
      all_goals
        have hgw : W.heap.size ≤ g := HGG.out
        have hPU := Lib.hid (T5.out.push (g := g) (c := gc) (c' := c6) (a := ga) (a' := a6) (w' := w6) (by rw [HT.out, HPL.out, HM.out, tfStart_w (by rw [HIL.out]; exact hlt)]; exact G5.out) (by omega) (fun j hj e => by have := blk_lt (TW.out.pm.pile j hj); omega) (by rw [HT.out, HPL.out]; exact OB5.out) O6.out GR6.out)
        have hB9 : Hid (Below G w (w6.setCell ⟨T, 0, none⟩ (.slice a6 (i + 1) c6))) := ((BW.out.trans (BW5.out.mono hGW)).grown GR6.out HG5.out (fun k e => (OP.out.lt k e).1)).setCell (p := ⟨T, 0, none⟩) T5.out.low _
        clear T5 G5 OB5 BW5 OP O6 GR6 hgw HGG HNP
        go_wp2
        go_roundw
        case rel => exact ⟨i + 1, _, by omega, by go_num, hPU, hB9⟩
        case measure => simp [intOf]; omega
    · obtain rfl : i = len := by omega
      have HTZ : Hid (TS wr G T R ps lots q (tfStart ps n s) ps.length) := by rw [HIL.out]; exact hTS
      clear hTS
      go_wp2
      go_ret2
      exact ⟨T, R, rfl, hG ▸ HTZ.out, hBw⟩

end Go.Proofs.Ytafnmongglhlaaa
