/-
  spec.l15Steps: all steps of valid arguments, in memory of its own; it writes into no memory that was there.
  spec.LotsValid, spec.LotsFirst and spec.LotsSeal: what they answer at every list of at most 1048600 ints, every list of bools and every number; they write nothing.
-/
import Derived.Test.YtafnmongglhlaaaGrp18
import Derived.Test.YtafnmongglhlaaaGrp17
import Derived.Test.YtafnmongglhlaaaGrp6
import Derived.Test.YtafnmongglhlaaaGrp16
import Derived.Test.YtafnmongglhlaaaGrp3
import Derived.Test.YtafnmongglhlaaaGrp1
namespace Go.Proofs.Ytafnmongglhlaaa
open Go.RowKit

attribute [local go_sem] Oper.semAt_some

theorem step_info : (Try.prog.info? 35).map (fun i => (i.zero, i.size, i.bytes)) = some (some (.agg #[.slice none 0 0, .int .i64 0, .int .i64 0]), 3, 40) := by kernel_rfl
theorem falses_are (n : Nat) : (madeCells (Value.bool false).cells (n * 1)).toList = (List.replicate n false).map Value.bool := by
  rw [show (Value.bool false).cells = #[.bool false] from rfl, toList_madeCells_one]; simp
theorem bools_set (l : List Bool) (i : Nat) (z : Bool) : (l.map Value.bool).set i (.bool z) = (l.set i z).map Value.bool := by rw [List.map_set]
theorem leftN_range (gs : List Bool) : leftN gs = ((List.range gs.length).filter fun i => !(gs[i]?.getD false)).length := by
  have h : ∀ k, k ≤ gs.length → leftN (gs.take k) = ((List.range k).filter fun i => !(gs[i]?.getD false)).length := by
    intro k
    induction k with
    | zero => intro _; rfl
    | succ k ih =>
      intro hk
      rw [leftN_take (by omega), ih (by omega), List.range_succ, List.filter_append, List.length_append]
      congr 1
      cases e : gs[k]?.getD false <;> simp [e]
  have := h gs.length (Nat.le_refl _)
  rwa [List.take_length] at this
/-- How many are still there, told by the lots. -/
theorem left_there {lots : List Int} {gs : List Bool} (hl : lotsB lots = true) (hg : gs.length = lots.length) : leftN gs = (thereL lots (tfG gs)).length := by
  have hp : lots.Perm ((List.range gs.length).map fun (i : Nat) => (i : Int)) := by
    refine (List.perm_ext_iff_of_nodup (vB_nodup hl) ?_).2 (fun z => ⟨fun hz => ?_, fun hz => ?_⟩)
    · rw [List.Nodup, List.pairwise_map]
      exact List.nodup_range.imp (fun h e => h (by omega))
    · have := (vB_mem hl).2.2 z hz
      exact List.mem_map.2 ⟨z.toNat, List.mem_range.2 (by omega), by omega⟩
    · obtain ⟨i, hi, rfl⟩ := List.mem_map.1 hz
      exact lots_mem hl (by rw [← hg]; exact List.mem_range.1 hi)
  rw [leftN_range]
  unfold thereL
  rw [(hp.filter _).length_eq, List.filter_map, List.length_map]
  refine congrArg List.length (List.filter_congr (fun i _ => ?_))
  show _ = !tfG gs (i : Int)
  rw [tfG_at]
theorem tfWeigh_is (ps : List Pl) (ws : List Fr) (gs : List Bool) (who : Int) (c : Fr) (q : Int) : tfWeigh ps ws gs who c q = tfWghs ps ws gs who c q ps.length := rfl
theorem three_cells (w : World) (a : Option Addr) (n c : Nat) (x y : Int) (T : TypeId) : ∀ j u, [Value.slice a n c, .int .i64 x, .int .i64 y][j]? = some u → (w.alloc (.cells #[.slice a n c, .int .i64 x, .int .i64 y] T)).cell? ((⟨w.heap.size, 0, none⟩ : Addr).add j) = some u := lits_new w [.slice a n c, .int .i64 x, .int .i64 y] T
theorem bools_one (zs : List Bool) : ∀ u ∈ zs.map Value.bool, u.oneCell' = true := by
  intro u hu
  obtain ⟨z, _, rfl⟩ := List.mem_map.1 hu
  simp [Value.oneCell']
/-- What stands in a row of bools, read one by one. -/
theorem bools_cells {w : World} {base n g cap : Nat} {zs : List Bool} (h : w.ownsRow base 4 1 (.slice (some ⟨g, 0, none⟩) n cap) n (zs.map Value.bool)) : ∀ j u, (zs.map Value.bool)[j]? = some u → w.cell? ((⟨g, 0, none⟩ : Addr).add j) = some u := h.cells rfl

/-- What a state is in the model's memory. -/
structure OMem (ps : List Pl) (lots : List Int) (q : Int) (n len G : Nat) (all : List TfStp) (W wr : World) (j : Nat) (sv ov gv wv nv : Value) : Prop where
  st : ∃ (S : TfS) (gg cg : Nat) (aw : Option Addr) (cw : Nat) (ao : Option Addr) (co : Nat) (gl : List (Nat × Nat)) (so : List TfStp),
    sv = .int .i64 (S.s : Int) ∧ nv = .int .i64 (j : Int) ∧ gv = .slice (some ⟨gg, 0, none⟩) n cg ∧ wv = .slice aw len cw ∧ ov = .slice ao so.length co ∧
    Hid (wr.ownsRow G 4 1 (.slice (some ⟨gg, 0, none⟩) n cg) n (S.gs.map Value.bool)) ∧
    Hid (wr.ownsRow G 40 2 (.slice aw len cw) len (cellsF S.ws)) ∧
    Hid (OwnSt wr G ao co n gl so) ∧ Hid (TfGood ps lots S) ∧ Hid (so ++ tfRun ps lots q (n - j) S = all) ∧ so.length ≤ j
  le : j ≤ n
  bel : Below G W wr

set_option maxRecDepth 100000 in
set_option maxHeartbeats 8000000 in
/-- **spec.l15Steps**, up to its loop. -/
theorem steps15_as (a : Option Addr) (len cap : Nat) (ps : List Pl) (al : Option Addr) (n cl : Nat) (lots : List Int) (s : Nat) (q : Int) (all : List TfStp) (w : World)
    (h : IsPiles w a len cap ps) (hl : IsInts w al n cl lots) (hA : TfArg ps lots q) (hf : fitsB ps (n : Int) = true) (hss : 1 ≤ s ∧ s ≤ 2 ∧ s ≤ n) (hq : quoR (sumL ps) (s : Int) = q) (hr : tfRun ps lots q n (tfStart ps n s) = all) :
    Calls Try.prog 49 #[.slice a len cap, .slice al n cl, .int .i64 (s : Int)] w fun e w' => ∃ ar cr gl, e = .returned (.slice ar all.length cr) ∧ OwnSt w' w.heap.size ar cr n gl all ∧ Below w.heap.size w w' := by
  obtain ⟨i0, hi, hz0, hz1, hz2⟩ := info_parts frac_info
  obtain ⟨ib, hib, hb0, hb1, hb2⟩ := info_parts bool_info
  obtain ⟨is, his, ht0, ht1, ht2⟩ := info_parts step_info
  obtain ⟨G, hG⟩ : ∃ G, w.heap.size = G := ⟨_, rfl⟩
  obtain ⟨hp, hn1, hn5, hval⟩ := fits_parts hf
  have HP := Lib.hid hp
  have HI := Lib.hid h
  have HL := Lib.hid hl
  have H1 := Lib.hid h.1
  have HL1 := Lib.hid hl.1
  have HA := Lib.hid hA
  have HF := Lib.hid hf
  have HR := Lib.hid hr
  have hlm := h.2.2.1
  have hl12 : len ≤ 12 := by have := (pilesB_pos hp).2.2.2.2; rw [h.1] at this; exact this
  have hmv : ∀ i, 0 ≤ mAt ps i ∧ mAt ps i ≤ 1000000 := fun i => by have := mAt_valid hp i; omega
  have HMV := Lib.hid hmv
  have hsum := hA.sum
  have hsum0 : 0 ≤ sumL ps := by
    have := tfM_mono hA.ones ps.length 0 (Nat.zero_le _)
    rw [tfM_all] at this
    have e : tfM ps 0 = 0 := rfl
    omega
  have hqb : quoB (sumL ps) (s : Int) = true := (quoB_iff _ _).2 (by omega)
  have hqv : sumL ps / ((s : Int) + 1) + 1 = q := by rw [← quoR_yes hqb, hq]
  obtain ⟨T, hT⟩ : ∃ T, sumL ps = T := ⟨_, rfl⟩
  rw [hT] at hsum hsum0 hqv
  have hzs : ((s : Int) + 1 == 0) = false := beq_eq_false_iff_ne.2 (by omega)
  have hdv : T.tdiv ((s : Int) + 1) = T / ((s : Int) + 1) := Int.tdiv_eq_ediv_of_nonneg (by omega)
  have hq61 := hA.qtop
  have hq1 := hA.qpos
  obtain ⟨d, hde⟩ : ∃ d, T / ((s : Int) + 1) = d := ⟨_, rfl⟩
  rw [hde] at hdv hqv
  have hwd : IntKind.i64.wrap d = d := IntWalk.i64_in _ (by omega)
  have HT := Lib.hid hT
  clear h hl hA hf hr hp hval hmv hq hqb hde hT
  go_enter Try.func49, Try.ntmps49
  have O0 : Hid ((w.alloc (.cells #[] 35)).ownsRow G 35 3 (.slice (some ⟨w.heap.size, 0, none⟩) 0 0) 0 []) := World.ownsRow_lit (base := G) (e := 35) (size := 3) w #[] 0 (by omega) (by unfold maxLen; omega) rfl
  rw [hG] at O0
  have B0 : Below G w (w.alloc (.cells #[] 35)) := (Below.refl _ w).alloc (by omega) _
  go_wp2_with (at_make; refine wpList_make_full _ rfl _ _ 113 rfl G 4 ib (.bool false) 1 Try.underlying113 hib hb0 hb1 .i64 .i64 _ _ n rfl rfl rfl rfl (by rw [hb2]; omega) (by unfold maxLen; omega) (by simp; omega) ?_; intro w3 hown hgrow)
  have e1 : (w.alloc (.cells #[] 35)).heap.size = G + 1 := by simp; omega
  rw [falses_are, e1] at hown
  have OG3 := Lib.hid hown
  have OS3 := Lib.hid (O0.out.kept hgrow (by simp [Value.ownBlock]))
  have B3 : Below G w w3 := B0.grown hgrow (by omega) (fun k e => by cases e)
  have hB3s : G ≤ w3.heap.size := by have := B3.size; omega
  have OW3 : Hid ((w3.alloc (.cells #[] 40)).ownsRow G 40 2 (.slice (some ⟨w3.heap.size, 0, none⟩) 0 0) 0 (cellsF (List.replicate 0 (1, 1)))) := World.ownsRow_lit (base := G) (e := 40) (size := 2) w3 #[] 0 hB3s (by unfold maxLen; omega) rfl
  have B3' : Below G w (w3.alloc (.cells #[] 40)) := B3.alloc hB3s _
  clear hown hgrow O0 B0
  go_loopw [9, 10] (fun wv iv wr => ∃ (k : Nat) (aw : Option Addr) (cw : Nat), k ≤ len ∧ iv = .int .i64 (k : Int) ∧ wv = .slice aw k cw ∧ Hid (wr.ownsRow G 40 2 (.slice aw k cw) k (cellsF (List.replicate k (1, 1)))) ∧
    Hid (wr.ownsRow G 4 1 (.slice (some ⟨G + 1, 0, none⟩) n n) n ((List.replicate n false).map Value.bool)) ∧ Hid (wr.ownsRow G 35 3 (.slice (some ⟨G, 0, none⟩) 0 0) 0 []) ∧ Below G w wr) (fun _ iv _ => len - (intOf iv).toNat)
  case atStart => exact ⟨0, _, _, Nat.zero_le _, rfl, rfl, OW3, Lib.hid (OG3.out.alloc _), Lib.hid (OS3.out.alloc _), B3'⟩
  case round =>
    clear OW3 OG3 OS3 B3 B3'
    obtain ⟨k, aw, cw, hk, rfl, rfl, hO, hg, hs, hB⟩ := hrel
    have hBs : G ≤ wr.heap.size := by have := hB.size; omega
    have hBw : Below w.heap.size w wr := hG.symm ▸ hB
    by_cases hlt : k < len
    · go_wp2_with (at_builtin; refine wpList_append_own _ rfl _ _ 33 rfl G 40 i0 (.agg #[.int .i64 0, .int .i64 0]) 2 16 Try.underlying33 hi hz0 hz1 hz2 rfl Nat.two_pos _ _ _ rfl (hO.out.alloc _) ⟨wr.heap.size, 0, none⟩ 1 1 [.int .i64 1, .int .i64 1] rfl rfl (lits_new _ _ _) (by simp [Value.oneCell']) (by unfold maxLen; omega) (by omega) (by simp; omega) ?_; intro v' w4 hown' hgrow _; obtain ⟨a4, c4, rfl⟩ := owns_slice hown')
      have hB4 : Below G w w4 := (hB.alloc (by omega) (.cells #[.int .i64 1, .int .i64 1] 40)).grown hgrow (by simp; omega) (fun j e => (hO.out.lt j e).1)
      have hO4 : Hid (w4.ownsRow G 40 2 (.slice a4 (k + 1) c4) (k + 1) (cellsF (List.replicate (k + 1) (1, 1)))) := by
        unfold Hid; rw [← repl_snoc, cellsF_app]; exact hown'
      have hg4 := Lib.hid ((hg.out.alloc _).kept hgrow (owns_apart (by decide) (hg.out.alloc _) (hO.out.alloc (.cells #[.int .i64 1, .int .i64 1] 40))))
      have hs4 := Lib.hid ((hs.out.alloc _).kept hgrow (owns_apart (by decide) (hs.out.alloc _) (hO.out.alloc (.cells #[.int .i64 1, .int .i64 1] 40))))
      clear hown' hgrow hO hg hs
      go_wp2
      go_roundw
      case rel => exact ⟨k + 1, a4, c4, by omega, by go_num, rfl, hO4, hg4, hs4, hB4⟩
      case measure => simp [intOf]; omega
    · obtain rfl : k = len := by omega
      have S0 : OMem ps lots q n k G all w wr 0 (.int .i64 (s : Int)) (.slice (some ⟨G, 0, none⟩) 0 0) (.slice (some ⟨G + 1, 0, none⟩) n n) (.slice aw k cw) (.int .i64 0) := by
        refine ⟨⟨tfStart ps n s, G + 1, n, aw, cw, some ⟨G, 0, none⟩, 0, [], [], rfl, rfl, rfl, rfl, rfl, hg, ?_, Lib.hid (OwnSt.start hs.out), ?_, ?_, Nat.le_refl _⟩, Nat.zero_le _, hB⟩
        · have e : (tfStart ps n s).ws = List.replicate k (1, 1) := by show List.replicate ps.length (1, 1) = _; rw [H1.out]
          rw [e]; exact hO
        · have := tf_start HA.out (s := s) hss.2.1 (by rw [HL1.out]; exact hss.2.2)
          rw [HL1.out] at this; exact this
        · exact HR.out
      have HS0 := Lib.hid S0
      clear hO hg hs S0
      rename World => wa
      go_wp2_with fail
      refine (l3Total_any _ _ _ ps _ (HI.out.below hBw) HMV.out).mono ?_
      rintro e w4 ⟨rfl, rfl⟩
      rw [HT.out]
      clear hBw
      go_wp2
      go_loopw [2, 7, 8, 9, 12, 13, 14, 15, 59, 80] (fun sv ov gv wv nv _ _ _ _ _ wr => ∃ j : Nat, OMem ps lots q n k G all w wr j sv ov gv wv nv) (fun _ _ _ _ nv _ _ _ _ _ _ => n - (intOf nv).toNat)
      case atStart => exact ⟨0, HS0.out⟩
      case round =>
        clear HS0 hB hBs
        obtain ⟨j, ⟨⟨S, gg, cg, aw, cw, ao, co, gl, so, rfl, rfl, rfl, rfl, rfl, hgo, hwt, ho, hgood, hall, hsl⟩, hj, hB⟩⟩ := hrel
        have hBs : G ≤ wr.heap.size := by have := hB.size; omega
        have hBw : Below w.heap.size w wr := hG.symm ▸ hB
        have hS2 := hgood.out.two
        by_cases hs0 : S.s = 0
        · have HE : Hid (so = all) := by
            unfold Hid; rw [← hall.out, tfRun_zero _ _ _ _ hs0, List.append_nil]
          have hoo := Lib.hid (ho.out.low (base' := w.heap.size) (by omega))
          have hsd : decide (0 < (S.s : Int)) = false := decide_eq_false (by omega)
          clear ho
          by_cases hlt : j < n
          · go_wp2
            go_ret
            rw [← HE.out]
            exact ⟨ao, co, gl, rfl, hoo.out, hBw⟩
          · go_wp2
            go_ret
            rw [← HE.out]
            exact ⟨ao, co, gl, rfl, hoo.out, hBw⟩
        · by_cases hlt : j < n
          · have hS1 : 1 ≤ S.s := by omega
            have hsd : decide (0 < (S.s : Int)) = true := decide_eq_true (by omega)
            obtain ⟨D, hD, -, hwok, hcok⟩ := hgood.out.cnt HA.out hS1
            have HWOK : Hid (∀ i, i < k → TfOkW D (tfW S.ws i)) := fun i hi => hwok i (by rw [H1.out]; exact hi)
            have HCS : Hid (tfCnts ps S.ws S.gs k = S.cs ps) := by unfold Hid TfS.cs; rw [H1.out]
            have HCV : Hid (∀ i, i < n → fracB (fAt (S.cs ps) i) = true) := fun i hi => by
              have h1 := hgood.out.valid HA.out hS1 (z := (i : Int)) (lots_mem HA.out.lots (by rw [HL1.out]; exact hi))
              unfold tfC at h1
              rw [Int.toNat_natCast] at h1
              exact h1
            have HLM : Hid (∀ z ∈ lots, 0 ≤ z ∧ z < (n : Int)) := by unfold Hid; rw [← HL1.out]; exact HA.out.mem
            have HLN : Hid (∀ z ∈ lots, 0 ≤ z) := fun z hz => (HLM.out z hz).1
            have HB1 : Hid (tfOver false (S.cs ps) S.gs (-1) lots = tfBest false (S.cs ps) S.gs lots) := tfOver_start lots HLN.out
            have HB2 : Hid (tfOver true (S.cs ps) S.gs (-1) lots = tfBest true (S.cs ps) S.gs lots) := tfOver_start lots HLN.out
            have HGL : Hid (S.gs.length = n) := by unfold Hid; rw [hgood.out.lg, HL1.out]
            have HLG : Hid ((S.gs.map Value.bool).length = n * 1) := by unfold Hid; rw [List.length_map, HGL.out, Nat.mul_one]
            have hne0 := hgood.out.ne hS1
            have hb1r := HLM.out _ (there_mem.1 (tfBest_mem (least := false) (cs := S.cs ps) hne0)).1
            have hb2r := HLM.out _ (there_mem.1 (tfBest_mem (least := true) (cs := S.cs ps) hne0)).1
            obtain ⟨b1, hb1e⟩ : ∃ b1, tfBest false (S.cs ps) S.gs lots = b1 := ⟨_, rfl⟩
            obtain ⟨b2, hb2e⟩ : ∃ b2, tfBest true (S.cs ps) S.gs lots = b2 := ⟨_, rfl⟩
            have HKI : Hid (S.kind ps lots q = if lessF (tfC (S.cs ps) b1) (q, 1) = true then (if leftN S.gs ≤ S.s then 3 else 2) else 1) := by
              unfold Hid TfS.kind tfKind; rw [hb1e, left_there HA.out.lots hgood.out.lg]
            have HWI : Hid (S.who ps lots q = if S.kind ps lots q = 2 then b2 else b1) := by
              unfold Hid TfS.who tfWho; rw [hb1e, hb2e]; rfl
            obtain ⟨D2, hD2, -, -, hcb⟩ := hgood.out.count HA.out hS1 (z := b1) (by rw [← hb1e]; exact (there_mem.1 (tfBest_mem hne0)).1)
            have hcbd := okc_bound hcb hD2 (by omega)
            rw [hb1e] at hb1r HB1
            rw [hb2e] at hb2r HB2
            obtain ⟨x, rfl⟩ := Int.eq_ofNat_of_zero_le hb1r.1
            obtain ⟨y, rfl⟩ := Int.eq_ofNat_of_zero_le hb2r.1
            have hxn : x < n := by omega
            have hyn : y < n := by omega
            have hcf : tfC (S.cs ps) (x : Int) = fAt (S.cs ps) x := by unfold tfC fAt; rw [Int.toNat_natCast]
            obtain ⟨c1, c2, hce⟩ : ∃ c1 c2, tfC (S.cs ps) (x : Int) = (c1, c2) := ⟨_, _, rfl⟩
            have hcfe : fAt (S.cs ps) x = (c1, c2) := by rw [← hcf, hce]
            rw [hce] at HKI hcbd
            have hcx1 : 0 ≤ c1 ∧ c1 ≤ 3600 := hcbd.1
            have hcx2 : 1 ≤ c2 ∧ c2 ≤ 60 := hcbd.2.1
            obtain ⟨v, hvv⟩ : ∃ v, lessF (c1, c2) (q, 1) = v := ⟨_, rfl⟩
            have HLB : Hid (lessB (c1, c2) (q, 1) = v) := by
              have h1 := HCV.out x hxn
              rw [hcfe] at h1
              have h2 : fracB (q, 1) = true := fracB_of (by show -9999999 ≤ q ∧ q ≤ 9999999; omega) (by show 1 ≤ (1 : Int) ∧ (1 : Int) ≤ 9999999; omega) (by unfold gcdI; simp)
              unfold Hid lessB; rw [h1, h2, hvv]; rfl
            have HCE := Lib.hid hce
            have HCFE := Lib.hid hcfe
            clear hb1e hb2e hcf hcb hcbd hne0 hwok hcok hce hcfe
            have IW := Lib.hid (IsFr.of_owned hwt.out (by omega))
            have IG := Lib.hid (IsBools.of_owned hgo.out (by omega))
            go_wp2_with fail
            refine (counts15_as _ k _ ps _ _ S.ws _ n _ S.gs (S.cs ps) D _ (HI.out.below hBw) IW.out IG.out HF.out (by rw [HT.out]; exact hsum) hD HWOK.out HCS.out).mono ?_
            rintro e w4 ⟨g, c, rfl, hoc, hb4⟩
            have hne : g ∉ gl.map fun x => x.1 := fun hm => by
              have := ho.out.lt _ hm
              have := (hoc.lt g rfl).1
              omega
            have OC4 := Lib.hid (World.ownsRow.mono (base' := G) hoc hBs)
            have OG4 := Lib.hid (owns_under hgo.out hb4)
            have OW4 := Lib.hid (owns_under hwt.out hb4)
            have OS4 := Lib.hid (ho.out.under hb4)
            have B4 : Below G w w4 := hB.trans (hb4.mono hBs)
            clear hoc hb4 hgo hwt ho hB hBs hBw IW IG
            have hB4s : G ≤ w4.heap.size := by have := B4.size; omega
            have B4w : Below w.heap.size w w4 := hG.symm ▸ B4
            go_wp2_with fail
            refine (best15_as _ _ n (S.cs ps) _ _ S.gs _ _ lots false (x : Int) _ (IsFr.of_owned OC4.out (by omega)) (IsBools.of_owned OG4.out (by omega)) (HL.out.below B4w) HLM.out HCV.out HB1.out).mono ?_
            rintro e w5 ⟨rfl, hb5⟩
            have OC5 := Lib.hid (owns_under OC4.out hb5)
            have OG5 := Lib.hid (owns_under OG4.out hb5)
            have OW5 := Lib.hid (owns_under OW4.out hb5)
            have OS5 := Lib.hid (OS4.out.under hb5)
            have B5 : Below G w w5 := B4.trans (hb5.mono hB4s)
            clear OC4 OG4 OW4 OS4 B4 B4w hB4s hb5
            have hB5s : G ≤ w5.heap.size := by have := B5.size; omega
            have IC5 := IsFr.of_owned OC5.out (by omega)
            obtain ⟨gb, go, he, hgb, k0, k1⟩ := IC5.at hxn
            injection he with he
            injection he with he1 he2 _
            subst he1
            subst he2
            rw [HCFE.out] at k0 k1
            rw [Nat.zero_add] at k0 k1
            clear IC5
            have hxi : (x : Int) < (n : Int) := by omega
            go_wp2_with fail
            refine (specFracLess_as c1 c2 q 1 v _ HLB.out).mono ?_
            rintro e w6 ⟨rfl, hb6⟩
            have OC := Lib.hid (owns_under OC5.out hb6)
            have OG := Lib.hid (owns_under OG5.out hb6)
            have OW := Lib.hid (owns_under OW5.out hb6)
            have OS := Lib.hid (OS5.out.under hb6)
            have BZ : Below G w w6 := B5.trans (hb6.mono hB5s)
            have m0 : w6.cell? ⟨g, x * 2, none⟩ = some (.int .i64 c1) := (hb6.cell (p := ⟨g, x * 2, none⟩) hgb).trans k0
            have m1 : w6.cell? ⟨g, x * 2 + 1, none⟩ = some (.int .i64 c2) := (hb6.cell (p := ⟨g, x * 2 + 1, none⟩) hgb).trans k1
            clear OC5 OG5 OW5 OS5 B5 hB5s hb6 k0 k1 hgb
            have hBz : G ≤ w6.heap.size := by have := BZ.size; omega
            have BZw : Below w.heap.size w w6 := hG.symm ▸ BZ
            cases v
            · have HKD : Hid (S.kind ps lots q = 1) := by unfold Hid; rw [HKI.out, hvv]; rfl
              have HWHO : Hid (S.who ps lots q = (x : Int)) := by unfold Hid; rw [HWI.out, HKD.out]; rfl
              have hov : 0 ≤ c1 - q * c2 := by
                have h1 : decide (c1 * 1 < q * c2) = false := hvv
                have := of_decide_eq_false h1
                omega
              have hqc : 1 * 1 ≤ q * c2 := Int.le_trans (Int.mul_le_mul_of_nonneg_right hq1 (by omega)) (Int.mul_le_mul_of_nonneg_left hcx2.1 (by omega))
              have HWG : Hid (tfWghs ps S.ws S.gs (x : Int) (c1, c2) q k = tfWeigh ps S.ws S.gs (x : Int) (c1, c2) q) := by unfold Hid; rw [tfWeigh_is, H1.out]
              clear HKI HWI hvv HLB
              go_wp2_with fail
              refine (weigh15_as _ k _ ps _ _ S.ws _ n _ S.gs (x : Int) c1 c2 q _ D _ (HI.out.below BZw) (IsFr.of_owned OW.out (by omega)) (IsBools.of_owned OG.out (by omega)) HF.out hD HWOK.out (by omega) hcx2 hov ⟨hq1, hq61⟩ HWG.out).mono ?_
              rintro e wz ⟨az, cz, rfl, hoz, hbz⟩
              have OC := Lib.hid (owns_under OC.out hbz)
              have OG := Lib.hid (owns_under OG.out hbz)
              have OW := Lib.hid (World.ownsRow.mono (base' := G) hoz hBz)
              have OS := Lib.hid (OS.out.under hbz)
              have BZ : Below G w wz := BZ.trans (hbz.mono hBz)
              have hBz : G ≤ wz.heap.size := by have := BZ.size; omega
              clear hoz hbz BZw m0 m1
              have HBX : Hid ((S.gs.map Value.bool)[x]? = some (.bool (S.gs[x]?.getD false))) := by unfold Hid; simp [show x < S.gs.length by rw [HGL.out]; exact hxn]
              go_wp2_with (first
                | (at_builtin
                   refine wpList_append_own _ rfl _ _ 27 rfl G 35 is (.agg #[.slice none 0 0, .int .i64 0, .int .i64 0]) 3 40 Try.underlying27 his ht0 ht1 ht2 rfl (by decide) _ _ _ rfl (OS.out.outer.alloc _) ⟨wz.heap.size, 0, none⟩ 1 1 [.slice (some ⟨g, 0, none⟩) n c, .int .i64 (x : Int), .int .i64 1] rfl rfl (three_cells _ _ _ _ _ _ _) (by simp [Value.oneCell']) (by unfold maxLen; omega) (by omega) (by simp; omega) ?_
                   intro v' w7 hown' hgrow _
                   obtain ⟨a7, c7, rfl⟩ := owns_slice hown'
                   have hrow : ∀ k, (Value.slice ao so.length co).ownBlock = some k → G ≤ k := fun k ek => (OS.out.outer.lt k ek).1
                   have OS7 := Lib.hid ((OS.out.under ((Below.refl _ wz).alloc (Nat.le_refl _) _)).push (g := (g, c)) (s := (S.cs ps, (x : Int), 1)) (OC.out.alloc _) hne hown' hgrow)
                   have OG7 := Lib.hid ((OG.out.alloc _).kept hgrow (owns_apart (by decide) (OG.out.alloc _) (OS.out.outer.alloc (.cells #[.slice (some ⟨g, 0, none⟩) n c, .int .i64 (x : Int), .int .i64 1] 35))))
                   have OW7 := Lib.hid ((OW.out.alloc _).kept hgrow (owns_apart (by decide) (OW.out.alloc _) (OS.out.outer.alloc (.cells #[.slice (some ⟨g, 0, none⟩) n c, .int .i64 (x : Int), .int .i64 1] 35))))
                   have B7 : Below G w w7 := (BZ.alloc (by omega) (.cells #[.slice (some ⟨g, 0, none⟩) n c, .int .i64 (x : Int), .int .i64 1] 35)).grown hgrow (by simp; omega) (fun k e => hrow k e)
                   have hB7s : G ≤ w7.heap.size := by have := B7.size; omega
                   clear hown' hgrow hrow OS OG OW OC BZ hBz
                   have hlit := Lib.hid (World.ownsRow_lit (base := w7.heap.size) (e := 4) (size := 1) w7 #[] 0 (Nat.le_refl _) (by unfold maxLen; omega) rfl)
                   have HCG : Hid (∀ k u, (S.gs.map Value.bool)[k]? = some u → (w7.alloc (.cells #[] 4)).cell? ((⟨gg, 0, none⟩ : Addr).add k) = some u) := bools_cells (OG7.out.alloc _))
                | (at_builtin
                   refine wpList_append_own _ rfl _ _ 113 rfl w7.heap.size 4 ib (.bool false) 1 1 Try.underlying113 hib hb0 hb1 hb2 rfl (by decide) _ _ _ rfl hlit.out ⟨gg, 0, none⟩ n cg (S.gs.map Value.bool) rfl HLG.out HCG.out (bools_one _) (by unfold maxLen; omega) (by omega) (by simp) ?_
                   intro v' w8 hown8 hgrow8 _
                   rw [Nat.zero_add] at hown8
                   change w8.ownsRow _ _ _ v' n (S.gs.map Value.bool) at hown8
                   obtain ⟨g8, c8, rfl⟩ := some_of_owns hown8 (by omega)
                   have hc8 : w8.cell? ⟨g8, x, none⟩ = some (.bool (S.gs[x]?.getD false)) := (hown8.cellAt x (by omega)).trans HBX.out
                   have hf8 : w8.frozen? ⟨g8, x, none⟩ = false := hown8.frozenAt x
                   have H8 : Hid (Below w7.heap.size w7 w8) := ((Below.refl _ w7).alloc (Nat.le_refl _) _).grown hgrow8 (by simp) (fun k e => by have e2 : (some w7.heap.size : Option Nat) = some k := e; injection e2 with e3; omega)
                   have O8 := Lib.hid hown8
                   clear hown8 hgrow8)
                | go_in)
              have hs8 := O8.out.stored x (.bool true)
              rw [bools_set] at hs8
              have hg8 : w7.heap.size ≤ g8 := (O8.out.lt g8 rfl).1
              have h9 : Below w7.heap.size w7 (w8.setCell ⟨g8, x, none⟩ (.bool true)) := H8.out.setCell (p := ⟨g8, x, none⟩) hg8 _
              have OG9 : Hid ((w8.setCell ⟨g8, x, none⟩ (.bool true)).ownsRow G 4 1 (.slice (some ⟨g8, 0, none⟩) n c8) n ((S.gs.set x true).map Value.bool)) := World.ownsRow.mono hs8.1 hB7s
              have OW9 := Lib.hid (owns_under OW7.out h9)
              have OS9 := Lib.hid (OS7.out.under h9)
              have B9 : Below G w (w8.setCell ⟨g8, x, none⟩ (.bool true)) := B7.trans (h9.mono hB7s)
              clear hs8 h9 OS7 OW7 OG7 B7 O8 H8 hlit HCG hc8 hf8
              go_roundw
              case rel =>
                refine ⟨j + 1, ⟨tfNext ps lots q S, g8, c8, az, cz, a7, c7, gl ++ [(g, c)], so ++ [(S.cs ps, (x : Int), 1)], ?_, by go_num, rfl, rfl, ?_, ?_, ?_, OS9, Lib.hid (hgood.out.next HA.out hS1).1, ?_, by simp; omega⟩, by omega, B9⟩
                · have e : (tfNext ps lots q S).s = S.s - 1 := by
                    show (if S.kind ps lots q = 2 then _ else _) = _
                    rw [HKD.out]
                    rfl
                  rw [e]
                  congr 1
                  omega
                · simp
                · unfold Hid
                  have e : (tfNext ps lots q S).gs = S.gs.set x true := by show S.gs.set (S.who ps lots q).toNat true = _; rw [HWHO.out, Int.toNat_natCast]
                  rw [e]; exact OG9.out
                · unfold Hid
                  have e : (tfNext ps lots q S).ws = tfWeigh ps S.ws S.gs (x : Int) (c1, c2) q := by
                    show (if S.kind ps lots q = 1 then _ else _) = _
                    rw [HKD.out, HWHO.out, HCE.out]
                    rfl
                  rw [e]; exact OW9.out
                · have h1 := hall.out
                  rw [show n - j = (n - (j + 1)) + 1 by omega, tfRun_step ps lots q _ hs0] at h1
                  unfold Hid
                  rw [← h1, List.append_assoc]
                  have e : tfStep ps lots q S = (S.cs ps, (x : Int), 1) := by unfold tfStep; rw [HWHO.out, HKD.out]
                  rw [e]; rfl
              case measure => simp [intOf]; omega
            · have hvt : lessF (c1, c2) (q, 1) = true := hvv
              obtain ⟨L, hL⟩ : ∃ L, leftN S.gs = L := ⟨_, rfl⟩
              have hLn : L ≤ n := by rw [← hL]; have := leftN_most S.gs; rw [HGL.out] at this; exact this
              have HKJ : Hid (S.kind ps lots q = if L ≤ S.s then 3 else 2) := by unfold Hid; rw [HKI.out, hvt, hL]; rfl
              have HLL := Lib.hid hL
              clear HKI hvv hvt HLB hL
              go_wp2_with fail
              refine (many12_as _ _ _ S.gs L _ (IsBools.of_owned OG.out (by omega)) HLL.out).mono ?_
              rintro e w6' ⟨rfl, he6⟩
              subst he6
              by_cases hLs : L ≤ S.s
              · have hdl : decide ((L : Int) ≤ (S.s : Int)) = true := decide_eq_true (by omega)
                have HKD : Hid (S.kind ps lots q = 3) := by unfold Hid; rw [HKJ.out, if_pos hLs]
                have HWHO : Hid (S.who ps lots q = (x : Int)) := by unfold Hid; rw [HWI.out, HKD.out]; rfl
                clear HKJ HWI BZw m0 m1
                have HBX : Hid ((S.gs.map Value.bool)[x]? = some (.bool (S.gs[x]?.getD false))) := by unfold Hid; simp [show x < S.gs.length by rw [HGL.out]; exact hxn]
                go_wp2_with (first
                  | (at_builtin
                     refine wpList_append_own _ rfl _ _ 27 rfl G 35 is (.agg #[.slice none 0 0, .int .i64 0, .int .i64 0]) 3 40 Try.underlying27 his ht0 ht1 ht2 rfl (by decide) _ _ _ rfl (OS.out.outer.alloc _) ⟨w6.heap.size, 0, none⟩ 1 1 [.slice (some ⟨g, 0, none⟩) n c, .int .i64 (x : Int), .int .i64 3] rfl rfl (three_cells _ _ _ _ _ _ _) (by simp [Value.oneCell']) (by unfold maxLen; omega) (by omega) (by simp; omega) ?_
                     intro v' w7 hown' hgrow _
                     obtain ⟨a7, c7, rfl⟩ := owns_slice hown'
                     have hrow : ∀ k, (Value.slice ao so.length co).ownBlock = some k → G ≤ k := fun k ek => (OS.out.outer.lt k ek).1
                     have OS7 := Lib.hid ((OS.out.under ((Below.refl _ w6).alloc (Nat.le_refl _) _)).push (g := (g, c)) (s := (S.cs ps, (x : Int), 3)) (OC.out.alloc _) hne hown' hgrow)
                     have OG7 := Lib.hid ((OG.out.alloc _).kept hgrow (owns_apart (by decide) (OG.out.alloc _) (OS.out.outer.alloc (.cells #[.slice (some ⟨g, 0, none⟩) n c, .int .i64 (x : Int), .int .i64 3] 35))))
                     have OW7 := Lib.hid ((OW.out.alloc _).kept hgrow (owns_apart (by decide) (OW.out.alloc _) (OS.out.outer.alloc (.cells #[.slice (some ⟨g, 0, none⟩) n c, .int .i64 (x : Int), .int .i64 3] 35))))
                     have B7 : Below G w w7 := (BZ.alloc (by omega) (.cells #[.slice (some ⟨g, 0, none⟩) n c, .int .i64 (x : Int), .int .i64 3] 35)).grown hgrow (by simp; omega) (fun k e => hrow k e)
                     have hB7s : G ≤ w7.heap.size := by have := B7.size; omega
                     clear hown' hgrow hrow OS OG OW OC BZ hBz
                     have hlit := Lib.hid (World.ownsRow_lit (base := w7.heap.size) (e := 4) (size := 1) w7 #[] 0 (Nat.le_refl _) (by unfold maxLen; omega) rfl)
                     have HCG : Hid (∀ k u, (S.gs.map Value.bool)[k]? = some u → (w7.alloc (.cells #[] 4)).cell? ((⟨gg, 0, none⟩ : Addr).add k) = some u) := bools_cells (OG7.out.alloc _))
                  | (at_builtin
                     refine wpList_append_own _ rfl _ _ 113 rfl w7.heap.size 4 ib (.bool false) 1 1 Try.underlying113 hib hb0 hb1 hb2 rfl (by decide) _ _ _ rfl hlit.out ⟨gg, 0, none⟩ n cg (S.gs.map Value.bool) rfl HLG.out HCG.out (bools_one _) (by unfold maxLen; omega) (by omega) (by simp) ?_
                     intro v' w8 hown8 hgrow8 _
                     rw [Nat.zero_add] at hown8
                     change w8.ownsRow _ _ _ v' n (S.gs.map Value.bool) at hown8
                     obtain ⟨g8, c8, rfl⟩ := some_of_owns hown8 (by omega)
                     have hc8 : w8.cell? ⟨g8, x, none⟩ = some (.bool (S.gs[x]?.getD false)) := (hown8.cellAt x (by omega)).trans HBX.out
                     have hf8 : w8.frozen? ⟨g8, x, none⟩ = false := hown8.frozenAt x
                     have H8 : Hid (Below w7.heap.size w7 w8) := ((Below.refl _ w7).alloc (Nat.le_refl _) _).grown hgrow8 (by simp) (fun k e => by have e2 : (some w7.heap.size : Option Nat) = some k := e; injection e2 with e3; omega)
                     have O8 := Lib.hid hown8
                     clear hown8 hgrow8)
                  | go_in)
                have hs8 := O8.out.stored x (.bool true)
                rw [bools_set] at hs8
                have hg8 : w7.heap.size ≤ g8 := (O8.out.lt g8 rfl).1
                have h9 : Below w7.heap.size w7 (w8.setCell ⟨g8, x, none⟩ (.bool true)) := H8.out.setCell (p := ⟨g8, x, none⟩) hg8 _
                have OG9 : Hid ((w8.setCell ⟨g8, x, none⟩ (.bool true)).ownsRow G 4 1 (.slice (some ⟨g8, 0, none⟩) n c8) n ((S.gs.set x true).map Value.bool)) := World.ownsRow.mono hs8.1 hB7s
                have OW9 := Lib.hid (owns_under OW7.out h9)
                have OS9 := Lib.hid (OS7.out.under h9)
                have B9 : Below G w (w8.setCell ⟨g8, x, none⟩ (.bool true)) := B7.trans (h9.mono hB7s)
                clear hs8 h9 OS7 OW7 OG7 B7 O8 H8 hlit HCG hc8 hf8
                go_roundw
                case rel =>
                  refine ⟨j + 1, ⟨tfNext ps lots q S, g8, c8, aw, cw, a7, c7, gl ++ [(g, c)], so ++ [(S.cs ps, (x : Int), 3)], ?_, by go_num, rfl, rfl, ?_, ?_, ?_, OS9, Lib.hid (hgood.out.next HA.out hS1).1, ?_, by simp; omega⟩, by omega, B9⟩
                  · have e : (tfNext ps lots q S).s = S.s - 1 := by
                      show (if S.kind ps lots q = 2 then _ else _) = _
                      rw [HKD.out]
                      rfl
                    rw [e]
                    congr 1
                    omega
                  · simp
                  · unfold Hid
                    have e : (tfNext ps lots q S).gs = S.gs.set x true := by show S.gs.set (S.who ps lots q).toNat true = _; rw [HWHO.out, Int.toNat_natCast]
                    rw [e]; exact OG9.out
                  · unfold Hid
                    have e : (tfNext ps lots q S).ws = S.ws := by
                      show (if S.kind ps lots q = 1 then _ else _) = _
                      rw [HKD.out]
                      rfl
                    rw [e]; exact OW9.out
                  · have h1 := hall.out
                    rw [show n - j = (n - (j + 1)) + 1 by omega, tfRun_step ps lots q _ hs0] at h1
                    unfold Hid
                    rw [← h1, List.append_assoc]
                    have e : tfStep ps lots q S = (S.cs ps, (x : Int), 3) := by unfold tfStep; rw [HWHO.out, HKD.out]
                    rw [e]; rfl
                case measure => simp [intOf]; omega
              · have hdl : decide ((L : Int) ≤ (S.s : Int)) = false := decide_eq_false (by omega)
                have HKD : Hid (S.kind ps lots q = 2) := by unfold Hid; rw [HKJ.out, if_neg hLs]
                have HWHO : Hid (S.who ps lots q = (y : Int)) := by unfold Hid; rw [HWI.out, HKD.out]; rfl
                clear HKJ HWI m0 m1
                go_wp2_with fail
                refine (best15_as _ _ n (S.cs ps) _ _ S.gs _ _ lots true (y : Int) _ (IsFr.of_owned OC.out (by omega)) (IsBools.of_owned OG.out (by omega)) (HL.out.below BZw) HLM.out HCV.out HB2.out).mono ?_
                rintro e w5 ⟨rfl, hb5⟩
                have OC := Lib.hid (owns_under OC.out hb5)
                have OG := Lib.hid (owns_under OG.out hb5)
                have OW := Lib.hid (owns_under OW.out hb5)
                have OS := Lib.hid (OS.out.under hb5)
                have BZ : Below G w w5 := BZ.trans (hb5.mono hBz)
                have hBz : G ≤ w5.heap.size := by have := BZ.size; omega
                clear hb5 BZw hxi hxn HCFE HCE
                have hxi : (y : Int) < (n : Int) := by omega
                have HBX : Hid ((S.gs.map Value.bool)[y]? = some (.bool (S.gs[y]?.getD false))) := by unfold Hid; simp [show y < S.gs.length by rw [HGL.out]; exact hyn]
                go_wp2_with (first
                  | (at_builtin
                     refine wpList_append_own _ rfl _ _ 27 rfl G 35 is (.agg #[.slice none 0 0, .int .i64 0, .int .i64 0]) 3 40 Try.underlying27 his ht0 ht1 ht2 rfl (by decide) _ _ _ rfl (OS.out.outer.alloc _) ⟨w5.heap.size, 0, none⟩ 1 1 [.slice (some ⟨g, 0, none⟩) n c, .int .i64 (y : Int), .int .i64 2] rfl rfl (three_cells _ _ _ _ _ _ _) (by simp [Value.oneCell']) (by unfold maxLen; omega) (by omega) (by simp; omega) ?_
                     intro v' w7 hown' hgrow _
                     obtain ⟨a7, c7, rfl⟩ := owns_slice hown'
                     have hrow : ∀ k, (Value.slice ao so.length co).ownBlock = some k → G ≤ k := fun k ek => (OS.out.outer.lt k ek).1
                     have OS7 := Lib.hid ((OS.out.under ((Below.refl _ w5).alloc (Nat.le_refl _) _)).push (g := (g, c)) (s := (S.cs ps, (y : Int), 2)) (OC.out.alloc _) hne hown' hgrow)
                     have OG7 := Lib.hid ((OG.out.alloc _).kept hgrow (owns_apart (by decide) (OG.out.alloc _) (OS.out.outer.alloc (.cells #[.slice (some ⟨g, 0, none⟩) n c, .int .i64 (y : Int), .int .i64 2] 35))))
                     have OW7 := Lib.hid ((OW.out.alloc _).kept hgrow (owns_apart (by decide) (OW.out.alloc _) (OS.out.outer.alloc (.cells #[.slice (some ⟨g, 0, none⟩) n c, .int .i64 (y : Int), .int .i64 2] 35))))
                     have B7 : Below G w w7 := (BZ.alloc (by omega) (.cells #[.slice (some ⟨g, 0, none⟩) n c, .int .i64 (y : Int), .int .i64 2] 35)).grown hgrow (by simp; omega) (fun k e => hrow k e)
                     have hB7s : G ≤ w7.heap.size := by have := B7.size; omega
                     clear hown' hgrow hrow OS OG OW OC BZ hBz
                     have hlit := Lib.hid (World.ownsRow_lit (base := w7.heap.size) (e := 4) (size := 1) w7 #[] 0 (Nat.le_refl _) (by unfold maxLen; omega) rfl)
                     have HCG : Hid (∀ k u, (S.gs.map Value.bool)[k]? = some u → (w7.alloc (.cells #[] 4)).cell? ((⟨gg, 0, none⟩ : Addr).add k) = some u) := bools_cells (OG7.out.alloc _))
                  | (at_builtin
                     refine wpList_append_own _ rfl _ _ 113 rfl w7.heap.size 4 ib (.bool false) 1 1 Try.underlying113 hib hb0 hb1 hb2 rfl (by decide) _ _ _ rfl hlit.out ⟨gg, 0, none⟩ n cg (S.gs.map Value.bool) rfl HLG.out HCG.out (bools_one _) (by unfold maxLen; omega) (by omega) (by simp) ?_
                     intro v' w8 hown8 hgrow8 _
                     rw [Nat.zero_add] at hown8
                     change w8.ownsRow _ _ _ v' n (S.gs.map Value.bool) at hown8
                     obtain ⟨g8, c8, rfl⟩ := some_of_owns hown8 (by omega)
                     have hc8 : w8.cell? ⟨g8, y, none⟩ = some (.bool (S.gs[y]?.getD false)) := (hown8.cellAt y (by omega)).trans HBX.out
                     have hf8 : w8.frozen? ⟨g8, y, none⟩ = false := hown8.frozenAt y
                     have H8 : Hid (Below w7.heap.size w7 w8) := ((Below.refl _ w7).alloc (Nat.le_refl _) _).grown hgrow8 (by simp) (fun k e => by have e2 : (some w7.heap.size : Option Nat) = some k := e; injection e2 with e3; omega)
                     have O8 := Lib.hid hown8
                     clear hown8 hgrow8)
                  | go_in)
                have hs8 := O8.out.stored y (.bool true)
                rw [bools_set] at hs8
                have hg8 : w7.heap.size ≤ g8 := (O8.out.lt g8 rfl).1
                have h9 : Below w7.heap.size w7 (w8.setCell ⟨g8, y, none⟩ (.bool true)) := H8.out.setCell (p := ⟨g8, y, none⟩) hg8 _
                have OG9 : Hid ((w8.setCell ⟨g8, y, none⟩ (.bool true)).ownsRow G 4 1 (.slice (some ⟨g8, 0, none⟩) n c8) n ((S.gs.set y true).map Value.bool)) := World.ownsRow.mono hs8.1 hB7s
                have OW9 := Lib.hid (owns_under OW7.out h9)
                have OS9 := Lib.hid (OS7.out.under h9)
                have B9 : Below G w (w8.setCell ⟨g8, y, none⟩ (.bool true)) := B7.trans (h9.mono hB7s)
                clear hs8 h9 OS7 OW7 OG7 B7 O8 H8 hlit HCG hc8 hf8
                go_roundw
                case rel =>
                  refine ⟨j + 1, ⟨tfNext ps lots q S, g8, c8, aw, cw, a7, c7, gl ++ [(g, c)], so ++ [(S.cs ps, (y : Int), 2)], ?_, by go_num, rfl, rfl, ?_, ?_, ?_, OS9, Lib.hid (hgood.out.next HA.out hS1).1, ?_, by simp; omega⟩, by omega, B9⟩
                  · have e : (tfNext ps lots q S).s = S.s := by
                      show (if S.kind ps lots q = 2 then _ else _) = _
                      rw [HKD.out]
                      rfl
                    rw [e]
                    try rfl
                    
                  · simp
                  · unfold Hid
                    have e : (tfNext ps lots q S).gs = S.gs.set y true := by show S.gs.set (S.who ps lots q).toNat true = _; rw [HWHO.out, Int.toNat_natCast]
                    rw [e]; exact OG9.out
                  · unfold Hid
                    have e : (tfNext ps lots q S).ws = S.ws := by
                      show (if S.kind ps lots q = 1 then _ else _) = _
                      rw [HKD.out]
                      rfl
                    rw [e]; exact OW9.out
                  · have h1 := hall.out
                    rw [show n - j = (n - (j + 1)) + 1 by omega, tfRun_step ps lots q _ hs0] at h1
                    unfold Hid
                    rw [← h1, List.append_assoc]
                    have e : tfStep ps lots q S = (S.cs ps, (y : Int), 2) := by unfold tfStep; rw [HWHO.out, HKD.out]
                    rw [e]; rfl
                case measure => simp [intOf]; omega
          · have HE : Hid (so = all) := by
              have h1 := hall.out
              rw [show n - j = 0 by omega] at h1
              unfold Hid; rw [← h1]; exact (List.append_nil _).symm
            have hoo := Lib.hid (ho.out.low (base' := w.heap.size) (by omega))
            clear ho
            go_wp2
            go_ret
            rw [← HE.out]
            exact ⟨ao, co, gl, rfl, hoo.out, hBw⟩

end Go.Proofs.Ytafnmongglhlaaa

namespace Go.Proofs.Ytafnmongglhlaaa
open Go.RowKit

theorem lotsB_eq {zs : List Int} {len : Nat} (h : zs.length = len) (hl : len ≤ 1048600) : lotsB zs = (goodTo zs ((len : Int) - 1) len && inB (len : Int) 1 5) := by
  unfold lotsB validB
  rw [h, IntWalk.wrap64_in _ ⟨by omega, by omega⟩]

set_option maxHeartbeats 400000 in
/-- **spec.LotsValid**. -/
theorem specLots_any (a : Option Addr) (len cap : Nat) (zs : List Int) (w : World) (h : IsInts w a len cap zs) :
    Calls Try.prog 79 #[.slice a len cap] w fun e w' => e = .returned (.bool (lotsB zs)) ∧ Dr w w' := by
  have hl := h.2.2.1
  have HV := Lib.hid (lotsB_eq h.1 hl)
  have H := Lib.hid h; clear h
  go_enter Try.func79, Try.ntmps79
  go_wp2
  go_loopw [3] (fun i wr => ∃ k : Nat, k ≤ len ∧ i = .int .i64 k ∧ Hid (goodTo zs ((len : Int) - 1) k = true) ∧ Dr w wr) (fun i _ => len - (intOf i).toNat)
  case atStart => exact ⟨0, Nat.zero_le _, rfl, by simp [Hid, goodTo], Dr.refl _⟩
  case round =>
    obtain ⟨k, hk, rfl, hc, hd⟩ := hrel
    by_cases hlt : k < len
    · have HI := H.out.dr hd
      have HK := HI.take hk
      obtain ⟨h1, h2, h3, h4⟩ := HI
      obtain ⟨b, off, rfl, hb, hcell⟩ := h4 (by omega)
      have hck := hcell k hlt
      have HS := goodTo_succ zs ((len : Int) - 1) k
      rw [hc.out, Bool.true_and] at HS
      have HS := Lib.hid HS
      clear h1 h4 hcell
      by_cases hin : inB (zs[k]?.getD 0) 0 ((len : Int) - 1) = true
      · cases hh : hasB (zs.take k) (zs[k]?.getD 0)
        all_goals
          go_wp2
          go_quiet (first | (go_at_call 81; exact quiet_same (l6In_any _ _ _ _)) | (go_at_call 105; exact quiet_same (l1Has_any _ _ _ _ _ _ (HK.drewN _))))
          go_wp2
        · go_roundw
          case rel => exact ⟨k + 1, by omega, by go_num, by unfold Hid; rw [HS.out, hin, hh]; rfl, hd.drewN _⟩
          case measure => simp [intOf]; omega
        · go_ret
          refine ⟨ret_bool ?_, hd.drewN _⟩
          rw [HV.out, goodTo_no (by rw [HS.out, hin, hh]; rfl) hlt]; rfl
      · have hin' : inB (zs[k]?.getD 0) 0 ((len : Int) - 1) = false := by simpa using hin
        clear hin
        go_wp2
        go_quiet (first | (go_at_call 81; exact quiet_same (l6In_any _ _ _ _)) | (go_at_call 105; exact quiet_same (l1Has_any _ _ _ _ _ _ (HK.drewN _))))
        go_wp2
        go_ret
        refine ⟨ret_bool ?_, hd.drewN _⟩
        rw [HV.out, goodTo_no (by rw [HS.out, hin']; rfl) hlt]; rfl
    · obtain rfl : k = len := by omega
      go_wp2_with (go_at_call 81; refine (l6In_any _ _ _ _).mono ?_; rintro e w' ⟨rfl, rfl⟩)
      go_ret
      refine ⟨ret_bool ?_, hd⟩
      rw [HV.out, hc.out, Bool.true_and]

end Go.Proofs.Ytafnmongglhlaaa
