/-
  spec.l15Counts: the counts of all candidates, in memory of its own; it writes into no memory that was there.
  impl.newWeightedPile and sumOfWeights: what they answer; they write into no memory that was there.
  spec.l15Best: whom it takes; it writes into no memory that was there.
-/
import Derived.Test.YtafnmongglhlaaaGrp16
import Derived.Test.YtafnmongglhlaaaGrpQ
import Derived.Test.YtafnmongglhlaaaGrp3
import Derived.Test.YtafnmongglhlaaaGrp14
import Derived.Test.YtafnmongglhlaaaGrpT
namespace Go.Proofs.Ytafnmongglhlaaa
open Go.RowKit

attribute [local go_sem] Oper.semAt_some

theorem frac_info : (Try.prog.info? 40).map (fun i => (i.zero, i.size, i.bytes)) = some (some (.agg #[.int .i64 0, .int .i64 0]), 2, 16) := by kernel_rfl
theorem lits_new (w : World) (cs : List Value) (T : TypeId) : ∀ j u, cs[j]? = some u → (w.alloc (.cells cs.toArray T)).cell? ((⟨w.heap.size, 0, none⟩ : Addr).add j) = some u := by
  intro j u h
  have h1 := World.cell?_alloc_mark w cs.toArray T (0, 0) j
  have h2 : ((⟨w.heap.size, 0, none⟩ : Addr).add j) = ⟨w.heap.size, j, none⟩ := by
    unfold Addr.add
    by_cases e : j = 0
    · subst e; rfl
    · simp [e]
  rw [h2, h1]; simpa using h
theorem repl_snoc (n : Nat) (f : Fr) : List.replicate n f ++ [f] = List.replicate (n + 1) f := by rw [List.replicate_succ']
theorem tf_small {ps : List Pl} (h : pilesB ps = true) : Small ps := fun i => by
  by_cases e : i < ps.length
  · have h1 := (pilesB_pos h).2.2.2.1 _ (pile_mem (ps := ps) (k := i) e)
    have h2 := vB_short h1
    have h3 := nums_length (tAt ps i)
    have h4 : (nums (tAt ps i)).length ≤ 5 := by
      have e5 : ((nums (tAt ps i)).length : Int) ≤ 5 := h2
      omega
    omega
  · simp [tAt, e]
/-- A weight times a number, as a fraction. -/
theorem w_part {D : Int} {w : Fr} (h : TfOkW D w) (hD : 1 ≤ D ∧ D ≤ 60) {m : Int} (hm : 0 ≤ m ∧ m ≤ 99) : (0 ≤ w.1 * m ∧ w.1 * m ≤ 5940) ∧ (1 ≤ w.2 ∧ w.2 ≤ 60) ∧ fracB (ofF (w.1 * m) w.2) = true := by
  obtain ⟨h1, h2⟩ := okw_bound h hD
  have h3 : 0 ≤ w.1 * m := Int.mul_nonneg h1.1 hm.1
  have h4 : w.1 * m ≤ 60 * 99 := Int.le_trans (Int.mul_le_mul_of_nonneg_right h1.2 hm.1) (Int.mul_le_mul_of_nonneg_left hm.2 (by omega))
  exact ⟨⟨h3, by omega⟩, h2, ofF_valid (by omega) (by omega)⟩

set_option maxRecDepth 100000 in
set_option maxHeartbeats 8000000 in
/-- **spec.l15Counts**. -/
theorem counts15_as (a : Option Addr) (len cap : Nat) (ps : List Pl) (aw : Option Addr) (cw : Nat) (ws : List Fr) (ag : Option Addr) (n cg : Nat) (gs : List Bool) (cs : List Fr) (D : Int) (w : World)
    (h : IsPiles w a len cap ps) (hw : IsFr w aw len cw ws) (hg : IsBools w ag n cg gs) (hf : fitsB ps (n : Int) = true) (hsum : sumL ps ≤ 60) (hD : 1 ≤ D ∧ D ≤ 60) (hok : ∀ i, i < len → TfOkW D (tfW ws i)) (hr : tfCnts ps ws gs len = cs) :
    Calls Try.prog 82 #[.slice a len cap, .slice aw len cw, .slice ag n cg] w fun e w' => ∃ g c, e = .returned (.slice (some ⟨g, 0, none⟩) n c) ∧ w'.ownsRow w.heap.size 40 2 (.slice (some ⟨g, 0, none⟩) n c) n (cellsF cs) ∧ Below w.heap.size w w' := by
  obtain ⟨i0, hi, hz0, hz1, hz2⟩ := info_parts frac_info
  obtain ⟨G, hG⟩ : ∃ G, w.heap.size = G := ⟨_, rfl⟩
  obtain ⟨hp, hn1, hn5, hval⟩ := fits_parts hf
  have HV := Lib.hid hval
  have HP := Lib.hid hp
  have HI := Lib.hid h
  have HW := Lib.hid hw
  have HG := Lib.hid hg
  have H1 := Lib.hid h.1
  have hG1 := hg.1
  have HG1 := Lib.hid hG1
  have HOK := Lib.hid hok
  have HR := Lib.hid hr
  have HO := (pilesB_pos hp).2.1
  have HC : Hid (∀ k i, i ≤ len → TfOkC D (tfM ps i) (tfCnt ps ws gs k i) ∧ tfM ps i ≤ 60) := fun k i hi => by
    refine ⟨tfCnt_ok gs k HO (fun j hj => hok j (by rw [← h.1]; exact hj)) i (by rw [h.1]; exact hi), ?_⟩
    have := tfM_mono HO ps.length i (by rw [h.1]; exact hi)
    rw [tfM_all] at this
    omega
  have hlm := h.2.2.1
  clear h hw hg hf hok hr hp hval hG1
  have O0 : Hid ((w.alloc (.cells #[] 40)).ownsRow G 40 2 (.slice (some ⟨w.heap.size, 0, none⟩) 0 0) 0 (cellsF (List.replicate 0 (0, 1)))) := World.ownsRow_lit (base := G) (e := 40) (size := 2) w #[] 0 (by omega) (by unfold maxLen; omega) rfl
  rw [hG] at O0
  have B0 : Below G w (w.alloc (.cells #[] 40)) := (Below.refl _ w).alloc (by omega) _
  go_enter Try.func82, Try.ntmps82
  go_wp2
  go_loopw [7, 8] (fun ov iv wr => ∃ (k g c : Nat), k ≤ n ∧ iv = .int .i64 (k : Int) ∧ ov = .slice (some ⟨g, 0, none⟩) k c ∧ Hid (wr.ownsRow G 40 2 (.slice (some ⟨g, 0, none⟩) k c) k (cellsF (List.replicate k (0, 1)))) ∧ Below G w wr) (fun _ iv _ => n - (intOf iv).toNat)
  case atStart => exact ⟨0, _, _, Nat.zero_le _, rfl, rfl, O0, B0⟩
  case round =>
    clear O0 B0
    obtain ⟨k, g, c, hk, rfl, rfl, hO, hB⟩ := hrel
    have hBs : G ≤ wr.heap.size := by have := hB.size; omega
    by_cases hlt : k < n
    · go_wp2_with (at_builtin; refine wpList_append_own _ rfl _ _ 33 rfl G 40 i0 (.agg #[.int .i64 0, .int .i64 0]) 2 16 Try.underlying33 hi hz0 hz1 hz2 rfl Nat.two_pos _ _ _ rfl (hO.out.alloc _) ⟨wr.heap.size, 0, none⟩ 1 1 [.int .i64 0, .int .i64 1] rfl rfl (lits_new _ _ _) (by simp [Value.oneCell']) (by unfold maxLen; omega) (by omega) (by simp; omega) ?_; intro v' w4 hown' hgrow _; obtain ⟨g4, c4, rfl⟩ := some_of_owns hown' (by omega))
      have hB4 : Below G w w4 := (hB.alloc (by omega) (.cells #[.int .i64 0, .int .i64 1] 40)).grown hgrow (by simp; omega) (fun j e => (hO.out.lt j e).1)
      have hO4 : Hid (w4.ownsRow G 40 2 (.slice (some ⟨g4, 0, none⟩) (k + 1) c4) (k + 1) (cellsF (List.replicate (k + 1) (0, 1)))) := by
        unfold Hid; rw [← repl_snoc, cellsF_app]; exact hown'
      clear hown' hgrow
      go_wp2
      go_roundw
      case rel => exact ⟨k + 1, g4, c4, by omega, by go_num, rfl, hO4, hB4⟩
      case measure => simp [intOf]; omega
    · obtain rfl : k = n := by omega
      have hO' : Hid (wr.ownsRow G 40 2 (.slice (some ⟨g, 0, none⟩) k c) k (cellsF (tfCnts ps ws gs 0))) := by
        unfold Hid; rw [tfCnts_zero, HG1.out]; exact hO.out
      have hgG : G ≤ g := (hO.out.lt g rfl).1
      clear hO
      rename World => wa
      go_wp2
      go_loopw [9, 10, 11, 12] (fun iv _ _ _ wr => ∃ (i : Nat), i ≤ len ∧ iv = .int .i64 (i : Int) ∧ Hid (wr.ownsRow G 40 2 (.slice (some ⟨g, 0, none⟩) k c) k (cellsF (tfCnts ps ws gs i))) ∧ Below G w wr) (fun iv _ _ _ _ => len - (intOf iv).toNat)
      case atStart => exact ⟨0, Nat.zero_le _, rfl, hO', hB⟩
      case round =>
        clear hO' hB hBs
        obtain ⟨i, hil, rfl, hO, hB⟩ := hrel
        have hBs : G ≤ wr.heap.size := by have := hB.size; omega
        have hBw : Below w.heap.size w wr := hG.symm ▸ hB
        by_cases hlt : i < len
        · obtain ⟨b, off, rfl, hb, c0, c1⟩ := (HI.out.below hBw).at_text hlt
          obtain ⟨t, ht⟩ : ∃ t, tAt ps i = t := ⟨_, rfl⟩
          obtain ⟨m, hm⟩ : ∃ m, mAt ps i = m := ⟨_, rfl⟩
          obtain ⟨pl, hpl⟩ : ∃ pl, parseL t = pl := ⟨_, rfl⟩
          have hips : i < ps.length := by rw [H1.out]; exact hlt
          have hst : t.size ≤ 1048600 := by rw [← ht]; exact tf_small HP.out i
          have hm99 : 0 ≤ m ∧ m ≤ 99 := by rw [← hm]; exact mAt_valid HP.out i
          have hvN : validB pl (k : Int) = true := by rw [← hpl, ← ht]; exact HV.out i hips
          have hl5 : pl.length ≤ 5 := by rw [← hpl]; exact parseL_short t
          have HOK5 : Hid (validB (nums t) 5 = true) := by
            have := (pilesB_pos HP.out).2.2.2.1 _ (pile_mem (ps := ps) (k := i) hips)
            unfold Hid; rw [← ht]; exact this
          have HFST : Hid (tfFst ps gs i = firstL pl gs) := by unfold Hid tfFst; rw [ht, hpl]
          have HZ : ∀ z ∈ pl, 0 ≤ z ∧ z < (k : Int) := (vB_mem hvN).2.2
          rw [ht] at c0
          rw [hm] at c1
          have HPL := Lib.hid hpl
          have HM := Lib.hid hm
          clear ht hpl hm hvN
          go_wp2_with fail
          refine (specParse_as t pl true _ hst HPL.out HOK5.out).mono ?_
          rintro e w4 ⟨a4, c4, rfl, ho4, hb4⟩
          have I4 := Lib.hid (IsInts.of_owned ho4 (by omega))
          have B4 : Below G w w4 := hB.trans (hb4.mono hBs)
          have O4 : Hid (w4.ownsRow G 40 2 (.slice (some ⟨g, 0, none⟩) k c) k (cellsF (tfCnts ps ws gs i))) := owns_under hO.out hb4
          have c1' : w4.cell? ⟨b, off + i * 2 + 1, none⟩ = some (.int .i64 m) := (hb4.cell (p := ⟨b, off + i * 2 + 1, none⟩) hb).trans c1
          have hb' : b < w4.heap.size := Nat.lt_of_lt_of_le hb hb4.size
          have hBs4 : G ≤ w4.heap.size := by have := B4.size; omega
          clear ho4 hb4 hO hB hBs hBw c0 c1 hb
          have B4w : Below w.heap.size w w4 := hG.symm ▸ B4
          have HGb := Lib.hid (HG.out.below B4w)
          go_wp2_with fail
          refine (l1First_any _ _ _ pl _ _ _ gs _ I4.out HGb.out HZ).mono ?_
          rintro e w5 ⟨rfl, rfl⟩
          rw [← HFST.out]
          obtain ⟨z, hz⟩ : ∃ z, tfFst ps gs i = z := ⟨_, rfl⟩
          rw [hz]
          have hzr : z = -1 ∨ 0 ≤ z ∧ z < (k : Int) := by
            rw [← hz, HFST.out]
            rcases firstL_mem pl gs with e | e
            · exact .inl e
            · exact .inr (HZ _ e)
          by_cases hz0' : 0 ≤ z
          · have hdz : decide (0 ≤ z) = true := decide_eq_true hz0'
            obtain ⟨x, rfl⟩ := Int.eq_ofNat_of_zero_le hz0'
            have hxk : x < k := by omega
            have hxg : x < gs.length := by rw [HG1.out]; exact hxk
            have HNX := Lib.hid (tfCnts_hit (ws := ws) hxg hz)
            rw [HM.out] at HNX
            obtain ⟨hcx, hcm⟩ := HC.out x i (by omega)
            have hcv := okc_valid hcx hD hcm
            obtain ⟨q1, q2, hq⟩ : ∃ q1 q2, tfCnt ps ws gs x i = (q1, q2) := ⟨_, _, rfl⟩
            have hwi := HOK.out i hlt
            obtain ⟨hp1, hp2, hpv⟩ := w_part hwi hD hm99
            obtain ⟨w1, w2, hwe⟩ : ∃ w1 w2, tfW ws i = (w1, w2) := ⟨_, _, rfl⟩
            rw [hwe] at hp1 hp2 hpv HNX
            rw [hq] at hcv HNX
            have hp1 : 0 ≤ w1 * m ∧ w1 * m ≤ 5940 := hp1
            have hp2 : 1 ≤ w2 ∧ w2 ≤ 60 := hp2
            have hpv : fracB (ofF (w1 * m) w2) = true := hpv
            obtain ⟨fb, fo, rfl, hfb, cw0, cw1⟩ := (HW.out.below B4w).at hlt
            have efw : fAt ws i = (w1, w2) := hwe
            rw [efw] at cw0 cw1
            have cq0 : w4.cell? ⟨g, x * 2, none⟩ = some (.int .i64 q1) := by
              rw [O4.out.cellAt (x * 2) (by omega), cellsF_num _ _ (by rw [tfCnts_length]; exact hxg)]
              unfold fAt; rw [tfCnts_at hxg, Option.getD_some, hq]
            have cq1 : w4.cell? ⟨g, x * 2 + 1, none⟩ = some (.int .i64 q2) := by
              rw [O4.out.cellAt (x * 2 + 1) (by omega), cellsF_den _ _ (by rw [tfCnts_length]; exact hxg)]
              unfold fAt; rw [tfCnts_at hxg, Option.getD_some, hq]
            have hgl : g < w4.heap.size := (O4.out.lt g rfl).2
            obtain ⟨p1, p2, hpe⟩ : ∃ p1 p2, ofF (w1 * m) w2 = (p1, p2) := ⟨_, _, rfl⟩
            obtain ⟨s1, s2, hse⟩ : ∃ s1 s2, ofF (sumF (q1, q2) (p1, p2)).1 (sumF (q1, q2) (p1, p2)).2 = (s1, s2) := ⟨_, _, rfl⟩
            have hpv2 : fracB (p1, p2) = true := by rw [← hpe]; exact hpv
            have HNY : Hid (tfCnts ps ws gs (i + 1) = (tfCnts ps ws gs i).set x (s1, s2)) := by
              unfold Hid; rw [HNX.out]; unfold tfAdd; rw [hpe, hse]
            have hwm : IntKind.i64.wrap (w1 * m) = w1 * m := IntWalk.i64_in _ (by omega)
            have HPE := Lib.hid hpe
            have HSE := Lib.hid hse
            have u0 : ∀ u : Beh w4, u.w.cell? ⟨g, x * 2, none⟩ = _ := Beh.cell cq0 hgl
            have u1 : ∀ u : Beh w4, u.w.cell? ⟨g, x * 2 + 1, none⟩ = _ := Beh.cell cq1 hgl
            have u2 : ∀ u : Beh w4, u.w.cell? ⟨fb, fo + i * 2, none⟩ = _ := Beh.cell cw0 hfb
            have u3 : ∀ u : Beh w4, u.w.cell? ⟨fb, fo + i * 2 + 1, none⟩ = _ := Beh.cell cw1 hfb
            have u4 : ∀ u : Beh w4, u.w.cell? ⟨b, off + i * 2 + 1, none⟩ = _ := Beh.cell c1' hb'
            have hxi : (x : Int) < (k : Int) := by omega
            have hii : (i : Int) < (len : Int) := by omega
            clear cq0 cq1 cw0 cw1 c1' hq hwe efw hpe hse hpv hz HNX hcx HPL HFST I4
            go_wp2_with fail
            refine wp_region_below_tail 25 (by kernel_rfl) (by kernel_rfl) ?_
            simp only [List.take_succ_cons, List.take_zero, List.drop_succ_cons, List.drop_zero]
            repeat (go_big_quiet_step (first | (go_at_call 96; exact Calls.beh (l5Of_as (w1 * m) w2 p1 p2 _ (by omega) (by omega) HPE.out)) | (go_at_call 119; exact Calls.beh (sum15_as q1 q2 p1 p2 s1 s2 _ hcv hpv2 HSE.out))))
            refine wpQuiet_nil ?_
            rintro w8 ⟨⟨_, hb8'⟩, he⟩
            have hb8 : Below w4.heap.size w4 w8 := by rw [he]; exact hb8'
            clear he hb8' u0 u1 u2 u3 u4
            have O8 := Lib.hid (owns_under O4.out hb8)
            have B8 := B4.trans (hb8.mono hBs4)
            obtain ⟨⟨hm0, hm1⟩, hm2, hm3⟩ := meets_setF O8.out hxk (.int .i64 s1)
            obtain ⟨O9', G9⟩ := owns_setF O8.out x s1 s2
            have O9 : Hid (((w8.setCell ⟨g, x * 2, none⟩ (.int .i64 s1)).setCell ⟨g, x * 2 + 1, none⟩ (.int .i64 s2)).ownsRow G 40 2 (.slice (some ⟨g, 0, none⟩) k c) k (cellsF (tfCnts ps ws gs (i + 1)))) := by
              unfold Hid; rw [HNY.out]; exact O9'
            have B9 : Below G w ((w8.setCell ⟨g, x * 2, none⟩ (.int .i64 s1)).setCell ⟨g, x * 2 + 1, none⟩ (.int .i64 s2)) := (B8.setCell (p := ⟨g, x * 2, none⟩) hgG _).setCell (p := ⟨g, x * 2 + 1, none⟩) hgG _
            clear O9' G9 O4 O8 B4 B8 B4w HGb hb8
            go_wp2
            go_roundw
            case rel => exact ⟨i + 1, by omega, by go_num, O9, B9⟩
            case measure => simp [intOf]; omega
          · have hdz : decide (0 ≤ z) = false := decide_eq_false hz0'
            have O5 : Hid (w4.ownsRow G 40 2 (.slice (some ⟨g, 0, none⟩) k c) k (cellsF (tfCnts ps ws gs (i + 1)))) := by
              unfold Hid; rw [tfCnts_miss (by rw [hz]; omega)]; exact O4.out
            clear O4 hz
            go_wp2
            go_roundw
            case rel => exact ⟨i + 1, by omega, by go_num, O5, B4⟩
            case measure => simp [intOf]; omega
        · obtain rfl : i = len := by omega
          have hO2 := hO.out
          rw [HR.out] at hO2
          go_wp2
          go_ret
          exact ⟨g, c, rfl, hG.symm ▸ hO2, hBw⟩

end Go.Proofs.Ytafnmongglhlaaa

namespace Go.Proofs.Ytafnmongglhlaaa
open Go.RowKit

attribute [local go_sem] Oper.semAt_some

set_option maxHeartbeats 2000000 in
/-- **newWeightedPile**. -/
theorem newPile_as (t : ByteArray) (m : Int) (pl : List Int) (w : World) (hs : t.size ≤ 1048600) (h1 : parseL t = pl) (h2 : validB (nums t) 5 = true) :
    Calls Try.prog 110 #[.agg #[.string t, .int .i64 m]] w fun e w' => ∃ g a c, e = .returned (.pointer (some ⟨g, 0, none⟩)) ∧ w'.heap[g]? = some (.cells (pileC a pl.length c m (1, 1)) 158 (0, 0)) ∧ w'.ownsRow w.heap.size 3 1 (.slice a pl.length c) pl.length (pl.map (Value.int .i64)) ∧ w.heap.size ≤ g ∧ Below w.heap.size w w' := by
  have H1 := Lib.hid h1
  have H2 := Lib.hid h2
  have hb0 : Below w.heap.size w (w.alloc (.cells #[.string t, .int .i64 m] 49)) := (Below.refl _ w).alloc (Nat.le_refl _) _
  have k0 : (w.alloc (.cells #[.string t, .int .i64 m] 49)).cell? ⟨w.heap.size, 0, none⟩ = some (.string t) := (World.cell?_alloc_mark w _ _ (0, 0) 0).trans rfl
  have k1 : (w.alloc (.cells #[.string t, .int .i64 m] 49)).cell? ⟨w.heap.size, 1, none⟩ = some (.int .i64 m) := (World.cell?_alloc_mark w _ _ (0, 0) 1).trans rfl
  have K1 := Lib.hid k1
  have B0 := Lib.hid hb0
  clear h1 h2 k1 hb0
  go_enter Try.func110, Try.ntmps110
  go_wp2_with fail
  refine (implParse_as t pl true _ hs H1.out H2.out).mono ?_
  rintro e w1 ⟨a, c, rfl, ho, hb⟩
  have k1 : w1.cell? ⟨w.heap.size, 1, none⟩ = some (.int .i64 m) := (hb.cell (p := ⟨w.heap.size, 1, none⟩) (by simp)).trans K1.out
  have B1 := Lib.hid (below_on B0.out hb)
  have O1 := Lib.hid (World.ownsRow.mono (base' := w.heap.size) ho (by simp))
  clear ho hb K1 k0 B0
  go_wp2
  go_ret
  exact ⟨_, a, c, rfl, blk_new _ _, O1.out.alloc _, B1.out.size, B1.out.alloc B1.out.size _⟩

theorem two_set {w : World} {g : Nat} {x y : Int} (h : Two w g x y) (u v : Int) : Two ((w.setCell ⟨g, 0, none⟩ (.int .i64 u)).setCell ⟨g, 1, none⟩ (.int .i64 v)) g u v :=
  ⟨by simpa [World.setCell] using h.lt, by rw [World.cell?_setCell_other _ _ _ _ (by intro e; injection e with _ e2; exact absurd e2 (by decide))]; exact h.set0 _, h.set1 _ _, by simpa using h.f0, by simpa using h.f1⟩
theorem two_aside {w : World} {g k i : Nat} {x y : Int} (h : Two w g x y) (hne : g ≠ k) (v : Value) : Two (w.setCell ⟨k, i, none⟩ v) g x y :=
  have e : (w.setCell ⟨k, i, none⟩ v).heap[g]? = w.heap[g]? := blk_other hne
  ⟨by simpa [World.setCell] using h.lt, (World.cell?_of_block (a := ⟨g, 0, none⟩) e).trans h.c0, (World.cell?_of_block (a := ⟨g, 1, none⟩) e).trans h.c1, (World.frozen?_of_block (a := ⟨g, 0, none⟩) e).trans h.f0, (World.frozen?_of_block (a := ⟨g, 1, none⟩) e).trans h.f1⟩
/-- What reads as pointers. -/
def IsPt (w : World) (a : Option Addr) (len cap : Nat) (bs : List Nat) : Prop := bs.length = len ∧ len ≤ cap ∧ len ≤ 1048600 ∧ (0 < len → ∃ b off, a = some ⟨b, off, none⟩ ∧ b < w.heap.size ∧ ∀ j, j < len → w.cell? ⟨b, off + j, none⟩ = some (.pointer (some ⟨bs[j]?.getD 0, 0, none⟩)))
theorem IsPt.below {w w' : World} {a : Option Addr} {len cap : Nat} {bs : List Nat} (h : IsPt w a len cap bs) (hb : Below w.heap.size w w') : IsPt w' a len cap bs := by
  obtain ⟨h1, h2, h3, h4⟩ := h
  refine ⟨h1, h2, h3, fun hl => ?_⟩
  obtain ⟨b, off, e, hlt, hc⟩ := h4 hl
  exact ⟨b, off, e, Nat.lt_of_lt_of_le hlt hb.size, fun j hj => (hb.cell (p := ⟨b, off + j, none⟩) hlt).trans (hc j hj)⟩
theorem IsPt.of_owned {w : World} {base len cap : Nat} {e : TypeId} {a : Option Addr} {B : Nat → Nat} {L : List Nat} (h : w.ownsRow base e 1 (.slice a len cap) len (ptrs B L)) (hl : len ≤ 1048600) : IsPt w a len cap (L.map B) := by
  have hlen : L.length = len := by have h1 := h.1; rw [ptrs_length] at h1; omega
  rcases h.2 with ⟨e1, e0⟩ | ⟨g, c, cur, e1, hb, hg, hcap, hmax, hcur, htake⟩
  · subst e0
    injection e1 with _ _ e3
    exact ⟨by simp [hlen], Nat.zero_le _, hl, fun hp => by omega⟩
  · injection e1 with e1 e2 e3
    subst e1
    subst e3
    refine ⟨by simp [hlen], hcap, hl, fun hp => ⟨g, 0, rfl, (h.lt g rfl).2, fun j hj => ?_⟩⟩
    rw [Nat.zero_add, h.cellAt j (by omega)]
    simp [ptrs, show j < L.length by omega]

set_option maxRecDepth 100000 in
set_option maxHeartbeats 8000000 in
/-- **sumOfWeights**. -/
theorem sumOf_as (a : Option Addr) (len cap : Nat) (L : List Nat) (B : Nat → Nat) (ps : List Pl) (ws : List Fr) (x y : Int) (w : World) (h : IsPt w a len cap (L.map B))
    (hp : ∀ j ∈ L, ∃ av l c, w.heap[B j]? = some (.cells (pileC av l c (mAt ps j) (tfW ws j)) 158 (0, 0)))
    (hw : ∀ j ∈ L, fracB (tfW ws j) = true ∧ fracB (ofF ((tfW ws j).1 * mAt ps j) (tfW ws j).2) = true) (hm : ∀ j ∈ L, 0 ≤ mAt ps j ∧ mAt ps j ≤ 99)
    (hc : ∀ i, i ≤ len → fracB (sumW ps ws (L.take i)) = true) (hr : sumW ps ws L = (x, y)) :
    Calls Try.prog 112 #[.slice a len cap] w fun e w' => e = .returned (.agg #[.int .i64 x, .int .i64 y]) ∧ Below w.heap.size w w' := by
  obtain ⟨G, hG⟩ : ∃ G, w.heap.size = G := ⟨_, rfl⟩
  have HI := Lib.hid h
  have H1 : Hid (L.length = len) := by have := h.1; unfold Hid; simpa using this
  have HP := Lib.hid hp
  have HW := Lib.hid hw
  have HM := Lib.hid hm
  have HC := Lib.hid hc
  have HR := Lib.hid hr
  have hlm := h.2.2.1
  clear h hp hw hm hc hr
  have T0 : Hid (Two ((w.alloc (.cells #[.int .i64 0, .int .i64 0] 40)).alloc (.cells #[.int .i64 0, .int .i64 1] 40)) G 0 0) := Two.at ((Two.new w 0 0 _).alloc _) hG
  have T1 : Hid (Two ((w.alloc (.cells #[.int .i64 0, .int .i64 0] 40)).alloc (.cells #[.int .i64 0, .int .i64 1] 40)) (G + 1) 0 1) := Two.at (Two.new (w.alloc _) 0 1 _) (by simp; omega)
  have B0 : Below G w ((w.alloc (.cells #[.int .i64 0, .int .i64 0] 40)).alloc (.cells #[.int .i64 0, .int .i64 1] 40)) := hG ▸ two_allocs w _ _
  go_enter Try.func112, Try.ntmps112
  go_wp2
  go_loopw [5, 6, 7, 11] (fun _ _ _ iv wr => ∃ (i : Nat) (s1 s2 : Int), i ≤ len ∧ iv = .int .i64 (i : Int) ∧ Hid (sumW ps ws (L.take i) = (s1, s2)) ∧ Hid (Two wr G 0 0) ∧ Hid (Two wr (G + 1) s1 s2) ∧ Below G w wr) (fun _ _ _ iv _ => len - (intOf iv).toNat)
  case atStart => exact ⟨0, 0, 1, Nat.zero_le _, rfl, rfl, T0, T1, B0⟩
  case round =>
    clear T0 T1 B0
    obtain ⟨i, s1, s2, hil, rfl, hS, hT0, hT1, hB⟩ := hrel
    have hBs : G ≤ wr.heap.size := by have := hB.size; omega
    have hBw : Below w.heap.size w wr := hG.symm ▸ hB
    by_cases hlt : i < len
    · obtain ⟨b, off, rfl, hb, hcell⟩ := (HI.out.below hBw).2.2.2 (by omega)
      have hci := hcell i hlt
      have hiL : i < L.length := by rw [H1.out]; exact hlt
      obtain ⟨j, hj⟩ : ∃ j, L[i]?.getD 0 = j := ⟨_, rfl⟩
      have hjm : j ∈ L := by rw [← hj]; simp [hiL]
      have hjb : (L.map B)[i]?.getD 0 = B j := by rw [← hj]; simp [hiL]
      rw [hjb] at hci
      obtain ⟨av, l, c, hblk⟩ := HP.out j hjm
      have hblk2 : wr.heap[B j]? = some (.cells (pileC av l c (mAt ps j) (tfW ws j)) 158 (0, 0)) := (hBw.block _ (blk_lt hblk)).trans hblk
      have hgl := blk_lt hblk2
      obtain ⟨hw1, hw2⟩ := HW.out j hjm
      have hmj := HM.out j hjm
      have hv1 := HC.out (i + 1) hlt
      have hv0 := HC.out i (by omega)
      rw [takeN_snoc hiL, hj, sumW_snoc] at hv1
      have HN0 : Hid (sumW ps ws (L.take (i + 1)) = tfAdd (sumW ps ws (L.take i)) (tfW ws j) (mAt ps j)) := by unfold Hid; rw [takeN_snoc hiL, hj, sumW_snoc]
      obtain ⟨w1, w2, hwe⟩ : ∃ w1 w2, tfW ws j = (w1, w2) := ⟨_, _, rfl⟩
      obtain ⟨m, hme⟩ : ∃ m, mAt ps j = m := ⟨_, rfl⟩
      obtain ⟨g, hge⟩ : ∃ g, B j = g := ⟨_, rfl⟩
      rw [hwe, hme] at hblk2 hw2 hv1 HN0
      rw [hwe] at hw1
      rw [hme] at hmj
      rw [hS.out] at hv1 HN0 hv0
      rw [hge] at hci hblk2 hgl
      have hw2' : fracB (ofF (w1 * m) w2) = true := hw2
      obtain ⟨p1, p2, hpe⟩ : ∃ p1 p2, ofF (w1 * m) w2 = (p1, p2) := ⟨_, _, rfl⟩
      obtain ⟨t1, t2, hte⟩ : ∃ t1 t2, tfAdd (s1, s2) (w1, w2) m = (t1, t2) := ⟨_, _, rfl⟩
      rw [hte] at hv1 HN0
      rw [hpe] at hw2'
      have hte2 : ofF (sumF (s1, s2) (p1, p2)).1 (sumF (s1, s2) (p1, p2)).2 = (t1, t2) := by rw [← hte]; unfold tfAdd; rw [hpe]
      have HRT : Hid (redOk (proF (w1, w2) (m, 1)).1 (proF (w1, w2) (m, 1)).2 = true) := by
        unfold Hid redOk proF
        show fracB (ofF (w1 * m) (w2 * 1)) = true
        rw [Int.mul_one, hpe]; exact hw2'
      have HRV : Hid (redR (proF (w1, w2) (m, 1)).1 (proF (w1, w2) (m, 1)).2 = (p1, p2)) := by
        unfold Hid redR; rw [HRT.out, if_pos rfl]
        show ofF (w1 * m) (w2 * 1) = _
        rw [Int.mul_one, hpe]
      have HQT : Hid (redOk (sumF (s1, s2) (p1, p2)).1 (sumF (s1, s2) (p1, p2)).2 = true) := by unfold Hid redOk; rw [hte2]; exact hv1
      have HQV : Hid (redR (sumF (s1, s2) (p1, p2)).1 (sumF (s1, s2) (p1, p2)).2 = (t1, t2)) := by unfold Hid redR; rw [HQT.out, if_pos rfl, hte2]
      have hm1 : fracB (m, 1) = true := fracB_of (by show -9999999 ≤ m ∧ m ≤ 9999999; omega) (by show 1 ≤ (1 : Int) ∧ (1 : Int) ≤ 9999999; omega) (by unfold gcdI; simp)
      have c1 : wr.cell? ⟨g, 1, none⟩ = some (.int .i64 m) := blk_cell hblk2 1
      have c2 : wr.cell? ⟨g, 2, none⟩ = some (.int .i64 w1) := blk_cell hblk2 2
      have c3 : wr.cell? ⟨g, 3, none⟩ = some (.int .i64 w2) := blk_cell hblk2 3
      have HB := Lib.hid hB
      clear hcell hjb hj hblk hblk2 hwe hme hge hw2 hte hte2 hpe hjm hB hBw
      go_upto_region 5 with fail
      generalize hW0 : wr = W0 at *
      clear hW0
      go_cut [6, 7] from 15 to 27 (fun s6 s7 wx => MadeB W0 p1 p2 true s6 s7 wx)
      case first =>
        go_region_law (first
          | (go_simp; go_at_call 127; refine (times_as w1 w2 m 1 p1 p2 true _ hw1 hm1 HRV.out HRT.out).mono ?_; rintro e w3 ⟨rfl, hb0⟩; have hb9 := below_drew hb0; (first | (have N3 := Lib.hid ((Two.new W0 0 0 40).below hb9); have C3 := Lib.hid (below_on (below_more (Below.refl _ W0) (.cells #[.int .i64 0, .int .i64 0] 40)) hb9); obtain ⟨ln3, n3, m3, g3, h3⟩ := N3.out; clear hb9 hb0) | (have C3 := Lib.hid (below_on (Below.refl _ W0) hb9); clear hb9 hb0))))
        all_goals
          have hs1 := C3.out.size
          go_wp2_with fail
          go_meet
          first
            | exact made_new C3.out
            | exact made_old N3.out C3.out (by omega)
      case rest =>
      obtain ⟨p, rfl, rfl, hT, hBx⟩ := hcut
      have U0 := Lib.hid (hT0.out.below hBx)
      have U1 := Lib.hid (hT1.out.below hBx)
      have UP := Lib.hid hT
      have B1 : Below G w _ := HB.out.trans (hBx.mono hBs)
      clear hT0 hT1 hT hBx HB c1 c2 c3 hci hgl hb hBs
      rename World => w4
      clear W0
      obtain ⟨lq, t0, t9, -, -⟩ := U1.out
      obtain ⟨lp, u0, u9, -, -⟩ := UP.out
      go_wp2_with fail
      refine (plus_as s1 s2 p1 p2 t1 t2 true _ hv0 hw2' HQV.out HQT.out).mono ?_
      rintro e w5 ⟨rfl, hb5⟩
      have V0 := Lib.hid (U0.out.below hb5)
      have V1 := Lib.hid (U1.out.below hb5)
      have hB4s : G ≤ w4.heap.size := by have := B1.size; omega
      have B5 : Below G w w5 := B1.trans (hb5.mono hB4s)
      clear U0 U1 UP lq t0 t9 lp u0 u9 B1 hb5
      obtain ⟨l1, k0, k9, f0, f9⟩ := V1.out
      obtain ⟨l0, r0, r9, rf0, rf9⟩ := V0.out
      have y1 : (w5.setCell ⟨G + 1, 0, none⟩ (.int .i64 t1)).cell? ⟨G + 1, 1, none⟩ = some (.int .i64 s2) := by
        rw [World.cell?_setCell_other _ _ _ _ (by intro e; injection e with _ e2; exact absurd e2 (by decide))]; exact k9
      have y2 : (w5.setCell ⟨G + 1, 0, none⟩ (.int .i64 t1)).frozen? ⟨G + 1, 1, none⟩ = false := by rw [World.frozen?_setCell]; exact f9
      have Z1 : Hid (Two ((w5.setCell ⟨G + 1, 0, none⟩ (.int .i64 t1)).setCell ⟨G + 1, 1, none⟩ (.int .i64 t2)) (G + 1) t1 t2) := two_set V1.out t1 t2
      have Z0 : Hid (Two ((w5.setCell ⟨G + 1, 0, none⟩ (.int .i64 t1)).setCell ⟨G + 1, 1, none⟩ (.int .i64 t2)) G 0 0) := two_aside (two_aside V0.out (by omega) _) (by omega) _
      have B6 : Below G w ((w5.setCell ⟨G + 1, 0, none⟩ (.int .i64 t1)).setCell ⟨G + 1, 1, none⟩ (.int .i64 t2)) := (B5.setCell (p := ⟨G + 1, 0, none⟩) (by show G ≤ G + 1; omega) _).setCell (p := ⟨G + 1, 1, none⟩) (by show G ≤ G + 1; omega) _
      clear r0 r9 rf0 rf9 V0 V1
      go_wp2
      go_roundw
      case rel => exact ⟨i + 1, t1, t2, by omega, by go_num, HN0, Z0, Z1, B6⟩
      case measure => simp [intOf]; omega
    · obtain rfl : i = len := by omega
      have hS2 := hS.out
      rw [← H1.out, List.take_length, HR.out] at hS2
      obtain ⟨e1, e2⟩ := Prod.ext_iff.1 hS2
      have e1 : x = s1 := e1
      have e2 : y = s2 := e2
      subst e1
      subst e2
      obtain ⟨l0, a0, a9, af0, af9⟩ := hT0.out
      obtain ⟨l1, b0, b9, -, -⟩ := hT1.out
      have k0 := Two.set0 hT0.out (.int .i64 x)
      have k9 := Two.set1 hT0.out (.int .i64 x) (.int .i64 y)
      go_wp2
      refine bodyPost_ret (v := .agg #[.int .i64 x, .int .i64 y]) (by simp [results, Try.results112, go_sem, k0, k9]) rfl ?_
      exact ⟨rfl, below_set2 hBw (by omega) _ _⟩

end Go.Proofs.Ytafnmongglhlaaa

namespace Go.Proofs.Ytafnmongglhlaaa
open Go.RowKit

attribute [local go_sem] Oper.semAt_some

theorem tfOver_next {least : Bool} {cs : List Fr} {gs : List Bool} {lots : List Int} {k : Nat} {z b : Int} (h : k < lots.length) (hz : lots[k]?.getD 0 = z) (hb : tfOver least cs gs (-1) (lots.take k) = b) :
    tfOver least cs gs (-1) (lots.take (k + 1)) = if gs[z.toNat]?.getD false = true then b else if b < 0 then z else tfPick least cs b z := by
  have e : lots[k] = z := by rw [← hz]; simp [h]
  rw [List.take_succ_eq_append_getElem h, tfOver_app, hb, e]; rfl
theorem tfPick_is {least : Bool} {cs : List Fr} {b z : Int} {v : Bool} (h : lessF (tfC cs b) (tfC cs z) = v) : tfPick least cs b z = if (if least = true then !v else v) = true then z else b := by
  unfold tfPick tfAhead; rw [h]

theorem beh_again {W w : World} (h : Below W.heap.size W w) {b o : Nat} {v : Value} (hc : ∀ u : Beh W, u.w.cell? ⟨b, o, none⟩ = some v) (hb : b < W.heap.size) : ∀ u : Beh w, u.w.cell? ⟨b, o, none⟩ = some v :=
  Beh.cell (hc ⟨w, h⟩) (Nat.lt_of_lt_of_le hb h.size)

set_option maxRecDepth 100000 in
set_option maxHeartbeats 4000000 in
/-- **spec.l15Best**. -/
theorem best15_as (a : Option Addr) (cap n : Nat) (cs : List Fr) (ag : Option Addr) (cg : Nat) (gs : List Bool) (al : Option Addr) (cl : Nat) (lots : List Int) (least : Bool) (r : Int) (w : World)
    (h : IsFr w a n cap cs) (hg : IsBools w ag n cg gs) (hl : IsInts w al n cl lots) (hm : ∀ z ∈ lots, 0 ≤ z ∧ z < (n : Int)) (hv : ∀ j, j < n → fracB (fAt cs j) = true) (hr : tfOver least cs gs (-1) lots = r) :
    Calls Try.prog 83 #[.slice a n cap, .slice ag n cg, .slice al n cl, .bool least] w fun e w' => e = .returned (.int .i64 r) ∧ Below w.heap.size w w' := by
  have HI := Lib.hid h
  have HG := Lib.hid hg
  have HL := Lib.hid hl
  have H1 := Lib.hid hl.1
  have HM := Lib.hid hm
  have HV := Lib.hid hv
  have HR := Lib.hid hr
  have hnm := h.2.2.1
  clear h hg hl hm hv hr
  go_enter Try.func83, Try.ntmps83
  go_wp2
  go_loopw [9, 10, 11, 22, 27, 31, 46] (fun bv iv _ _ _ _ _ wr => ∃ (k : Nat) (b : Int), k ≤ n ∧ iv = .int .i64 (k : Int) ∧ bv = .int .i64 b ∧ (b = -1 ∨ 0 ≤ b ∧ b < (n : Int)) ∧ Hid (tfOver least cs gs (-1) (lots.take k) = b) ∧ Below w.heap.size w wr) (fun _ iv _ _ _ _ _ _ => n - (intOf iv).toNat)
  case atStart => exact ⟨0, -1, Nat.zero_le _, rfl, rfl, .inl rfl, rfl, Below.refl _ _⟩
  case round =>
    obtain ⟨k, b, hk, rfl, rfl, hbr, hp, hB⟩ := hrel
    by_cases hlt : k < n
    · obtain ⟨lb, lo, rfl, hlb, hlc⟩ := (HL.out.below hB).2.2.2 (by omega)
      have hz := hlc k hlt
      obtain ⟨z, hzz⟩ : ∃ z, lots[k]?.getD 0 = z := ⟨_, rfl⟩
      rw [hzz] at hz
      have hkl : k < lots.length := by rw [H1.out]; exact hlt
      have hzr : 0 ≤ z ∧ z < (n : Int) := HM.out z (by rw [← hzz]; simp [hkl])
      have HNX := Lib.hid (tfOver_next (least := least) (cs := cs) (gs := gs) hkl hzz hp.out)
      obtain ⟨x, rfl⟩ := Int.eq_ofNat_of_zero_le hzr.1
      have hxn : x < n := by omega
      obtain ⟨gb, go, rfl, hgb, hgc⟩ := (HG.out.below hB).2.2.2 (by omega)
      have hgz := hgc x hxn
      rw [Int.toNat_natCast] at HNX
      clear hlc hgc hkl hzz hp
      cases hgx : gs[x]?.getD false
      · rw [hgx] at hgz HNX
        clear hgx
        by_cases hb0 : b < 0
        · have HX : Hid (tfOver least cs gs (-1) (lots.take (k + 1)) = (x : Int)) := by unfold Hid; rw [HNX.out, if_neg (by decide), if_pos hb0]
          have hd0 : decide (b < 0) = true := decide_eq_true hb0
          go_wp2
          go_roundw
          case rel => exact ⟨k + 1, (x : Int), by omega, by go_num, rfl, .inr ⟨by omega, by omega⟩, HX, hB⟩
          case measure => simp [intOf]; omega
        · have hd0 : decide (b < 0) = false := decide_eq_false hb0
          obtain ⟨y, rfl⟩ := Int.eq_ofNat_of_zero_le (show 0 ≤ b by omega)
          have hyn : y < n := by omega
          obtain ⟨fb, fo, rfl, hfb, cy0, cy1⟩ := (HI.out.below hB).at hyn
          obtain ⟨fb', fo', he, hfb', cx0, cx1⟩ := (HI.out.below hB).at hxn
          injection he with he
          injection he with he1 he2 _
          subst he1
          subst he2
          obtain ⟨v, hvv⟩ : ∃ v, lessF (tfC cs (y : Int)) (tfC cs (x : Int)) = v := ⟨_, rfl⟩
          have HP := Lib.hid (tfPick_is (least := least) hvv)
          have hfy := HV.out y hyn
          have hfx := HV.out x hxn
          have ey : tfC cs (y : Int) = fAt cs y := by unfold tfC fAt; rw [Int.toNat_natCast]
          have ex : tfC cs (x : Int) = fAt cs x := by unfold tfC fAt; rw [Int.toNat_natCast]
          rw [ey, ex] at hvv
          obtain ⟨y1, y2, hy⟩ : ∃ y1 y2, fAt cs y = (y1, y2) := ⟨_, _, rfl⟩
          obtain ⟨x1, x2, hx⟩ : ∃ x1 x2, fAt cs x = (x1, x2) := ⟨_, _, rfl⟩
          rw [hy] at hvv hfy cy0 cy1
          rw [hx] at hvv hfx cx0 cx1
          have HLB : Hid (lessB (y1, y2) (x1, x2) = v) := by unfold Hid lessB; rw [hfy, hfx, hvv]; rfl
          clear hfy hfx ey ex hy hx hvv
          have u0 : ∀ u : Beh wr, u.w.cell? ⟨fb, fo + y * 2, none⟩ = _ := Beh.cell cy0 hfb
          have u1 : ∀ u : Beh wr, u.w.cell? ⟨fb, fo + y * 2 + 1, none⟩ = _ := Beh.cell cy1 hfb
          have u2 : ∀ u : Beh wr, u.w.cell? ⟨fb, fo + x * 2, none⟩ = _ := Beh.cell cx0 hfb
          have u3 : ∀ u : Beh wr, u.w.cell? ⟨fb, fo + x * 2 + 1, none⟩ = _ := Beh.cell cx1 hfb
          clear cy0 cy1 cx0 cx1 hfb'
          have hyi : (y : Int) < (n : Int) := by omega
          have HX : Hid (tfOver least cs gs (-1) (lots.take (k + 1)) = if (if least = true then !v else v) = true then (x : Int) else (y : Int)) := by unfold Hid; rw [HNX.out, if_neg (by decide), if_neg hb0, HP.out]
          clear HNX HP
          cases least
          · go_wp2_with fail
            refine wp_region_below (by kernel_rfl) (by kernel_rfl) ?_
            repeat (go_big_quiet_step (fail))
            refine wpQuiet_nil ?_
            rintro w8 ⟨⟨_, hb8'⟩, he⟩
            have hb8 : Below wr.heap.size wr w8 := by rw [he]; exact hb8'
            clear he hb8'
            have v0 := beh_again hb8 u0 hfb
            have v1 := beh_again hb8 u1 hfb
            have v2 := beh_again hb8 u2 hfb
            have v3 := beh_again hb8 u3 hfb
            have hBw := hB.trans (hb8.mono hB.size)
            clear u0 u1 u2 u3 hb8
            go_wp2_with fail
            refine wp_region_below (by kernel_rfl) (by kernel_rfl) ?_
            repeat (go_big_quiet_step (first | (go_at_call 84; exact Calls.beh (specFracLess_as y1 y2 x1 x2 v _ HLB.out))))
            refine wpQuiet_nil ?_
            rintro w9 ⟨⟨_, hb9'⟩, he⟩
            have hb9 : Below w8.heap.size w8 w9 := by rw [he]; exact hb9'
            clear he hb9'
            have hBy := hBw.trans (hb9.mono hBw.size)
            clear v0 v1 v2 v3 hb9 hBw
            cases v
            · go_wp2
              go_roundw
              case rel => exact ⟨k + 1, (y : Int), by omega, by go_num, rfl, .inr ⟨by omega, by omega⟩, HX.out, hBy⟩
              case measure => simp [intOf]; omega
            · go_wp2
              go_roundw
              case rel => exact ⟨k + 1, (x : Int), by omega, by go_num, rfl, .inr ⟨by omega, by omega⟩, HX.out, hBy⟩
              case measure => simp [intOf]; omega
          · go_wp2_with fail
            refine wp_region_below (by kernel_rfl) (by kernel_rfl) ?_
            repeat (go_big_quiet_step (first | (go_at_call 84; exact Calls.beh (specFracLess_as y1 y2 x1 x2 v _ HLB.out))))
            refine wpQuiet_nil ?_
            rintro w8 ⟨⟨_, hb8'⟩, he⟩
            have hb8 : Below wr.heap.size wr w8 := by rw [he]; exact hb8'
            clear he hb8'
            have hBw := hB.trans (hb8.mono hB.size)
            clear u0 u1 u2 u3 hb8
            cases v
            · go_wp2
              go_roundw
              case rel => exact ⟨k + 1, (x : Int), by omega, by go_num, rfl, .inr ⟨by omega, by omega⟩, HX.out, hBw⟩
              case measure => simp [intOf]; omega
            · go_wp2_with fail
              refine wp_region_below (by kernel_rfl) (by kernel_rfl) ?_
              repeat (go_big_quiet_step (fail))
              refine wpQuiet_nil ?_
              rintro w9 ⟨⟨_, hb9'⟩, he⟩
              have hb9 : Below w8.heap.size w8 w9 := by rw [he]; exact hb9'
              clear he hb9'
              have hBy := hBw.trans (hb9.mono hBw.size)
              clear hb9 hBw
              go_wp2
              go_roundw
              case rel => exact ⟨k + 1, (y : Int), by omega, by go_num, rfl, .inr ⟨by omega, by omega⟩, HX.out, hBy⟩
              case measure => simp [intOf]; omega
      · rw [hgx] at hgz HNX
        clear hgx
        have HX : Hid (tfOver least cs gs (-1) (lots.take (k + 1)) = b) := by unfold Hid; rw [HNX.out, if_pos rfl]
        go_wp2
        go_roundw
        case rel => exact ⟨k + 1, b, by omega, by go_num, rfl, hbr, HX, hB⟩
        case measure => simp [intOf]; omega
    · obtain rfl : k = n := by omega
      have HX : Hid (b = r) := by
        have := hp.out
        rw [← H1.out, List.take_length, HR.out] at this
        exact this.symm
      go_wp2
      go_ret
      exact ⟨ret_int (by rw [HX.out]), hB⟩

end Go.Proofs.Ytafnmongglhlaaa
