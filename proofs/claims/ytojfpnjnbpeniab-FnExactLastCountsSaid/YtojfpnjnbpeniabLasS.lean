/-
  spec.LastCounts: for every list of piles (at most 1048600, with texts of at most 1048600 bytes) and every number.
-/
import Derived.Test.YtojfpnjnbpeniabGrp11
import Derived.Test.YtojfpnjnbpeniabGrp12
import Derived.Test.YtojfpnjnbpeniabGrp7
namespace Go.Proofs.Ytojfpnjnbpeniab
open Go.RowKit

attribute [local go_sem] Oper.semAt_some

set_option maxRecDepth 100000 in
set_option maxHeartbeats 4000000 in
/-- **spec.LastCounts**. -/
theorem specLast_as (a : Option Addr) (len cap : Nat) (ps : List Pl) (n : Int) (v : Bool) (l : List Int) (w : World) (h : IsPiles w a len cap ps) (hs : Small ps) (hv : fitsB ps n = v) (hl : lasR ps n = l) :
    Calls Try.prog 5 #[.slice a len cap, .int .i64 n] w (Told w l v) := by
  obtain ⟨i0, hi, hz0, hz1, hz2⟩ := info_parts int_info
  have HI := Lib.hid h
  have HS := Lib.hid hs
  have H1 := Lib.hid h.1
  clear h hs
  cases v
  · have HV := Lib.hid hv
    have e : l = [] := by rw [← hl, lasR, if_neg (by rw [hv]; decide)]
    subst e
    clear hl hv
    go_enter Try.func5, Try.ntmps5
    go_wp2_with fail
    refine (specFits_as _ _ _ ps n false _ HI.out HS.out HV.out).mono ?_
    rintro e w1 ⟨rfl, hb⟩
    go_wp2
    go_ret2
    exact ⟨some ⟨w1.heap.size, 0, none⟩, 0, rfl, World.ownsRow_lit w1 #[] 0 hb.size (by unfold maxLen; omega) rfl, hb.alloc hb.size _⟩
  · obtain ⟨hp, hn1, hn5, -⟩ := fits_parts hv
    obtain ⟨N, rfl⟩ : ∃ N : Nat, n = (N : Int) := ⟨n.toNat, by omega⟩
    have hl12 : len ≤ 12 := by have := (pilesB_pos hp).2.2.2.2; rw [H1.out] at this; exact this
    have hN1 : 1 ≤ N := by omega
    have hN5 : N ≤ 5 := by omega
    have HPB : Hid (∀ i, i < N → 0 ≤ (lasP N) i ∧ (lasP N) i ≤ 5) := lasP_bound N
    have e : lasR ps (N : Int) = ptL (lasP N) ps N := by
      rw [lasR, if_pos hv, Int.toNat_natCast, las_pts hN1]
      intro p hm
      have := (fits_both hv).2 p hm
      rw [parseL_ok this.1]; exact this.2
    have HL : Hid (ptL (lasP N) ps N = l) := by rw [Hid, ← e, hl]
    have hlen : (ptL (lasP N) ps N).length = N := ptL_length _ _ _
    have HV := Lib.hid hv
    have HP := Lib.hid hp
    clear hv hp hl e
    go_enter Try.func5, Try.ntmps5
    go_wp2_with fail
    refine (specFits_as _ _ _ ps (N : Int) true _ HI.out HS.out HV.out).mono ?_
    rintro e w1 ⟨rfl, hb1⟩
    have HI1 := Lib.hid (HI.out.below hb1)
    have hb1 := Lib.hid hb1
    clear HI
    obtain ⟨g, hg⟩ : ∃ g, w1.heap.size = g := ⟨_, rfl⟩
    go_wp2_with (at_make; refine wpList_make_full _ rfl _ _ 24 rfl w1.heap.size 3 i0 (.int .i64 0) 1 Try.underlying24 hi hz0 hz1 .i64 .i64 _ _ N rfl rfl rfl rfl (by rw [hz2]; omega) (by unfold maxLen; omega) (Nat.le_refl _) ?_; intro w3 hown hgrow)
    have hb3 : Below g w1 w3 := hg ▸ (Below.refl _ w1).grown hgrow (Nat.le_refl _) (fun k e => by cases e)
    rw [hg] at hown
    have O3 : Hid (w3.ownsRow g 3 1 (.slice (some ⟨g, 0, none⟩) N N) N ((ptL (lasP N) (ps.take 0) N).map (Value.int .i64))) := by
      unfold Hid; rw [List.take_zero, ptL_nil, ← zeros_made]
      exact hown
    have HG := Lib.hid hg
    clear hown hgrow hg hi hz0 hz1 hz2
    go_wp2
    go_loopw [7, 8, 9] (fun iv _ _ wr => ∃ i : Nat, i ≤ len ∧ iv = .int .i64 (i : Int) ∧ Hid (wr.ownsRow g 3 1 (.slice (some ⟨g, 0, none⟩) N N) N ((ptL (lasP N) (ps.take i) N).map (Value.int .i64))) ∧ Below g w1 wr) (fun iv _ _ _ => len - (intOf iv).toNat)
    case atStart => exact ⟨0, Nat.zero_le _, rfl, O3, hb3⟩
    case round =>
      clear O3 hb3
      obtain ⟨i, hil, rfl, hO, hB⟩ := hrel
      have hgr : g ≤ wr.heap.size := by have := hB.size; rw [HG.out] at this; exact this
      have hBw : Below w1.heap.size w1 wr := HG.out.symm ▸ hB
      by_cases hlt : i < len
      · obtain ⟨b, off, rfl, hb, c0, c1⟩ := (HI1.out.below hBw).at_text hlt
        have hbw : b < w1.heap.size := by
          obtain ⟨b', off', e, hb', -⟩ := HI1.out.at_text hlt
          injection e with e
          injection e with e
          omega
        obtain ⟨t, ht⟩ : ∃ t, tAt ps i = t := ⟨_, rfl⟩
        obtain ⟨m, hm⟩ : ∃ m, mAt ps i = m := ⟨_, rfl⟩
        obtain ⟨pl, hpl⟩ : ∃ pl, parseL t = pl := ⟨_, rfl⟩
        have hst : t.size ≤ 1048600 := by rw [← ht]; exact HS.out i
        have hm99 : 0 ≤ m ∧ m ≤ 99 := by rw [← hm]; exact mAt_valid HP.out i
        have hips : i < ps.length := by rw [H1.out]; exact hlt
        have hvN : validB pl (N : Int) = true := by rw [← hpl, ← ht]; exact (fits_parts HV.out).2.2.2 i hips
        have hlN : pl.length ≤ N := by have := vB_short hvN; omega
        have HNX : Hid (addTo (lasP N) m pl pl.length (ptL (lasP N) (ps.take i) N) = ptL (lasP N) (ps.take (i + 1)) N) := by
          have := ptL_next (P := (lasP N)) (n := N) hips (by rw [ht, hpl]; exact hvN)
          rw [ht, hm, hpl] at this; exact this
        have HBD : Hid (∀ x : Nat, 0 ≤ (ptL (lasP N) (ps.take i) N)[x]?.getD 0 ∧ (ptL (lasP N) (ps.take i) N)[x]?.getD 0 ≤ 5940) := fun x => ptL_bound HPB.out HV.out i x
        have HZ : Hid (∀ z ∈ pl, 0 ≤ z ∧ z < (N : Int)) := (vB_mem hvN).2.2
        obtain ⟨cs, hcs⟩ : ∃ cs, ptL (lasP N) (ps.take i) N = cs := ⟨_, rfl⟩
        have hcl : cs.length = N := by rw [← hcs]; exact ptL_length _ _ _
        rw [hcs] at hO HNX HBD
        rw [ht] at c0
        rw [hm] at c1
        have HPL := Lib.hid hpl
        clear ht hpl hm hBw hcs hips hvN
        go_wp2_with fail
        refine (specParse_as t pl _ _ hst HPL.out rfl).mono ?_
        rintro e w4 ⟨a4, c4, rfl, ho4, hb4⟩
        have cm : w4.cell? ⟨b, off + i * 2 + 1, none⟩ = some (.int .i64 m) := (hb4.cell (p := ⟨b, off + i * 2 + 1, none⟩) hb).trans c1
        have hO4 : Hid (w4.ownsRow g 3 1 (.slice (some ⟨g, 0, none⟩) N N) N ((addTo (lasP N) m pl 0 cs).map (Value.int .i64))) := owns_under hO.out hb4
        have hgl : g < wr.heap.size := (hO.out.lt g rfl).2
        have B4 : Below g w1 w4 := hB.trans (hb4.mono hgr)
        have I4' : w4.ownsRow (g + 1) 3 1 (.slice a4 pl.length c4) pl.length (pl.map (Value.int .i64)) := ho4.mono (by omega)
        have I4 := Lib.hid I4'
        have hbg : b < g := by rw [← HG.out]; exact hbw
        clear ho4 hb4 hO hB c0 c1 hgr I4' hb
        by_cases hfull : pl.length = N
        · obtain ⟨b4, o4, rfl, -, hc4⟩ := (IsInts.of_owned I4.out (by omega)).2.2.2 (by omega)
          have hz := hc4 (N - 1) (by omega)
          obtain ⟨z, hzz⟩ : ∃ z, pl[N - 1]?.getD 0 = z := ⟨_, rfl⟩
          rw [hzz] at hz
          have hzr : 0 ≤ z ∧ z < (N : Int) := HZ.out z (by rw [← hzz]; have : N - 1 < pl.length := by omega
                                                           simp [this])
          obtain ⟨x, rfl⟩ := Int.eq_ofNat_of_zero_le hzr.1
          have hxN : x < N := by omega
          obtain ⟨cv, hcv⟩ : ∃ cv, cs[x]?.getD 0 = cv := ⟨_, rfl⟩
          have hcvb : 0 ≤ cv ∧ cv ≤ 8415 := by
            have := HBD.out x
            rw [hcv] at this; omega
          have hst2 : addTo (lasP N) m pl pl.length cs = cs.set x (cv + m) := by
            have h1 : addTo (lasP N) m pl (N - 1) cs = cs := addTo_miss (d := N - 1) (fun i hi => by unfold lasP; rw [if_neg (by omega)]) cs (N - 1) (Nat.le_refl _)
            have e1 : pl.length = (N - 1) + 1 := by omega
            have e2 : lasP N (N - 1) = 1 := by unfold lasP; rw [if_pos rfl]
            rw [e1, addTo_succ, h1, hzz, Int.toNat_natCast, hcv, e2, Int.mul_one]
          have hcell : w4.drew.cell? ⟨g, x, none⟩ = some (.int .i64 cv) := by
            have h1 : w4.drew.cell? ⟨g, x, none⟩ = w4.cell? ⟨g, x, none⟩ := rfl
            rw [h1, hO4.out.cellAt x (by omega), ← hcv, addTo_zero]
            have : x < cs.length := by omega
            simp [this]
          have hcell0 : w4.cell? ⟨g, x, none⟩ = some (.int .i64 cv) := hcell
          have hfz : w4.drew.frozen? ⟨g, x, none⟩ = false := hO4.out.frozenAt x
          have O7 : Hid ((w4.drew.setCell ⟨g, x, none⟩ (.int .i64 (cv + m))).ownsRow g 3 1 (.slice (some ⟨g, 0, none⟩) N N) N ((ptL (lasP N) (ps.take (i + 1)) N).map (Value.int .i64))) := by
            have h1 := (hO4.out.stored x (.int .i64 (cv + m))).1
            rw [addTo_zero, map_set_int, ← hst2, HNX.out] at h1
            exact h1
          have B7 : Below g w1 (w4.drew.setCell ⟨g, x, none⟩ (.int .i64 (cv + m))) := (B4.drew).setCell (p := ⟨g, x, none⟩) (Nat.le_refl _) _
          have hwn := Lib.hid (IntWalk.i64_in ((N : Int) - 1) (by omega))
          have hni : (N : Int) - 1 = ((N - 1 : Nat) : Int) := by omega
          have hnl : N - 1 < N := by omega
          obtain ⟨M, hM⟩ : ∃ M, N - 1 = M := ⟨_, rfl⟩
          rw [hM] at hz hni hnl
          have hMi : (M : Int) < (N : Int) := by omega
          have hee : ((N : Int) == (N : Int)) = true := by simp
          clear hc4 hcv hzz hst2 hO4 I4 B4 hM HNX HBD HZ
          rw [hfull]
          go_wp2_with fail
          refine region_quiet_tail 20 (by kernel_rfl) (by kernel_rfl) ?_
          simp only [List.take_succ_cons, List.take_zero, List.drop_succ_cons, List.drop_zero]
          repeat (go_big_quiet_step (fail))
          refine wpQuiet_nil ?_
          generalize w4.drew = w6 at O7 B7 hcell hfz ⊢
          go_wp2
          go_roundw
          case rel => exact ⟨i + 1, by omega, by go_num, O7, B7⟩
          case measure => simp [intOf]; omega
        · have hee : ((pl.length : Int) == (N : Int)) = false := beq_eq_false_iff_ne.2 (by omega)
          have O7 : Hid (w4.ownsRow g 3 1 (.slice (some ⟨g, 0, none⟩) N N) N ((ptL (lasP N) (ps.take (i + 1)) N).map (Value.int .i64))) := by
            have h1 := hO4.out
            rw [addTo_zero, ← addTo_miss (P := lasP N) (m := m) (zs := pl) (d := pl.length) (fun i hi => by unfold lasP; rw [if_neg (by omega)]) cs pl.length (Nat.le_refl _), HNX.out] at h1
            exact h1
          clear hO4 I4
          go_wp2
          go_roundw
          case rel => exact ⟨i + 1, by omega, by go_num, O7, B4⟩
          case measure => simp [intOf]; omega
      · obtain rfl : i = len := by omega
        have hO9 : Hid (wr.ownsRow g 3 1 (.slice (some ⟨g, 0, none⟩) N N) N ((ptL (lasP N) ps N).map (Value.int .i64))) := by
          have := hO.out; rw [List.take_of_length_le (by rw [H1.out]; exact Nat.le_refl _)] at this; exact this
        go_wp2
        go_ret2
        rw [HL.out] at hlen
        rw [HL.out] at hO9
        rw [Told, hlen]
        refine ⟨some ⟨g, 0, none⟩, N, rfl, hO9.out.mono ?_, hb1.out.trans (Below.mono ?_ hb1.out.size)⟩
        · rw [← HG.out]; exact hb1.out.size
        · exact hBw

end Go.Proofs.Ytojfpnjnbpeniab
