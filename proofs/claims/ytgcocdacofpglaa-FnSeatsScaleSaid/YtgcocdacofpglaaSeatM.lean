/-
  impl.SeatsDivisor: a contract at all arguments. It writes into no memory that was there.
-/
import Derived.Test.YtgcocdacofpglaaGrp10
namespace Go.Proofs.Ytgcocdacofpglaa
open Go.RowKit

attribute [local go_sem] Oper.semAt_some

set_option maxRecDepth 100000 in
set_option maxHeartbeats 8000000 in
/-- **impl.SeatsDivisor**, at valid arguments. -/
theorem implSeats_yes (a : Option Addr) (n cap : Nat) (vs : List Int) (s : Nat) (m : Int) (al : Option Addr) (cl : Nat) (lots : List Int) (r : List Int) (w : World) (h : IsInts w a n cap vs) (hl : IsInts w al n cl lots)
    (hv1 : voteB vs = true) (hs : s ≤ 20) (hm : methB m = true) (hlb : lotsB lots = true) (hr : seatsL vs m lots s = r) :
    Calls Try.prog 10 #[.slice a n cap, .int .i64 (s : Int), .int .i64 m, .slice al n cl] w (Told w r true) := by
  obtain ⟨i0, hi, hz0, hz1, hz2⟩ := info_parts int_info
  have hnv := h.1
  have hnl := hl.1
  have hn5 : n ≤ 5 := by have := (lotsB_len hlb).2; omega
  have hn1 : 1 ≤ n := by have := (lotsB_len hlb).1; omega
  have HI := Lib.hid h
  have HL := Lib.hid hl
  have HM := Lib.hid hm
  have HLB := Lib.hid hlb
  have HEQ : Hid (lots.length = vs.length) := by unfold Hid; omega
  have HNV := Lib.hid hnv
  obtain ⟨⟨x1, -, -⟩, -⟩ := (voteB_iff vs).1 hv1
  rw [hnv] at x1
  have X1 := Lib.hid x1
  have HOC : Hid (okC vs (List.replicate n 0) m = true) := by
    have := (seats_are (vs := vs) hm hlb HEQ.out 0 (by omega)).1
    rw [show seatsL vs m lots 0 = List.replicate vs.length 0 from rfl, hnv] at this
    exact (okC_iff _ _ _).2 ⟨hv1, by rw [hnv]; exact this, hm⟩
  have HR := Lib.hid hr
  obtain ⟨G, hG⟩ : ∃ G, w.heap.size = G := ⟨_, rfl⟩
  have HG := Lib.hid hG
  clear h hl hv1 hm hlb hnv hnl x1 hr
  have HSR := Lib.hid (inB_yes (x := (s : Int)) (lo := 0) (hi := 20) (by omega) (by omega))
  go_enter Try.func10, Try.ntmps10
  go_wp2_with fail
  refine (inRange_as (s : Int) true _ HSR.out).mono ?_
  rintro e w1 ⟨rfl, rfl⟩
  go_wp2_with fail
  refine (lotsOf_as _ _ _ lots n true _ HL.out (by rw [HLB.out]; simp)).mono ?_
  rintro e w1 ⟨rfl, hb⟩
  have hsz : G ≤ w1.heap.size := by rw [← hG]; exact hb.size
  have HB1 := Lib.hid hb
  have HI1 := Lib.hid (HI.out.below hb)
  have HL1 := Lib.hid (HL.out.below hb)
  clear hb
  go_wp2_with (at_make; refine wpList_make_full _ rfl _ _ 23 rfl G 3 i0 (.int .i64 0) 1 Try.underlying23 hi hz0 hz1 .i64 .i64 _ _ n rfl rfl rfl rfl (by rw [hz2]; omega) (by unfold maxLen; omega) hsz ?_; intro w3 hown hgrow)
  obtain ⟨gg, hgg⟩ : ∃ gg, w1.heap.size = gg := ⟨_, rfl⟩
  have HB3 : Hid (Below w1.heap.size w1 w3) := (Below.refl _ w1).grown hgrow (Nat.le_refl _) (fun k e => by cases e)
  rw [hgg] at hown ⊢
  have O3 : Hid (w3.ownsRow G 3 1 (.slice (some ⟨gg, 0, none⟩) n n) n ((List.replicate n 0).map (Value.int .i64))) := by
    unfold Hid; rw [← zeros_made]; exact hown
  have HBW3 : Hid (Below w.heap.size w w3) := below_on HB1.out HB3.out
  have HI3 := Lib.hid (HI1.out.below HB3.out)
  have HL3 := Lib.hid (HL1.out.below HB3.out)
  clear hown hgrow
  refine (newSeat_as _ n cap vs _ n n (List.replicate n 0) m true _ HI3.out (IsInts.of_owned O3.out (by omega)) HOC.out).mono ?_
  rintro e w4 ⟨p, rfl, hb, hT⟩
  obtain ⟨-, T, rfl, hTl, hS⟩ := hT rfl
  have hggl : gg < w3.heap.size := (O3.out.lt gg rfl).2
  have hTg : T ≠ gg := by omega
  have O4 : Hid (w4.ownsRow G 3 1 (.slice (some ⟨gg, 0, none⟩) n n) n ((seatsL vs m lots 0).map (Value.int .i64))) := by
    unfold Hid; show w4.ownsRow G _ 1 _ n ((List.replicate vs.length 0).map _); rw [HNV.out]; exact owns_under O3.out hb
  have B4 : Hid (Below G w w4) := hG ▸ below_on HBW3.out hb
  have HS4 : Hid (T < w4.heap.size ∧ w4.cell? ⟨T, 0, none⟩ = some (.slice a n cap) ∧ w4.cell? ⟨T, 1, none⟩ = some (.slice (some ⟨gg, 0, none⟩) n n) ∧ w4.cell? ⟨T, 2, none⟩ = some (methV m)) := ⟨hS.lt, hS.c0, hS.c1, hS.c2⟩
  have hGT : G ≤ T := by have := HBW3.out.size; omega
  clear hb hT hS hTl HBW3 HI3 HL3 HI1 HL1 HB1 HB3 O3 hggl hgg
  go_wp2
  go_loopw [34] (fun iv wr => ∃ (k : Nat), k ≤ s ∧ iv = .int .i64 (k : Int) ∧ Hid (wr.ownsRow G 3 1 (.slice (some ⟨gg, 0, none⟩) n n) n ((seatsL vs m lots k).map (Value.int .i64))) ∧ Hid (T < wr.heap.size ∧ wr.cell? ⟨T, 0, none⟩ = some (.slice a n cap) ∧ wr.cell? ⟨T, 1, none⟩ = some (.slice (some ⟨gg, 0, none⟩) n n) ∧ wr.cell? ⟨T, 2, none⟩ = some (methV m)) ∧ Hid (Below G w wr)) (fun iv _ => s - (intOf iv).toNat)
  case atStart => exact ⟨0, Nat.zero_le _, rfl, O4, HS4, B4⟩
  case round =>
    clear O4 B4 HS4
    obtain ⟨k, hk, rfl, hO, hT, hB⟩ := hrel
    have hBw : Below w.heap.size w wr := HG.out.symm ▸ hB.out
    obtain ⟨tl, t0, t1, t2⟩ := hT.out
    by_cases hlt : k < s
    · have HT := Lib.hid (totals_of HM.out HLB.out HEQ.out (show k ≤ 20 by omega))
      rw [HNV.out] at HT
      have IG := Lib.hid (IsInts.of_owned hO.out (by omega))
      have HSI : Hid (Sit wr T a n cap vs (some ⟨gg, 0, none⟩) n (seatsL vs m lots k) m) := ⟨tl, t0, t1, t2, HI.out.below hBw, IG.out⟩
      have HRG := next_in (vs := vs) (gs := seatsL vs m lots k) HM.out HLB.out (HEQ.out.trans HNV.out) (by rw [seatsL_length, HNV.out]; exact HT.out)
      obtain ⟨x, hx⟩ : ∃ x, nextL (seV vs) (seV (seatsL vs m lots k)) m lots = x := ⟨_, rfl⟩
      rw [hx] at HRG
      have HSU : Hid (seatsL vs m lots (k + 1) = (seatsL vs m lots k).set x.toNat (seV (seatsL vs m lots k) x + 1)) := by rw [Hid, seatsL_succ, hx]
      obtain ⟨y, rfl⟩ := Int.eq_ofNat_of_zero_le HRG.1
      rw [Int.toNat_natCast, seV_nat] at HSU
      have hyn : y < n := by omega
      obtain ⟨gl, hgl⟩ : ∃ gl, seatsL vs m lots k = gl := ⟨_, rfl⟩
      have hgll : gl.length = n := by rw [← hgl, seatsL_length, HNV.out]
      have HX := Lib.hid hx
      rw [hgl] at HSU HT IG HX hO HSI
      have bz := toB_at HT.out hyn
      obtain ⟨z, hz⟩ : ∃ z, gl[y]?.getD 0 = z := ⟨_, rfl⟩
      rw [hz] at bz HSU
      have HLW := Lib.hid (HL.out.below hBw)
      have hgw : gg < wr.heap.size := (hO.out.lt gg rfl).2
      have q0 := owns_int hO.out hgll hyn hz
      have hyi : (y : Int) < (n : Int) := by omega
      have u0 : ∀ u : Beh wr, u.w.cell? ⟨T, 1, none⟩ = _ := Beh.cell t1 tl
      have u1 : ∀ u : Beh wr, u.w.cell? ⟨gg, y, none⟩ = _ := Beh.cell q0 hgw
      clear hz hgl hx HRG hgll q0 t0 t1 t2
      go_wp2_with fail
      refine wp_region_below_tail 11 (by kernel_rfl) (by kernel_rfl) ?_
      simp only [List.take_succ_cons, List.take_zero, List.drop_succ_cons, List.drop_zero]
      repeat (go_big_quiet_step (first | (go_at_call 28; exact Calls.beh (next_as T _ n cap vs _ n gl m _ cl lots (y : Int) _ (HSI.out.below (Beh.below _)) (HLW.out.below (Beh.below _)) HM.out X1.out HT.out HLB.out HX.out))))
      refine wpQuiet_nil ?_
      rintro w7 ⟨⟨_, hb8'⟩, he⟩
      have hb7 : Below wr.heap.size wr w7 := by rw [he]; exact hb8'
      have O7 := Lib.hid (owns_under hO.out hb7)
      have S7 := Lib.hid (HSI.out.below hb7)
      have B7 : Hid (Below G w w7) := hG ▸ below_on hBw hb7
      clear he hb8' u0 u1 hb7 hO hB hBw hT
      have f0 : w7.frozen? ⟨gg, y, none⟩ = false := O7.out.frozenAt y
      have c0 : ∃ v0, w7.cell? ⟨gg, y, none⟩ = some v0 := by
        rw [O7.out.cellAt y (by omega)]
        have h1 := O7.out.1
        exact ⟨_, List.getElem?_eq_getElem (by omega)⟩
      obtain ⟨v0, c0⟩ := c0
      have HST := Lib.hid (O7.out.stored y (.int .i64 (z + 1)))
      have hgG : G ≤ gg := (O7.out.lt gg rfl).1
      have O8 : Hid ((w7.setCell ⟨gg, y, none⟩ (.int .i64 (z + 1))).ownsRow G 3 1 (.slice (some ⟨gg, 0, none⟩) n n) n ((seatsL vs m lots (k + 1)).map (Value.int .i64))) := by
        unfold Hid; rw [HSU.out, ← map_set_int]; exact HST.out.1
      have B8 : Hid (Below G w (w7.setCell ⟨gg, y, none⟩ (.int .i64 (z + 1)))) := B7.out.grown HST.out.2 (by have := B7.out.size; omega) (fun j e => by cases e; exact hgG)
      have hne : ∀ o, (⟨gg, y, none⟩ : Addr) ≠ ⟨T, o, none⟩ := fun o e => by injection e with e _ _; exact hTg e.symm
      have S8 : Hid (T < (w7.setCell ⟨gg, y, none⟩ (.int .i64 (z + 1))).heap.size ∧ (w7.setCell ⟨gg, y, none⟩ (.int .i64 (z + 1))).cell? ⟨T, 0, none⟩ = some (.slice a n cap) ∧ (w7.setCell ⟨gg, y, none⟩ (.int .i64 (z + 1))).cell? ⟨T, 1, none⟩ = some (.slice (some ⟨gg, 0, none⟩) n n) ∧ (w7.setCell ⟨gg, y, none⟩ (.int .i64 (z + 1))).cell? ⟨T, 2, none⟩ = some (methV m)) := by
        refine ⟨by simpa [World.setCell] using S7.out.lt, ?_, ?_, ?_⟩
        · rw [World.cell?_setCell_other _ _ _ _ (hne 0)]; exact S7.out.c0
        · rw [World.cell?_setCell_other _ _ _ _ (hne 1)]; exact S7.out.c1
        · rw [World.cell?_setCell_other _ _ _ _ (hne 2)]; exact S7.out.c2
      clear HST B7 S7 HSI HSU
      go_wp2
      go_roundw
      case rel => exact ⟨k + 1, by omega, by go_num, O8, S8, B8⟩
      case measure => simp [intOf]; omega
    · obtain rfl : k = s := by omega
      have hrl : r.length = n := by rw [← HR.out, seatsL_length, HNV.out]
      have HRL := Lib.hid hrl
      clear hrl
      go_wp2
      go_ret2
      refine ⟨some ⟨gg, 0, none⟩, n, by rw [HRL.out]; rfl, ?_, hBw⟩
      rw [HRL.out, ← HR.out, HG.out]
      exact hO.out

set_option maxRecDepth 100000 in
set_option maxHeartbeats 4000000 in
/-- **impl.SeatsDivisor**, at other arguments. -/
theorem implSeats_no (a : Option Addr) (n cap : Nat) (vs : List Int) (s m : Int) (al : Option Addr) (nl cl : Nat) (lots : List Int) (w : World) (h : IsInts w a n cap vs) (hl : IsInts w al nl cl lots) (hk : okD vs s m lots = false) :
    Calls Try.prog 10 #[.slice a n cap, .int .i64 s, .int .i64 m, .slice al nl cl] w (Told w [] false) := by
  obtain ⟨i0, hi, hz0, hz1, hz2⟩ := info_parts int_info
  have HI := Lib.hid h
  have HL := Lib.hid hl
  have hm1 := h.2.2.1
  have HNV := Lib.hid h.1
  have HNL := Lib.hid hl.1
  have HK := Lib.hid hk
  have HT : Hid (∀ w1, Below w.heap.size w w1 → Told w [] false (.returned (.tuple #[.slice none 0 0, .bool false])) w1) := fun w1 hb =>
    ⟨none, 0, rfl, ⟨rfl, .inl ⟨rfl, rfl⟩⟩, hb⟩
  clear h hl hk
  cases hin : inB s 0 20
  · have HSR := Lib.hid hin
    clear hin
    go_enter Try.func10, Try.ntmps10
    go_wp2_with fail
    refine (inRange_as s false _ HSR.out).mono ?_
    rintro e w1 ⟨rfl, rfl⟩
    go_wp2
    go_ret2
    exact HT.out _ (Below.refl _ _)
  have HSR := Lib.hid hin
  have hsb := inB_of hin
  have h0 : ¬ s < 0 := by omega
  have h20 : ¬ 20 < s := by omega
  clear hin hsb
  obtain ⟨v2, hv2⟩ : ∃ v, (lotsB lots && decide (nl = n)) = v := ⟨_, rfl⟩
  have V2 := Lib.hid hv2
  have HV : Hid (v2 = true → okC vs (List.replicate n 0) m = false) := fun e => by
    cases hc : okC vs (List.replicate n 0) m
    · rfl
    · exfalso
      obtain ⟨c1, -, c3⟩ := (okC_iff _ _ _).1 hc
      have l12 : lotsB lots = true ∧ nl = n := by rw [e] at hv2; simpa using hv2
      have : okD vs s m lots = true := (okD_iff _ _ _ _).2 ⟨c1, ⟨by omega, by omega⟩, c3, l12.1, by rw [HNL.out, HNV.out]; exact l12.2⟩
      rw [HK.out] at this; cases this
  obtain ⟨G, hG⟩ : ∃ G, w.heap.size = G := ⟨_, rfl⟩
  have HG := Lib.hid hG
  clear hv2
  go_enter Try.func10, Try.ntmps10
  go_wp2_with fail
  refine (inRange_as s true _ HSR.out).mono ?_
  rintro e w1 ⟨rfl, rfl⟩
  go_wp2_with fail
  refine (lotsOf_as _ _ _ lots n v2 _ HL.out V2.out).mono ?_
  rintro e w1 ⟨rfl, hb⟩
  cases v2
  · go_wp2
    go_ret2
    exact HT.out _ hb
  have hsz : G ≤ w1.heap.size := by rw [← hG]; exact hb.size
  have HB1 := Lib.hid hb
  have HI1 := Lib.hid (HI.out.below hb)
  clear hb
  go_wp2_with (at_make; refine wpList_make_full _ rfl _ _ 23 rfl G 3 i0 (.int .i64 0) 1 Try.underlying23 hi hz0 hz1 .i64 .i64 _ _ n rfl rfl rfl rfl (by rw [hz2]; omega) (by unfold maxLen; omega) hsz ?_; intro w3 hown hgrow)
  have HB3 : Hid (Below w1.heap.size w1 w3) := (Below.refl _ w1).grown hgrow (Nat.le_refl _) (fun k e => by cases e)
  have HI3 := Lib.hid (HI1.out.below HB3.out)
  have BW3 := Lib.hid (below_on HB1.out HB3.out)
  have O3 : Hid (w3.ownsRow G 3 1 (.slice (some ⟨w1.heap.size, 0, none⟩) n n) n ((List.replicate n 0).map (Value.int .i64))) := by
    unfold Hid; rw [← zeros_made]; exact hown
  clear hown hgrow
  refine (newSeat_as _ n cap vs _ n n (List.replicate n 0) m false _ HI3.out (IsInts.of_owned O3.out (by omega)) (HV.out (by trivial))).mono ?_
  rintro e w4 ⟨p, rfl, hb, -⟩
  have B4 := Lib.hid (below_on BW3.out hb)
  clear hb
  go_wp2
  go_ret2
  exact HT.out _ B4.out

/-- **impl.SeatsDivisor**. -/
theorem implSeats_as (a : Option Addr) (n cap : Nat) (vs : List Int) (s m : Int) (al : Option Addr) (nl cl : Nat) (lots : List Int) (r : List Int) (v : Bool) (w : World) (h : IsInts w a n cap vs) (hl : IsInts w al nl cl lots) (hk : okD vs s m lots = v) (hr : divL vs s m lots = r) :
    Calls Try.prog 10 #[.slice a n cap, .int .i64 s, .int .i64 m, .slice al nl cl] w (Told w r v) := by
  cases v
  · rw [divL_no hk] at hr
    subst hr
    exact implSeats_no a n cap vs s m al nl cl lots w h hl hk
  · obtain ⟨h1, h2, h3, h4, h5⟩ := (okD_iff vs s m lots).1 hk
    obtain ⟨S, rfl⟩ := Int.eq_ofNat_of_zero_le h2.1
    have e : nl = n := by have := h.1; have := hl.1; omega
    subst e
    rw [divL, if_pos hk, Int.toNat_natCast] at hr
    exact implSeats_yes a nl cap vs S m al cl lots r w h hl h1 (by omega) h3 h4 hr

end Go.Proofs.Ytgcocdacofpglaa
