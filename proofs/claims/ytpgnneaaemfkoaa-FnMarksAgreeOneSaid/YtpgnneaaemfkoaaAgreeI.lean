/-
  impl.readersValid, impl.agreedMark and impl.MarksAgree answer as the lists say, in memory of their own. No condition but what each theorem says.
-/
import Derived.Test.YtpgnneaaemfkoaaAgreeS
namespace Go.Proofs.Ytpgnneaaemfkoaa
open Go.RowKit

set_option maxHeartbeats 2000000 in
/-- **impl.readersValid**. -/
theorem implReaders_any (a : Option Addr) (len cap : Nat) (rs : List (List Int)) (w : World) (h : IsRows w a len cap rs) :
    Calls Try.prog 25 #[.slice a len cap] w fun e w' => e = .returned (.bool (readB rs)) ∧ w = w' := by
  obtain ⟨h1, h2, h3, h4⟩ := h
  have HV : Hid (readB rs = (readTo rs len && inB (len : Int) 1 5)) := by unfold Hid readB; rw [h1]
  have H4 := Lib.hid h4; clear h4 h1
  by_cases hl1 : len < 1
  · have e : readB rs = false := by rw [HV.out]; simp [inB]; omega
    rw [e]; clear e
    go_enter Try.func25, Try.ntmps25
    go_wp2
    go_ret
    exact ⟨rfl, rfl⟩
  by_cases hl5 : 5 < len
  · have e : readB rs = false := by rw [HV.out]; simp [inB]; omega
    rw [e]; clear e
    go_enter Try.func25, Try.ntmps25
    go_wp2
    go_ret
    exact ⟨rfl, rfl⟩
  have e : inB (len : Int) 1 5 = true := by simp [inB]; omega
  have HV : Hid (readB rs = readTo rs len) := by unfold Hid; rw [HV.out, e, Bool.and_true]
  clear e
  obtain ⟨b, off, rfl, hb, hcell⟩ := H4.out (by omega)
  have HC := Lib.hid hcell; clear hcell
  go_enter Try.func25, Try.ntmps25
  go_wp2
  go_loop [15] (fun i => ∃ k : Nat, k ≤ len ∧ i = .int .i64 k ∧ Hid (readTo rs k = true)) (fun i => len - (intOf i).toNat)
  case atStart => exact ⟨0, Nat.zero_le _, rfl, by simp [Hid, readTo]⟩
  case round =>
    obtain ⟨k, hk, rfl, hc⟩ := hrel
    by_cases hlt : k < len
    · obtain ⟨ak, lk, ck, hck, hIk⟩ := HC.out k hlt
      obtain ⟨a0, l0, c0, hc0, hI0⟩ := HC.out 0 (by omega)
      rw [Nat.add_zero] at hc0
      have HR := rowOk_eq rs (rs[k]?.getD []) lk l0 hIk.1 hI0.1
      have HS := readTo_succ rs k
      rw [hc.out, Bool.true_and] at HS
      obtain ⟨z, hz⟩ : ∃ z, rs[k]?.getD [] = z := ⟨_, rfl⟩
      rw [hz] at HR HS hIk
      have HR := Lib.hid HR
      have HS := Lib.hid HS
      have HIk := Lib.hid hIk
      have hlk := hIk.2.2.1
      have hl0 := hI0.2.2.1
      clear hIk hI0 hz
      cases hrk : rankB z
      · have HK := Lib.hid hrk
        go_wp2_with fail
        refine (implMarks_any _ _ _ z _ HIk.out).mono ?_
        rintro e w1 ⟨he, rfl⟩
        rw [HK.out] at he
        subst he
        go_wp2
        go_ret
        refine ⟨ret_bool ?_, rfl⟩
        rw [HV.out, readTo_no (by rw [HS.out, HR.out, HK.out]; rfl) hlt]
      · have HK := Lib.hid hrk
        by_cases hll : lk = l0
        · subst hll
          have hne : ((lk : Int) != (lk : Int)) = false := by simp
          go_wp2_with fail
          refine (implMarks_any _ _ _ z _ HIk.out).mono ?_
          rintro e w1 ⟨he, rfl⟩
          rw [HK.out] at he
          subst he
          go_wp2
          go_round
          case rel => exact ⟨k + 1, by omega, by go_num, by unfold Hid; rw [HS.out, HR.out, HK.out]; simp⟩
          case measure => simp [intOf]; omega
        · have hne : ((lk : Int) != (l0 : Int)) = true := by rw [bne_iff_ne]; omega
          have hne2 : ((lk : Int) == (l0 : Int)) = false := by simp; omega
          have HE := Lib.hid hne2; clear hne2
          go_wp2_with fail
          refine (implMarks_any _ _ _ z _ HIk.out).mono ?_
          rintro e w1 ⟨he, rfl⟩
          rw [HK.out] at he
          subst he
          go_wp2
          go_ret
          refine ⟨ret_bool ?_, rfl⟩
          rw [HV.out, readTo_no (by rw [HS.out, HR.out, HK.out, HE.out]; rfl) hlt]
    · obtain rfl : k = len := by omega
      go_wp2
      go_ret
      refine ⟨ret_bool ?_, rfl⟩
      rw [HV.out, hc.out]

/-- The ten cells of the array 'times' hold how many of the first k readers have read each mark. -/
def Times (W : World) (B : Nat) (rs : List (List Int)) (c : Nat) (k : Nat) : Prop := ∀ m, m < 10 → W.cell? ⟨B, m, none⟩ = some (.int .i64 (cnt (rs.take k) c (m : Int) : Int)) ∧ W.frozen? ⟨B, m, none⟩ = false

theorem times_start (w : World) (t : TypeId) (rs : List (List Int)) (c : Nat) : Times (w.alloc (.cells #[.int .i64 0, .int .i64 0, .int .i64 0, .int .i64 0, .int .i64 0, .int .i64 0, .int .i64 0, .int .i64 0, .int .i64 0, .int .i64 0] t)) w.heap.size rs c 0 := by
  intro m hm
  have e : m = 0 ∨ m = 1 ∨ m = 2 ∨ m = 3 ∨ m = 4 ∨ m = 5 ∨ m = 6 ∨ m = 7 ∨ m = 8 ∨ m = 9 := by omega
  have h0 : cnt (rs.take 0) c (m : Int) = 0 := by simp [cnt]
  rw [h0]
  refine ⟨(World.cell?_alloc_mark w _ t (0, 0) m).trans ?_, (World.frozen?_alloc_mark w _ t 0 0 m).trans ?_⟩
  · rcases e with rfl | rfl | rfl | rfl | rfl | rfl | rfl | rfl | rfl | rfl <;> rfl
  · simp

/-- A store into the cell of the mark that reader k has read. -/
theorem Times.stored {W : World} {B : Nat} {rs : List (List Int)} {c k m : Nat} (h : Times W B rs c k) (hk : k < rs.length) (hm : m < 10) (hz : (rs[k]?.getD [])[c]?.getD 0 = (m : Int)) (q : Nat) (hq : cnt (rs.take k) c (m : Int) = q) :
    Times (W.setCell ⟨B, m, none⟩ (.int .i64 ((q : Int) + 1))) B rs c (k + 1) := by
  intro d hd
  refine ⟨?_, by rw [World.frozen?_setCell]; exact (h d hd).2⟩
  rw [cnt_take rs c (d : Int) k hk, hz]
  by_cases e : d = m
  · subst e
    rw [if_pos rfl, hq]
    exact World.cell?_setCell_same' _ _ _ (by rw [(h d hd).1]; rfl)
  · rw [if_neg (by omega), World.cell?_setCell_other _ _ _ _ (by intro e'; injection e' with _ e2; exact e e2.symm)]
    exact (h d hd).1

/-- A mark, and whether there is one. -/
def agreedV (z : Int) : Value := .tuple #[.int .i64 (if 0 ≤ z then z else 0), .bool (decide (0 ≤ z))]
theorem agreedV_yes (m : Nat) : agreedV (m : Int) = .tuple #[.int .i64 (m : Int), .bool true] := by
  unfold agreedV
  rw [if_pos (by omega), decide_eq_true (by omega)]
theorem agreedV_no : agreedV (-1) = .tuple #[.int .i64 0, .bool false] := by
  unfold agreedV
  rw [if_neg (by omega), decide_eq_false (by omega)]

set_option maxHeartbeats 4000000 in
/-- **impl.agreedMark**. -/
theorem agreed_any (a : Option Addr) (len cap : Nat) (rs : List (List Int)) (c : Nat) (w : World) (h : IsRows w a len cap rs) (hrd : readB rs = true) (hc : c < (headL rs).length) :
    Calls Try.prog 26 #[.slice a len cap, .int .i64 (c : Int)] w fun e w' => e = .returned (agreedV (bestB rs c)) ∧ Below w.heap.size w w' := by
  have HRow := Lib.hid (fun i hi => readB_row hrd i hi)
  have hc5 : c < 5 := by have := readB_head hrd; omega
  have hk5 := (readB_len hrd).2
  rw [h.1] at hk5
  have H1 := Lib.hid h.1
  have HHC := Lib.hid hc
  have H := Lib.hid h
  clear hrd h hc
  have hB0 : Below w.heap.size w (w.alloc (.cells #[.int .i64 0, .int .i64 0, .int .i64 0, .int .i64 0, .int .i64 0, .int .i64 0, .int .i64 0, .int .i64 0, .int .i64 0, .int .i64 0] 52)) := (Below.refl _ w).alloc (Nat.le_refl _) _
  have hT0 := Lib.hid (times_start w 52 rs c)
  go_enter Try.func26, Try.ntmps26
  go_wp2
  obtain ⟨g, hg⟩ : ∃ g, w.heap.size = g := ⟨_, rfl⟩
  rw [hg] at hB0 hT0 ⊢
  have HBL : Hid (∀ wr, Below g w wr → IsRows wr a len cap rs) := fun wr hb => H.out.below (by rw [hg]; exact hb)
  have HG := Lib.hid hg
  clear hg
  go_loopw [12] (fun i wr => ∃ k : Nat, k ≤ len ∧ i = .int .i64 k ∧ Hid (Times wr g rs c k) ∧ Hid (∀ m : Nat, m < 10 → ¬ len < 2 * cnt (rs.take k) c (m : Int)) ∧ Below g w wr) (fun i _ => len - (intOf i).toNat)
  case atStart => exact ⟨0, Nat.zero_le _, rfl, hT0, by intro m _; simp [cnt], hB0⟩
  case round =>
    obtain ⟨k, hk, rfl, hT, hno, hB⟩ := hrel
    have hIR := Lib.hid (HBL.out _ hB)
    by_cases hlt : k < len
    · obtain ⟨-, -, -, h4⟩ := hIR.out
      obtain ⟨b, off, rfl, hb, hcell⟩ := h4 (by omega)
      obtain ⟨ak, lk, ck, hck, hIk⟩ := hcell k hlt
      have hkr : k < rs.length := by rw [H1.out]; exact hlt
      obtain ⟨hrk, hrl⟩ := HRow.out k hkr
      have hclk : c < lk := by rw [← hIk.1, hrl]; exact HHC.out
      obtain ⟨bk, ok, rfl, hbk, hcellk⟩ := hIk.2.2.2 (by omega)
      have hz := hcellk c hclk
      have hat := rankB_at hrk c (by rw [hIk.1]; exact hclk)
      obtain ⟨m, hm⟩ := Int.eq_ofNat_of_zero_le hat.1
      rw [hm] at hz hat
      have hm10 : m < 10 := by omega
      have hlk := hIk.2.2.1
      obtain ⟨hcm, hfm⟩ := hT.out m hm10
      have hq5 : cnt (rs.take k) c (m : Int) ≤ k := by have := cnt_le (rs.take k) c (m : Int); simp at this; omega
      obtain ⟨q, hq⟩ : ∃ q, cnt (rs.take k) c (m : Int) = q := ⟨_, rfl⟩
      rw [hq] at hcm hq5
      have HT1 := Lib.hid (hT.out.stored hkr hm10 hm q hq)
      obtain ⟨hcm1, hfm1⟩ := HT1.out m hm10
      have hcn : cnt (rs.take (k + 1)) c (m : Int) = q + 1 := by rw [cnt_take rs c (m : Int) k hkr, hm, if_pos rfl, hq]
      rw [hcn] at hcm1
      have hcm1 : (wr.setCell ⟨g, m, none⟩ (.int .i64 ((q : Int) + 1))).cell? ⟨g, m, none⟩ = some (.int .i64 ((q : Int) + 1)) := by rw [hcm1]; rfl
      have HCN := Lib.hid hcn
      have HM := Lib.hid hm
      have HK := Lib.hid hkr
      clear h4 hcell hcellk hIk hrk hrl hq hcn hm hkr
      by_cases hmore : len < 2 * (q + 1)
      · have hbest : Hid (bestB rs c = (m : Int)) := by
          refine bestB_of hm10 ?_
          have := cnt_part rs c (m : Int) (k + 1)
          rw [HCN.out] at this
          rw [H1.out]; omega
        have hm1 : (len : Int) < 2 * ((q : Int) + 1) := by omega
        go_wp2
        go_ret2
        rw [hbest.out, agreedV_yes, HG.out]
        exact ⟨rfl, hB.setCell (p := ⟨g, m, none⟩) (Nat.le_refl _) _⟩
      · have hm1 : ¬ (len : Int) < 2 * ((q : Int) + 1) := by omega
        go_wp2
        go_roundw
        case rel =>
          refine ⟨k + 1, by omega, by go_num, HT1, fun d hd => ?_, hB.setCell (p := ⟨g, m, none⟩) (Nat.le_refl _) _⟩
          by_cases e : d = m
          · subst e; rw [HCN.out]; exact hmore
          · rw [cnt_take rs c (d : Int) k HK.out, HM.out, if_neg (by omega)]; exact hno.out d hd
        case measure => simp [intOf]; omega
    · obtain rfl : k = len := by omega
      have hbest : Hid (bestB rs c = -1) := by
        refine bestB_none fun m hm => ?_
        have := hno.out m hm
        rw [← H1.out, cnt_all] at this
        exact this
      go_wp2
      go_ret2
      rw [hbest.out, agreedV_no, HG.out]
      exact ⟨rfl, hB⟩

theorem fillTo_zero (zs : List Int) (n : Nat) : fillTo zs n 0 = List.replicate n 0 := by simp [fillTo]
theorem fillTo_length (zs : List Int) (n k : Nat) (hz : zs.length = n) (hk : k ≤ n) : (fillTo zs n k).length = n := by simp [fillTo]; omega

set_option maxHeartbeats 4000000 in
/-- **impl.MarksAgree**. -/
theorem implAgree_any (a : Option Addr) (len cap : Nat) (rs : List (List Int)) (w : World) (h : IsRows w a len cap rs) :
    Calls Try.prog 9 #[.slice a len cap] w (Told w (agreeL rs) (agreeB rs)) := by
  obtain ⟨i0, hi, hz0, hz1, hz2⟩ := info_parts int_info
  have H1 := Lib.hid h.1
  have H := Lib.hid h; clear h
  cases hrd : readB rs
  · have hno : Hid (agreeB rs = false) := agreeB_no hrd
    have HR := Lib.hid hrd
    go_enter Try.func9, Try.ntmps9
    go_wp2_with fail
    refine (implReaders_any _ _ _ rs _ H.out).mono ?_
    rintro e w1 ⟨he, rfl⟩
    rw [HR.out] at he
    subst he
    go_wp2
    go_ret2
    refine ⟨none, 0, ?_, ?_, Below.refl _ _⟩
    · rw [agreeL_no hno.out, hno.out]; rfl
    · rw [agreeL_no hno.out]; exact World.ownsRow_nil _ _ _ _
  · have hlen := readB_len hrd
    rw [H1.out] at hlen
    obtain ⟨hl1, hl5⟩ := hlen
    obtain ⟨n, hn⟩ : ∃ n, (headL rs).length = n := ⟨_, rfl⟩
    have hn5 : 1 ≤ n ∧ n ≤ 5 := by rw [← hn]; exact readB_head hrd
    obtain ⟨hn1, hn5⟩ := hn5
    have HR := Lib.hid hrd
    have HN := Lib.hid hn
    have HBN := Lib.hid (bests_length rs)
    obtain ⟨b, off, hab, hb, hcell⟩ := H.out.2.2.2 (by omega)
    obtain ⟨a0, l0, c0, hc0, hI0⟩ := hcell 0 (by omega)
    rw [Nat.add_zero] at hc0
    obtain rfl : n = l0 := by rw [← HN.out]; exact hI0.1
    subst hab
    clear hrd hn hcell hI0
    go_enter Try.func9, Try.ntmps9
    go_wp2_with fail
    refine (implReaders_any _ _ _ rs _ H.out).mono ?_
    rintro e w1 ⟨he, rfl⟩
    rw [HR.out] at he
    subst he
    go_wp2_with (at_make; refine wpList_make_full _ rfl _ _ 25 rfl w.heap.size 3 i0 (.int .i64 0) 1 Try.underlying25 hi hz0 hz1 .i64 .i64 _ _ n rfl rfl rfl rfl (by rw [hz2]; omega) (by unfold maxLen; omega) (Nat.le_refl _) ?_; intro w2 hown hgrow)
    obtain ⟨g, hg⟩ : ∃ g, w.heap.size = g := ⟨_, rfl⟩
    rw [hg] at hown ⊢
    have hB1 : Below g w w2 := ((Below.refl g w).grown hgrow (by omega) (fun k e => by cases e))
    have hsz2 : g ≤ w2.heap.size := by have := hgrow.size; omega
    have HO : Hid (w2.ownsRow g 3 1 (.slice (some ⟨g, 0, none⟩) n n) n ((fillTo (bests rs) n 0).map (Value.int .i64))) := by
      unfold Hid; rw [fillTo_zero, ← zeros_made]; exact hown
    have HBL : Hid (∀ wr, Below g w wr → IsRows wr (some ⟨b, off, none⟩) len cap rs) := fun wr hb => H.out.below (by rw [hg]; exact hb)
    have HG := Lib.hid hg
    clear hown hgrow hi hz0 hz1 hz2 hg hc0
    go_wp2
    go_loopw [18] (fun i wr => ∃ c : Nat, c ≤ n ∧ i = .int .i64 c ∧ Hid (wr.ownsRow g 3 1 (.slice (some ⟨g, 0, none⟩) n n) n ((fillTo (bests rs) n c).map (Value.int .i64))) ∧ Hid (haveTo rs c = true) ∧ Below g w wr ∧ g ≤ wr.heap.size) (fun i _ => n - (intOf i).toNat)
    case atStart => exact ⟨0, Nat.zero_le _, rfl, HO, by simp [Hid, haveTo], hB1, hsz2⟩
    case round =>
      obtain ⟨c, hcn, rfl, ho, hh, hB, hsz⟩ := hrel
      by_cases hlt : c < n
      · have HS := haveTo_succ rs c
        rw [hh.out, Bool.true_and] at HS
        have HF := fillTo_step (bests rs) n c (by rw [HBN.out, HN.out]) hlt
        rw [bests_at rs c (by rw [HN.out]; exact hlt)] at HF
        have HS := Lib.hid HS
        have HF := Lib.hid HF
        go_wp2_with fail
        refine (agreed_any _ _ _ rs c _ (HBL.out _ hB) HR.out (by rw [HN.out]; exact hlt)).mono ?_
        rintro e w3 ⟨rfl, hb3⟩
        have O3 := Lib.hid (owns_under ho.out hb3)
        have B3 := Lib.hid (hB.trans (hb3.mono hsz))
        have hsz3 : g ≤ w3.heap.size := Nat.le_trans hsz hb3.size
        clear ho hB hb3
        rcases bestB_range rs c with hbe | ⟨m, hm, hbe, _⟩
        · have hno : Hid (agreeB rs = false) := agreeB_out (by rw [HN.out]; exact haveTo_no (by rw [HS.out, hbe]; rfl) hlt)
          rw [hbe, agreedV_no]
          clear hbe
          go_wp2
          go_ret2
          refine ⟨none, 0, ?_, ?_, ?_⟩
          · rw [agreeL_no hno.out, hno.out]; rfl
          · rw [agreeL_no hno.out]; exact World.ownsRow_nil _ _ _ _
          · rw [HG.out]; exact B3.out
        · rw [hbe] at HF HS
          rw [hbe, agreedV_yes]
          have HS' : Hid (haveTo rs (c + 1) = true) := by unfold Hid; rw [HS.out, decide_eq_true (by omega)]
          have hfl := fillTo_length (bests rs) n c (by rw [HBN.out, HN.out]) hcn
          have hcg : w3.cell? ⟨g, c, none⟩ = some (.int .i64 ((fillTo (bests rs) n c)[c]?.getD 0)) := by
            rw [O3.out.cellAt c (by omega)]
            simp [show c < (fillTo (bests rs) n c).length from by omega]
          have hfz := O3.out.frozenAt c
          have HST := Lib.hid (O3.out.stored c (.int .i64 (m : Int)))
          clear hbe hfl
          go_wp2
          go_roundw
          case rel => exact ⟨c + 1, by omega, by go_num, by unfold Hid; rw [← HF.out]; exact HST.out.1, HS', B3.out.setCell (p := ⟨g, c, none⟩) (Nat.le_refl _) _, by simpa [World.setCell] using hsz3⟩
          case measure => simp [intOf]; omega
      · obtain rfl : c = n := by omega
        have hyes : agreeB rs = true := agreeB_yes HR.out (by rw [HN.out]; exact hh.out)
        have hl : (agreeL rs).length = c := by rw [agreeL_yes hyes, HBN.out, HN.out]
        have hT : fillTo (bests rs) c c = agreeL rs := by rw [agreeL_yes hyes]; exact fillTo_all _ _ (by rw [HBN.out, HN.out])
        have HL := Lib.hid hl
        have HT := Lib.hid hT
        have HY := Lib.hid hyes
        clear hl hT hyes
        go_wp2
        go_ret2
        refine ⟨some ⟨g, 0, none⟩, c, ?_, ?_, ?_⟩
        · rw [HL.out, HY.out]; rfl
        · rw [HL.out, HG.out, ← HT.out]; exact ho.out
        · rw [HG.out]; exact hB

/-- **spec.MarksAgree**, its answer named. -/
theorem specAgree_as (a : Option Addr) (len cap : Nat) (rs : List (List Int)) (pl : List Int) (ok : Bool) (w : World) (h : IsRows w a len cap rs) (h1 : agreeL rs = pl) (h2 : agreeB rs = ok) :
    Calls Try.prog 10 #[.slice a len cap] w (Told w pl ok) := by
  subst h1; subst h2; exact specAgree_any a len cap rs w h
/-- **impl.MarksAgree**, its answer named. -/
theorem implAgree_as (a : Option Addr) (len cap : Nat) (rs : List (List Int)) (pl : List Int) (ok : Bool) (w : World) (h : IsRows w a len cap rs) (h1 : agreeL rs = pl) (h2 : agreeB rs = ok) :
    Calls Try.prog 9 #[.slice a len cap] w (Told w pl ok) := by
  subst h1; subst h2; exact implAgree_any a len cap rs w h

end Go.Proofs.Ytpgnneaaemfkoaa
