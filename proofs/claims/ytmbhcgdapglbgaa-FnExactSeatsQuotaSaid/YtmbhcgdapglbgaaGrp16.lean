/-
  spec.l22Sum and spec.SeatsRemainder: contracts at all arguments. They write into no memory that was there.
  spec.SeatsQuota and spec.SeatsFair: contracts at all arguments. They write into no memory.
-/
import Derived.Test.YtmbhcgdapglbgaaGrp4
import Derived.Test.YtmbhcgdapglbgaaSeatS
import Derived.Test.YtmbhcgdapglbgaaGrp7
import Derived.Test.YtmbhcgdapglbgaaGrp11
import Derived.Test.YtmbhcgdapglbgaaGrp8
import Derived.Deep.AppendLies
namespace Go.Proofs.Ytmbhcgdapglbgaa
open Go.RowKit

attribute [local go_sem] Oper.semAt_some

set_option maxHeartbeats 2000000 in
/-- **l22Sum**. -/
theorem sum22_as (a : Option Addr) (len cap : Nat) (zs : List Int) (s : Int) (w : World) (h : IsInts w a len cap zs) (hl : len ≤ 20) (hb : ∀ x : Nat, x < len → 0 ≤ zs[x]?.getD 0 ∧ zs[x]?.getD 0 ≤ 100000) (hs : totI zs = s) :
    Calls Try.prog 43 #[.slice a len cap] w fun e w' => e = .returned (.int .i64 s) ∧ w = w' := by
  obtain ⟨h1, h2, h3, h4⟩ := h
  have H1 := Lib.hid h1
  have H4 := Lib.hid h4
  have HB := Lib.hid hb
  have HS := Lib.hid hs
  clear h1 h4 hb hs
  go_enter Try.func43, Try.ntmps43
  go_wp2
  go_loop [3, 4] (fun nv iv => ∃ (i : Nat) (t : Int), i ≤ len ∧ iv = .int .i64 (i : Int) ∧ nv = .int .i64 t ∧ Hid (totI (zs.take i) = t)) (fun _ iv => len - (intOf iv).toNat)
  case atStart => exact ⟨0, 0, Nat.zero_le _, rfl, rfl, by unfold Hid; simp [totI_nil]⟩
  case round =>
    obtain ⟨i, t, hil, rfl, rfl, hT⟩ := hrel
    by_cases hlt : i < len
    · obtain ⟨b, off, rfl, hb, hc⟩ := H4.out (by omega)
      have ci := hc i hlt
      obtain ⟨z, hz⟩ : ∃ z, zs[i]?.getD 0 = z := ⟨_, rfl⟩
      have hzb := HB.out i hlt
      have htb := tot_bound (m := 100000) (by omega) HB.out i (by omega)
      rw [hT.out] at htb
      rw [hz] at ci hzb
      have HT2 : Hid (totI (zs.take (i + 1)) = t + z) := by rw [Hid, tot_take (by rw [H1.out]; exact hlt), hz, hT.out]
      clear hc hz
      go_wp2
      go_round
      case rel => exact ⟨i + 1, t + z, by omega, by go_num, rfl, HT2⟩
      case measure => simp [intOf]; omega
    · obtain rfl : i = len := by omega
      have HE : Hid (t = s) := by rw [Hid, ← HS.out, ← hT.out, List.take_of_length_le (by rw [H1.out]; exact Nat.le_refl _)]
      go_wp2
      go_ret
      exact ⟨ret_int HE.out, rfl⟩

theorem take_next {l : List Int} {k : Nat} (h : k < l.length) : l.take (k + 1) = l.take k ++ [l[k]?.getD 0] := by
  rw [List.take_succ_eq_append_getElem h]; simp [h]
/-- How many seats are left, by what stands in memory. -/
def seatsIn (s : Int) (g n : Nat) (w : World) : Nat := (s - totI ((List.range n).map fun i => intOf ((w.cell? ⟨g, i, none⟩).getD undef))).toNat
theorem seatsIn_is {w : World} {base n g c : Nat} {xs : List Int} (s : Int) (h : w.ownsRow base 3 1 (.slice (some ⟨g, 0, none⟩) n c) n (xs.map (Value.int .i64))) (hl : xs.length = n) : seatsIn s g n w = (s - totI xs).toNat := by
  unfold seatsIn
  have e : ((List.range n).map fun i => intOf ((w.cell? ⟨g, i, none⟩).getD undef)) = xs := by
    refine List.ext_getElem (by simp [hl]) (fun i h1 h2 => ?_)
    rw [List.getElem_map, List.getElem_range, owns_int h hl (by omega) rfl]
    simp [intOf, h2]
  rw [e]

set_option maxRecDepth 100000 in
set_option maxHeartbeats 8000000 in
/-- **spec.SeatsRemainder**, at valid arguments. -/
theorem specRem_yes (a : Option Addr) (n cap : Nat) (vs : List Int) (s : Int) (al : Option Addr) (cl : Nat) (lots : List Int) (r : List Int) (w : World) (h : IsInts w a n cap vs) (hl : IsInts w al n cl lots) (hk : okR vs s lots = true) (hr : upL vs s lots (lfN vs s) = r) :
    Calls Try.prog 15 #[.slice a n cap, .int .i64 s, .slice al n cl] w (Told w r true) := by
  obtain ⟨i0, hi, hz0, hz1, hz2⟩ := info_parts int_info
  obtain ⟨k1, k2, k3, k4⟩ := (okR_iff vs s lots).1 hk
  have hnv := h.1
  have hn5 : n ≤ 5 := by have := (lotsB_len k3).2; omega
  have hn1 : 1 ≤ n := by have := (lotsB_len k3).1; omega
  have HI := Lib.hid h
  have HL := Lib.hid hl
  have HV := Lib.hid k1
  have HS := Lib.hid (inB_yes (x := s) (lo := 0) (hi := 20) (by omega) (by omega))
  have HLB := Lib.hid k3
  have HEQ := Lib.hid k4
  have HNV := Lib.hid hnv
  have HR := Lib.hid hr
  have HLF := Lib.hid (lf_is k1 k2)
  have x1 := ((voteB_iff vs).1 k1).1.1
  rw [hnv] at x1
  have HX1 : Hid (∀ x : Nat, x < n → 0 ≤ vs[x]?.getD 0 ∧ vs[x]?.getD 0 ≤ 100000) := fun x hx => by have := toB_at x1 hx; omega
  have hne : ((n : Int) != (n : Int)) = false := by simp
  obtain ⟨T, hT⟩ : ∃ T, totI vs = T := ⟨_, rfl⟩
  have HT := Lib.hid hT
  obtain ⟨G, hG⟩ : ∃ G, w.heap.size = G := ⟨_, rfl⟩
  have HG := Lib.hid hG
  clear h hl hk hr hnv k1 k3 k4 x1 hT
  go_enter Try.func15, Try.ntmps15
  go_wp2_with fail
  refine (specVotes_as _ _ _ vs true _ HI.out HV.out).mono ?_
  rintro e w1 ⟨rfl, rfl⟩
  go_wp2_with fail
  refine (l6In_any _ _ _ _).mono ?_
  rintro e w' ⟨he, rfl⟩
  rw [HS.out] at he
  subst he
  go_wp2_with fail
  refine (specLots_as _ _ _ lots true _ HL.out HLB.out).mono ?_
  rintro e w1 ⟨rfl, hd⟩
  have hsz : G ≤ w1.heap.size := by rw [← hG]; exact (hd.below w.heap.size).size
  have HB1 : Hid (Below G w w1) := hd.below _
  have hB3 : Hid (Below G w ((w1.alloc (.cells #[] 3)).alloc (.cells #[] 3))) := (HB1.out.alloc hsz _).alloc (by simp; omega) _
  have E1 := Lib.hid ((World.ownsRow_lit (base := G) (e := 3) (size := 1) w1 #[] 0 hsz (by unfold maxLen; omega) rfl).alloc (.cells #[] 3))
  have E2 := Lib.hid (World.ownsRow_lit (base := G) (e := 3) (size := 1) (w1.alloc (.cells #[] 3)) #[] 0 (by simp; omega) (by unfold maxLen; omega) rfl)
  have HI3 := Lib.hid (HI.out.below (HG.out.symm ▸ hB3.out))
  obtain ⟨p0, hp0⟩ : ∃ p0, w1.heap.size = p0 := ⟨_, rfl⟩
  have e1 : (w1.alloc (.cells #[] 3)).heap.size = p0 + 1 := by simp; omega
  rw [hp0] at E1
  rw [e1] at E2
  clear hd
  go_wp2_with fail
  refine (sum22_as _ n cap vs T _ HI3.out (by omega) HX1.out HT.out).mono ?_
  rintro e w4 ⟨rfl, rfl⟩
  go_wp2
  go_loopw [8, 9, 11] (fun ov rv iv wr => ∃ (k ga ca gb cb : Nat), k ≤ n ∧ iv = .int .i64 (k : Int) ∧ ov = .slice (some ⟨ga, 0, none⟩) k ca ∧ rv = .slice (some ⟨gb, 0, none⟩) k cb ∧ ga ≠ gb ∧ Hid (wr.ownsRow G 3 1 (.slice (some ⟨ga, 0, none⟩) k ca) k (((loL vs s).take k).map (Value.int .i64))) ∧ Hid (wr.ownsRow G 3 1 (.slice (some ⟨gb, 0, none⟩) k cb) k (((ovL vs s).take k).map (Value.int .i64))) ∧ Hid (Below G w wr)) (fun _ _ iv _ => n - (intOf iv).toNat)
  case atStart => exact ⟨0, _, _, _, _, Nat.zero_le _, rfl, rfl, rfl, by omega, E1, E2, hB3⟩
  case round =>
    clear E1 E2 hB3 HI3 e1 hp0 HB1 hsz
    obtain ⟨k, ga, ca, gb, cb, hkn, rfl, rfl, rfl, hab, hO, hP, hB⟩ := hrel
    have hBw : Below w.heap.size w wr := HG.out.symm ▸ hB.out
    by_cases hlt : k < n
    · obtain ⟨b, off, rfl, hb, hc⟩ := HI.out.2.2.2 (by omega)
      have ck := (hBw.cell (p := ⟨b, off + k, none⟩) hb).trans (hc k hlt)
      have hsi := share_in HV.out k2 (z := (k : Int)) (by omega) (by rw [HNV.out]; omega)
      rw [HT.out, seV_nat] at hsi
      have hlo : loF vs s (k : Int) = vs[k]?.getD 0 * s / T := by unfold loF lowI; rw [seV_nat, HT.out]
      have hov : ovF vs s (k : Int) = vs[k]?.getD 0 * s % T := by unfold ovF overI; rw [seV_nat, HT.out]
      have HLN : Hid ((loL vs s).take (k + 1) = (loL vs s).take k ++ [loF vs s (k : Int)]) := by rw [Hid, take_next (by rw [loL_length, HNV.out]; exact hlt), loL_at s (by rw [HNV.out]; exact hlt)]
      have HON : Hid ((ovL vs s).take (k + 1) = (ovL vs s).take k ++ [ovF vs s (k : Int)]) := by rw [Hid, take_next (by rw [ovL_length, HNV.out]; exact hlt), ovL_at s (by rw [HNV.out]; exact hlt)]
      obtain ⟨x, hx⟩ : ∃ x, loF vs s (k : Int) = x := ⟨_, rfl⟩
      obtain ⟨y, hy⟩ : ∃ y, ovF vs s (k : Int) = y := ⟨_, rfl⟩
      obtain ⟨z, hz⟩ : ∃ z, vs[k]?.getD 0 = z := ⟨_, rfl⟩
      rw [hx] at hsi hlo HLN
      rw [hy] at hsi hov HON
      rw [hz] at ck hsi hlo hov
      obtain ⟨q1, q2, q3, q4, q5, q6⟩ := hsi
      obtain ⟨p, hp⟩ : ∃ p, z * s = p := ⟨_, rfl⟩
      rw [hp] at q4 hlo hov
      have hw1 : IntKind.i64.wrap (z * s) = p := by rw [hp]; exact IntWalk.i64_in _ (by omega)
      have hTz : (T == 0) = false := beq_eq_false_iff_ne.2 (by omega)
      have hd : p.tdiv T = x := by rw [hlo]; exact Int.tdiv_eq_ediv_of_nonneg (by omega)
      have hr : p.tmod T = y := by rw [hov]; exact Int.tmod_eq_emod_of_nonneg (by omega)
      have hwx : IntKind.i64.wrap x = x := IntWalk.i64_in _ (by omega)
      have hwy : IntKind.i64.wrap y = y := IntWalk.i64_in _ (by omega)
      have hki : (k : Int) < (n : Int) := by omega
      have hsw : G ≤ wr.heap.size := by have := hB.out.size; omega
      have hgaw : ga < wr.heap.size := (hO.out.lt ga rfl).2
      have hgbw : gb < wr.heap.size := (hP.out.lt gb rfl).2
      have hgaG : G ≤ ga := (hO.out.lt ga rfl).1
      have hgbG : G ≤ gb := (hP.out.lt gb rfl).1
      have hbG : b < G := by omega
      clear hx hy hz hp hlo hov hc hBw
      go_wp2_with (first | (at_builtin; refine wpList_append_lies _ rfl _ _ 23 rfl G 3 i0 (.int .i64 0) 1 8 Try.underlying23 hi hz0 hz1 hz2 rfl (by decide) _ _ _ rfl (hP4.out.alloc _) ⟨w4.heap.size, 0, none⟩ 1 1 [.int .i64 y] rfl rfl (cell_one_new _ _ _) (by simp [Value.oneCell']) Nat.one_pos (by unfold maxLen; omega) (by omega) (by simp; omega) _ rfl ?_; intro g5 c5 w5 hown hgrow hat hg5) | (at_builtin; refine wpList_append_lies _ rfl _ _ 23 rfl G 3 i0 (.int .i64 0) 1 8 Try.underlying23 hi hz0 hz1 hz2 rfl (by decide) _ _ _ rfl (hO.out.alloc _) ⟨wr.heap.size, 0, none⟩ 1 1 [.int .i64 x] rfl rfl (cell_one_new _ _ _) (by simp [Value.oneCell']) Nat.one_pos (by unfold maxLen; omega) (by omega) (by simp; omega) _ rfl ?_; intro g4 c4 w4 hown hgrow hat hg4; have hB4 : Hid (Below G w w4) := (hB.out.alloc hsw _).grown hgrow (by simp; omega) (fun j e => by have e : some ga = some j := e; injection e with e; omega); have ck4 : w4.cell? ⟨b, off + k, none⟩ = some (.int .i64 z) := (hB4.out.cell (p := ⟨b, off + k, none⟩) hbG).trans ((hB.out.cell (p := ⟨b, off + k, none⟩) hbG).symm.trans ck); have hP4 := Lib.hid ((hP.out.alloc (.cells #[.int .i64 x] 3)).kept hgrow (.inr (fun e => by have e : some gb = some ga := e; injection e with e; exact hab e.symm))); have hsw4 : G ≤ w4.heap.size := Nat.le_trans hsw (Nat.le_trans (by simp) hgrow.size); have HAT := Lib.hid hat; have HO4 := Lib.hid hown; clear hown hgrow hat))
      have hg4b : g4 ≠ gb := by
        rcases HAT.out with e | e
        · have e : some ga = some g4 := e
          injection e with e; omega
        · rw [e]; simp; omega
      have hO4 : Hid (w4.ownsRow G 3 1 (.slice (some ⟨g4, 0, none⟩) (k + 1) c4) (k + 1) (((loL vs s).take (k + 1)).map (Value.int .i64))) := by
        unfold Hid; rw [HLN.out, List.map_append]; exact HO4.out
      have hg45 : g4 ≠ g5 := by
        rcases hat with e | e
        · have e : some gb = some g5 := e
          injection e with e; omega
        · rw [e]; simp; omega
      have hB5 : Hid (Below G w w5) := (hB4.out.alloc hsw4 _).grown hgrow (by simp; omega) (fun j e => by have e : some gb = some j := e; injection e with e; omega)
      have hP5 : Hid (w5.ownsRow G 3 1 (.slice (some ⟨g5, 0, none⟩) (k + 1) c5) (k + 1) (((ovL vs s).take (k + 1)).map (Value.int .i64))) := by
        unfold Hid; rw [HON.out, List.map_append]; exact hown
      have hO5 := Lib.hid ((hO4.out.alloc (.cells #[.int .i64 y] 3)).kept hgrow (.inr (fun e => by have e : some g4 = some gb := e; injection e with e; exact hg4b e)))
      clear hown hgrow hat hO4 hP4 hB4 ck4 HO4 HAT hO hP hB ck
      go_wp2
      go_roundw
      case rel => exact ⟨k + 1, g4, c4, g5, c5, by omega, by go_num, rfl, rfl, hg45, hO5, hP5, hB5⟩
      case measure => simp [intOf]; omega
    · obtain rfl : k = n := by omega
      have O6 : Hid (wr.ownsRow G 3 1 (.slice (some ⟨ga, 0, none⟩) k ca) k ((upL vs s lots 0).map (Value.int .i64))) := by
        have := hO.out
        rw [List.take_of_length_le (by rw [loL_length, HNV.out]; exact Nat.le_refl _), ← upL_zero vs s lots] at this
        exact this
      have P6 : Hid (wr.ownsRow G 3 1 (.slice (some ⟨gb, 0, none⟩) k cb) k ((reL vs s lots 0).map (Value.int .i64))) := by
        have := hP.out
        rw [List.take_of_length_le (by rw [ovL_length, HNV.out]; exact Nat.le_refl _), ← reL_zero vs s lots] at this
        exact this
      have hgaG : G ≤ ga := (hO.out.lt ga rfl).1
      have hgbG : G ≤ gb := (hP.out.lt gb rfl).1
      have HUP : Hid (∀ m, m ≤ lfN vs s → totI (upL vs s lots m) + ((lfN vs s - m : Nat) : Int) = s) := fun m hm => by
        have := up_tot HV.out k2 HLB.out HEQ.out hm
        have := HLF.out.1
        omega
      have HUI : Hid (∀ m, m ≤ lfN vs s → ∀ x : Nat, x < k → 0 ≤ (upL vs s lots m)[x]?.getD 0 ∧ (upL vs s lots m)[x]?.getD 0 ≤ 21) := fun m hm x hx => up_in HV.out k2 HLB.out HEQ.out hm (by rw [HNV.out]; exact hx)
      have HUL : Hid (∀ m, (upL vs s lots m).length = k) := fun m => by rw [upL_length]; exact HNV.out
      have HRL : Hid (∀ m, (reL vs s lots m).length = k) := fun m => by rw [reL_length]; exact HNV.out
      obtain ⟨L, hL⟩ : ∃ L, lfN vs s = L := ⟨_, rfl⟩
      have HLN := Lib.hid hL
      rw [hL] at HUP HUI
      have HMEM : Hid (∀ z ∈ lots, 0 ≤ z ∧ z < (k : Int)) := fun z hz => by
        have := lotsB_mem HLB.out z hz
        rw [HEQ.out, HNV.out] at this
        exact this
      clear hO hP hBw hL
      go_wp2
      go_loopw [12] (fun _ wr => ∃ (m : Nat), m ≤ L ∧ Hid (wr.ownsRow G 3 1 (.slice (some ⟨ga, 0, none⟩) k ca) k ((upL vs s lots m).map (Value.int .i64))) ∧ Hid (wr.ownsRow G 3 1 (.slice (some ⟨gb, 0, none⟩) k cb) k ((reL vs s lots m).map (Value.int .i64))) ∧ Hid (Below G w wr)) (fun _ wr => seatsIn s ga k wr)
      case atStart => exact ⟨0, Nat.zero_le _, O6, P6, hB⟩
      case round =>
        clear O6 P6 hB
        obtain ⟨m, hmL, hO, hP, hB⟩ := hrel
        have hBw : Below w.heap.size w wr := HG.out.symm ▸ hB.out
        have IO := Lib.hid (IsInts.of_owned hO.out (by omega))
        have IP := Lib.hid (IsInts.of_owned hP.out (by omega))
        have hU := HUP.out m hmL
        obtain ⟨S, hS⟩ : ∃ S, totI (upL vs s lots m) = S := ⟨_, rfl⟩
        rw [hS] at hU
        have HSS := Lib.hid hS
        have HBB : Hid (∀ x : Nat, x < k → 0 ≤ (upL vs s lots m)[x]?.getD 0 ∧ (upL vs s lots m)[x]?.getD 0 ≤ 100000) := fun x hx => by have := HUI.out m hmL x hx; omega
        clear hS
        go_wp2_with fail
        refine (sum22_as _ k ca (upL vs s lots m) S _ IO.out (by omega) HBB.out HSS.out).mono ?_
        rintro e w7 ⟨rfl, rfl⟩
        by_cases hlt : m < L
        · have hSs : decide (S < s) = true := decide_eq_true (by omega)
          have HPK : Hid (pickL lots (mostL (reL vs s lots m) (allL k)) = tpA vs s lots m) := by
            have := pick_top HV.out k2 HLB.out HEQ.out (k := m) (by rw [HLN.out]; exact hmL)
            rw [HNV.out] at this
            exact this
          obtain ⟨-, tp0, tp1⟩ := tp_in (vs := vs) (s := s) HLB.out HEQ.out m
          have HSU := up_step (vs := vs) (s := s) HLB.out HEQ.out m
          have HSR := re_step (vs := vs) (s := s) HLB.out HEQ.out m
          obtain ⟨p, hp⟩ : ∃ p, tpA vs s lots m = p := ⟨_, rfl⟩
          rw [hp] at tp0 tp1 HSU HSR HPK
          obtain ⟨q, rfl⟩ := Int.eq_ofNat_of_zero_le tp0
          rw [Int.toNat_natCast] at HSU HSR
          have hqn : q < k := by rw [← HNV.out]; omega
          have hub := HUI.out m hmL q hqn
          obtain ⟨z, hz⟩ : ∃ z, (upL vs s lots m)[q]?.getD 0 = z := ⟨_, rfl⟩
          rw [hz] at hub HSU
          have HZ := Lib.hid hz
          have HSU := Lib.hid HSU
          have HSR := Lib.hid HSR
          have hme : Hid (seatsIn s ga k wr = L - m) := by
            rw [Hid, seatsIn_is s hO.out (HUL.out m), HSS.out]; omega
          clear hz hp tp0 tp1
          go_wp2_with fail
          refine (all11_as k _ (by omega)).mono ?_
          rintro e w8 ⟨a8, c8, rfl, ho8, hb8⟩
          have IP8 := Lib.hid (IP.out.below hb8)
          have J8 := Lib.hid (boolsRow_is ho8 (by simp [allL]) (by omega))
          have HB8 := Lib.hid hb8
          clear ho8 hb8
          go_wp2_with fail
          refine (most11_as _ _ _ (reL vs s lots m) _ _ (allL k) _ IP8.out J8.out _ rfl).mono ?_
          rintro e w9 ⟨a9, c9, rfl, ho9, hb9⟩
          have J9 := Lib.hid (boolsRow_is ho9 (by rw [mostL_length]; exact HRL.out m) (by omega))
          have HB9 := Lib.hid (below_on HB8.out hb9)
          have HL9 := Lib.hid (HL.out.below (below_on hBw HB9.out))
          clear ho9 hb9
          go_wp2_with fail
          refine (l4First_any _ _ _ lots _ _ _ (mostL (reL vs s lots m) (allL k)) _ HL9.out J9.out HMEM.out).mono ?_
          rintro e w10 ⟨he, rfl⟩
          rw [HPK.out] at he
          subst he
          have O9 := Lib.hid (owns_under hO.out HB9.out)
          have P9 := Lib.hid (owns_under hP.out HB9.out)
          have B9 : Hid (Below G w w9) := hG ▸ below_on hBw HB9.out
          have cz := owns_int O9.out (HUL.out m) hqn HZ.out
          have fz : w9.frozen? ⟨ga, q, none⟩ = false := O9.out.frozenAt q
          have HST := Lib.hid (O9.out.stored q (.int .i64 (z + 1)))
          have O10 : Hid ((w9.setCell ⟨ga, q, none⟩ (.int .i64 (z + 1))).ownsRow G 3 1 (.slice (some ⟨ga, 0, none⟩) k ca) k ((upL vs s lots (m + 1)).map (Value.int .i64))) := by
            unfold Hid; rw [HSU.out, ← map_set_int]; exact HST.out.1
          have P10 := Lib.hid (P9.out.kept HST.out.2 (.inr (fun e => by have e : some gb = some ga := e; injection e with e; exact hab e.symm)))
          have cy := owns_int P10.out (HRL.out m) hqn rfl
          have fy : (w9.setCell ⟨ga, q, none⟩ (.int .i64 (z + 1))).frozen? ⟨gb, q, none⟩ = false := P10.out.frozenAt q
          have HSV := Lib.hid (P10.out.stored q (.int .i64 (-1)))
          have P11 : Hid (((w9.setCell ⟨ga, q, none⟩ (.int .i64 (z + 1))).setCell ⟨gb, q, none⟩ (.int .i64 (-1))).ownsRow G 3 1 (.slice (some ⟨gb, 0, none⟩) k cb) k ((reL vs s lots (m + 1)).map (Value.int .i64))) := by
            unfold Hid; rw [HSR.out, ← map_set_int]; exact HSV.out.1
          have O11 := Lib.hid (O10.out.kept HSV.out.2 (.inr (fun e => by have e : some ga = some gb := e; injection e with e; exact hab e)))
          have B11 : Hid (Below G w ((w9.setCell ⟨ga, q, none⟩ (.int .i64 (z + 1))).setCell ⟨gb, q, none⟩ (.int .i64 (-1)))) := (B9.out.setCell (p := ⟨ga, q, none⟩) hgaG _).setCell (p := ⟨gb, q, none⟩) hgbG _
          have hms : Hid (seatsIn s ga k ((w9.setCell ⟨ga, q, none⟩ (.int .i64 (z + 1))).setCell ⟨gb, q, none⟩ (.int .i64 (-1))) = L - (m + 1)) := by
            have := HUP.out (m + 1) (by omega)
            rw [Hid, seatsIn_is s O11.out (HUL.out (m + 1))]; omega
          have hqi : (q : Int) < (k : Int) := by omega
          clear HST HSV O9 P9 B9 O10 P10 hO hP hB hBw IO IP IP8 J8 J9 HB8 HB9 HL9
          go_wp2
          go_roundw
          case rel => exact ⟨m + 1, by omega, O11, P11, B11⟩
          case measure => rw [hms.out, hme.out]; omega
        · obtain rfl : m = L := by omega
          have hSs : decide (S < s) = false := decide_eq_false (by omega)
          have HRE : Hid (upL vs s lots m = r) := by rw [Hid, ← HLN.out]; exact HR.out
          have hrl : r.length = k := by rw [← HRE.out]; exact HUL.out m
          have HRLL := Lib.hid hrl
          clear hrl
          go_wp2
          go_ret2
          refine ⟨some ⟨ga, 0, none⟩, ca, by rw [HRLL.out]; rfl, ?_, hBw⟩
          rw [HRLL.out, ← HRE.out, HG.out]
          exact hO.out

set_option maxHeartbeats 2000000 in
/-- **spec.SeatsRemainder**, at other arguments. -/
theorem specRem_no (a : Option Addr) (n cap : Nat) (vs : List Int) (s : Int) (al : Option Addr) (nl cl : Nat) (lots : List Int) (w : World) (h : IsInts w a n cap vs) (hl : IsInts w al nl cl lots) (hk : okR vs s lots = false) :
    Calls Try.prog 15 #[.slice a n cap, .int .i64 s, .slice al nl cl] w (Told w [] false) := by
  have HI := Lib.hid h
  have HL := Lib.hid hl
  have hnv := h.1
  have hnl := hl.1
  obtain ⟨v1, hv1⟩ : ∃ v, inB s 0 20 = v := ⟨_, rfl⟩
  obtain ⟨v2, hv2⟩ : ∃ v, voteB vs = v := ⟨_, rfl⟩
  obtain ⟨v3, hv3⟩ : ∃ v, lotsB lots = v := ⟨_, rfl⟩
  have V1 := Lib.hid hv1
  have V2 := Lib.hid hv2
  have V3 := Lib.hid hv3
  have HK : Hid ((v2 && (v1 && (v3 && decide (nl = n)))) = false) := by
    unfold Hid; rw [← hk, ← hv1, ← hv2, ← hv3, ← hnv, ← hnl]; rfl
  have HT : Hid (∀ w1, Below w.heap.size w w1 → Told w [] false (.returned (.tuple #[.slice (some ⟨w1.heap.size, 0, none⟩) 0 0, .bool false])) (w1.alloc (.cells #[] 3))) := fun w1 hb =>
    ⟨some ⟨w1.heap.size, 0, none⟩, 0, rfl, World.ownsRow_lit w1 #[] 0 hb.size (by unfold maxLen; omega) rfl, hb.alloc hb.size _⟩
  have hm1 := h.2.2.1
  have hm2 := hl.2.2.1
  clear h hl hk hv1 hv2 hv3 hnv hnl
  go_enter Try.func15, Try.ntmps15
  go_wp2_with fail
  refine (specVotes_as _ _ _ vs v2 _ HI.out V2.out).mono ?_
  rintro e w1 ⟨rfl, rfl⟩
  cases v2
  · go_wp2
    go_ret2
    exact HT.out _ (Below.refl _ _)
  go_wp2_with fail
  refine (l6In_any _ _ _ _).mono ?_
  rintro e w' ⟨he, rfl⟩
  rw [V1.out] at he
  subst he
  cases v1
  · go_wp2
    go_ret2
    exact HT.out _ (Below.refl _ _)
  go_wp2_with fail
  refine (specLots_as _ _ _ lots v3 _ HL.out V3.out).mono ?_
  rintro e w1 ⟨rfl, hd⟩
  have HD : Hid (Below w.heap.size w w1) := hd.below _
  clear hd
  cases v3
  · go_wp2
    go_ret2
    exact HT.out _ HD.out
  have hnn : ¬ nl = n := by have := HK.out; simpa using this
  have hne : ((nl : Int) != (n : Int)) = true := by simp; omega
  clear hnn
  go_wp2
  go_ret2
  exact HT.out _ HD.out

/-- **spec.SeatsRemainder**. -/
theorem specRem_as (a : Option Addr) (n cap : Nat) (vs : List Int) (s : Int) (al : Option Addr) (nl cl : Nat) (lots : List Int) (r : List Int) (v : Bool) (w : World) (h : IsInts w a n cap vs) (hl : IsInts w al nl cl lots) (hk : okR vs s lots = v) (hr : remL vs s lots = r) :
    Calls Try.prog 15 #[.slice a n cap, .int .i64 s, .slice al nl cl] w (Told w r v) := by
  cases v
  · have e : r = [] := by rw [← hr, remL, if_neg (by rw [hk]; decide)]
    subst e
    exact specRem_no a n cap vs s al nl cl lots w h hl hk
  · obtain ⟨-, -, -, h5⟩ := (okR_iff vs s lots).1 hk
    have e : nl = n := by have := h.1; have := hl.1; omega
    subst e
    rw [remL, if_pos hk] at hr
    exact specRem_yes a nl cap vs s al cl lots r w h hl hk hr

end Go.Proofs.Ytmbhcgdapglbgaa

namespace Go.Proofs.Ytmbhcgdapglbgaa
open Go.RowKit

attribute [local go_sem] Oper.semAt_some

theorem inP_yes {p : Int} {n : Nat} (h0 : 0 ≤ p) (h1 : p < (n : Int)) : inB p 0 ((n : Int) - 1) = true := inB_yes (by omega) (by omega)
set_option maxRecDepth 100000 in
set_option maxHeartbeats 8000000 in
/-- **spec.SeatsQuota**, at valid arguments. -/
theorem specQuo_yes (a : Option Addr) (n cap : Nat) (vs : List Int) (s : Int) (q : Nat) (x r : Int) (w : World) (h : IsInts w a n cap vs) (hk : okQ vs s (q : Int) = true) (hx : loF vs s (q : Int) = x) (hr : hiF vs s (q : Int) = r) :
    Calls Try.prog 22 #[.slice a n cap, .int .i64 s, .int .i64 (q : Int)] w fun e w' => e = .returned (.tuple #[.int .i64 x, .int .i64 r]) ∧ Dr w w' := by
  obtain ⟨k1, k2, k3, k4⟩ := (okQ_iff vs s (q : Int)).1 hk
  have hnv := h.1
  rw [hnv] at k4
  have hsi := share_in k1 k2 (z := (q : Int)) k3 (by rw [hnv]; exact k4)
  have hhi := hi_eq (vs := vs) (s := s) k1 (q : Int)
  obtain ⟨⟨x1, x2, x3⟩, -⟩ := (voteB_iff vs).1 k1
  rw [hnv] at x1 x2 x3
  have HI := Lib.hid h
  have HV := Lib.hid k1
  have HS := Lib.hid (inB_yes (x := s) (lo := 0) (hi := 20) (by omega) (by omega))
  have HP := Lib.hid (inP_yes k3 k4)
  have HX1 : Hid (∀ x : Nat, x < n → 0 ≤ vs[x]?.getD 0 ∧ vs[x]?.getD 0 ≤ 100000) := fun x hx => by have := toB_at x1 hx; omega
  have hlo : vs[q]?.getD 0 * s / totI vs = x := by rw [← hx]; unfold loF lowI; rw [seV_nat]
  have hup : (vs[q]?.getD 0 * s + totI vs - 1) / totI vs = r := by rw [← hr]; unfold hiF highI; rw [seV_nat]
  rw [seV_nat, hx] at hsi
  have hr21 : 0 ≤ r ∧ r ≤ 21 := by rw [← hr, hhi, hx]; split <;> omega
  have hqn : q < n := by omega
  obtain ⟨b, off, rfl, hb, hc⟩ := h.2.2.2 (by omega)
  have cq := hc q hqn
  obtain ⟨z, hz⟩ : ∃ z, vs[q]?.getD 0 = z := ⟨_, rfl⟩
  obtain ⟨t, ht⟩ : ∃ t, totI vs = t := ⟨_, rfl⟩
  have HT := Lib.hid ht
  rw [hz] at cq hsi hlo hup
  rw [ht] at hsi hlo hup
  obtain ⟨q1, q2, q3, q4, q5, -⟩ := hsi
  obtain ⟨p, hp⟩ : ∃ p, z * s = p := ⟨_, rfl⟩
  rw [hp] at q4 hlo hup
  have hw1 : IntKind.i64.wrap (z * s) = p := by rw [hp]; exact IntWalk.i64_in _ (by omega)
  have hw2 : IntKind.i64.wrap (p + t) = p + t := IntWalk.i64_in _ (by omega)
  have hw3 : IntKind.i64.wrap (p + t - 1) = p + t - 1 := IntWalk.i64_in _ (by omega)
  have hTz : (t == 0) = false := beq_eq_false_iff_ne.2 (by omega)
  have hd : p.tdiv t = x := by rw [← hlo]; exact Int.tdiv_eq_ediv_of_nonneg (by omega)
  have hd2 : (p + t - 1).tdiv t = r := by rw [← hup]; exact Int.tdiv_eq_ediv_of_nonneg (by omega)
  have hwx : IntKind.i64.wrap x = x := IntWalk.i64_in _ (by omega)
  have hwr : IntKind.i64.wrap r = r := IntWalk.i64_in _ (by omega)
  have hqi : (q : Int) < (n : Int) := by omega
  clear h hk hr hx hz ht hc x1 k1 hhi hnv hlo hup hp
  go_enter Try.func22, Try.ntmps22
  go_wp2_with fail
  refine (specVotes_as _ _ _ vs true _ HI.out HV.out).mono ?_
  rintro e w1 ⟨rfl, rfl⟩
  go_wp2_with fail
  refine (l6In_any _ _ _ _).mono ?_
  rintro e w' ⟨he, rfl⟩
  rw [HS.out] at he
  subst he
  go_wp2_with fail
  refine (l6In_any _ _ _ _).mono ?_
  rintro e w' ⟨he, rfl⟩
  rw [HP.out] at he
  subst he
  go_wp2_with fail
  refine (sum22_as _ n cap vs t _ HI.out (by omega) HX1.out HT.out).mono ?_
  rintro e w4 ⟨rfl, rfl⟩
  go_wp2_with fail
  go_quiet (fail)
  go_wp2
  go_ret2
  exact ⟨rfl, ⟨nq, rfl⟩⟩

set_option maxHeartbeats 2000000 in
/-- **spec.SeatsQuota**, at other arguments. -/
theorem specQuo_no (a : Option Addr) (n cap : Nat) (vs : List Int) (s p : Int) (w : World) (h : IsInts w a n cap vs) (hk : okQ vs s p = false) :
    Calls Try.prog 22 #[.slice a n cap, .int .i64 s, .int .i64 p] w fun e w' => e = .returned (.tuple #[.int .i64 (-1), .int .i64 (-1)]) ∧ Dr w w' := by
  have HI := Lib.hid h
  have hnv := h.1
  obtain ⟨v1, hv1⟩ : ∃ v, inB s 0 20 = v := ⟨_, rfl⟩
  obtain ⟨v2, hv2⟩ : ∃ v, voteB vs = v := ⟨_, rfl⟩
  have V1 := Lib.hid hv1
  have V2 := Lib.hid hv2
  have HK : Hid ((v2 && (v1 && (decide (0 ≤ p) && decide (p < (n : Int))))) = false) := by
    unfold Hid; rw [← hk, ← hv1, ← hv2, ← hnv]; rfl
  have hm := h.2.2.1
  clear h hk hv1 hv2 hnv
  go_enter Try.func22, Try.ntmps22
  go_wp2_with fail
  refine (specVotes_as _ _ _ vs v2 _ HI.out V2.out).mono ?_
  rintro e w1 ⟨rfl, rfl⟩
  cases v2
  · go_wp2
    go_ret2
    exact ⟨rfl, Dr.refl _⟩
  go_wp2_with fail
  refine (l6In_any _ _ _ _).mono ?_
  rintro e w' ⟨he, rfl⟩
  rw [V1.out] at he
  subst he
  cases v1
  · go_wp2
    go_ret2
    exact ⟨rfl, Dr.refl _⟩
  have HP : Hid (inB p 0 ((n : Int) - 1) = false) := by
    have := HK.out
    simp at this
    unfold Hid inB
    exact decide_eq_false (fun h => by have := this h.1; omega)
  go_wp2_with fail
  refine (l6In_any _ _ _ _).mono ?_
  rintro e w' ⟨he, rfl⟩
  rw [HP.out] at he
  subst he
  go_wp2
  go_ret2
  exact ⟨rfl, Dr.refl _⟩

/-- **spec.SeatsQuota**. -/
theorem specQuo_as (a : Option Addr) (n cap : Nat) (vs : List Int) (s p x r : Int) (w : World) (h : IsInts w a n cap vs) (hx : loR vs s p = x) (hr : hiR vs s p = r) :
    Calls Try.prog 22 #[.slice a n cap, .int .i64 s, .int .i64 p] w fun e w' => e = .returned (.tuple #[.int .i64 x, .int .i64 r]) ∧ Dr w w' := by
  cases hk : okQ vs s p
  · rw [loR, if_neg (by rw [hk]; decide)] at hx
    rw [hiR, if_neg (by rw [hk]; decide)] at hr
    subst hx
    subst hr
    exact specQuo_no a n cap vs s p w h hk
  · rw [loR, if_pos hk] at hx
    rw [hiR, if_pos hk] at hr
    obtain ⟨q, rfl⟩ := Int.eq_ofNat_of_zero_le ((okQ_iff vs s p).1 hk).2.2.1
    exact specQuo_yes a n cap vs s q x r w h hk hx hr

set_option maxRecDepth 100000 in
set_option maxHeartbeats 8000000 in
/-- **spec.SeatsFair**. -/
theorem specFair_as (a : Option Addr) (n cap : Nat) (vs : List Int) (a' : Option Addr) (n' cap' : Nat) (gs : List Int) (v : Bool) (w : World) (h : IsInts w a n cap vs) (h' : IsInts w a' n' cap' gs) (hv : fairB vs gs = v) :
    Calls Try.prog 24 #[.slice a n cap, .slice a' n' cap'] w fun e w' => e = .returned (.bool v) ∧ Dr w w' := by
  have hnv := h.1
  have hm := h.2.2.1
  have HI := Lib.hid h
  have HJ := Lib.hid h'
  have HNV := Lib.hid hnv
  have hnv' := h'.1
  unfold fairB at hv
  rw [hnv] at hv
  obtain ⟨v1, hv1⟩ : ∃ v, voteB vs = v := ⟨_, rfl⟩
  obtain ⟨v2, hv2⟩ : ∃ v, giveB gs n = v := ⟨_, rfl⟩
  rw [hv1, hv2] at hv
  have V1 := Lib.hid hv1
  have V2 := Lib.hid hv2
  have HVV := Lib.hid hv
  have HN' := Lib.hid hnv'
  clear h h' hv hv1 hv2 hnv hnv'
  go_enter Try.func24, Try.ntmps24
  go_wp2_with fail
  refine (specVotes_as _ _ _ vs v1 _ HI.out V1.out).mono ?_
  rintro e w1 ⟨rfl, rfl⟩
  cases v1
  · go_wp2
    go_ret
    exact ⟨ret_bool HVV.out, Dr.refl _⟩
  go_wp2_with fail
  refine (specGiven_as _ _ _ gs n v2 _ HJ.out (by omega) V2.out).mono ?_
  rintro e w1 ⟨rfl, rfl⟩
  cases v2
  · go_wp2
    go_ret
    exact ⟨ret_bool HVV.out, Dr.refl _⟩
  obtain ⟨g1, g2, g3⟩ := (giveB_iff gs n).1 V2.out
  have hn := ((voteB_iff vs).1 V1.out).1
  rw [HNV.out] at hn
  rw [g2] at g1
  have hn15 : 1 ≤ n ∧ n ≤ 5 := ⟨hn.2.1, hn.2.2⟩
  have hge := (le_totI (zs := gs) (fun i hi => (toB_at g1 (by omega)).1)).1
  have en : n' = n := HN'.out.symm.trans g2
  subst en
  have HX1 : Hid (∀ x : Nat, x < n' → 0 ≤ gs[x]?.getD 0 ∧ gs[x]?.getD 0 ≤ 100000) := fun x hx => by have := toB_at g1 hx; omega
  obtain ⟨s, hs⟩ : ∃ s, totI gs = s := ⟨_, rfl⟩
  have HS := Lib.hid hs
  have HF : Hid (faTo vs gs s n' = v) := by have := HVV.out; rw [hs] at this; exact this
  rw [hs] at hge g3
  have HOK : Hid (∀ i : Nat, i < n' → okQ vs s (i : Int) = true) := fun i hi => (okQ_iff _ _ _).2 ⟨V1.out, ⟨hge, g3⟩, by omega, by rw [HNV.out]; omega⟩
  obtain ⟨gb, go, rfl, hgb, hgc⟩ := HJ.out.2.2.2 (by omega)
  have HGC := Lib.hid hgc
  clear hs g1 g2 hn hgc HN' HVV
  go_wp2
  go_loopw [5, 6, 7] (fun iv _ _ wr => ∃ (i : Nat), i ≤ n' ∧ iv = .int .i64 (i : Int) ∧ Hid (Dr w wr) ∧ Hid (faTo vs gs s i = true)) (fun iv _ _ _ => n' - (intOf iv).toNat)
  case atStart => exact ⟨0, Nat.zero_le _, rfl, Dr.refl _, by simp [Hid, faTo]⟩
  case round =>
    obtain ⟨i, hin, rfl, hD, hA⟩ := hrel
    by_cases hlt : i < n'
    · have cg := ((hD.out.below w.heap.size).cell (p := ⟨gb, go + i, none⟩) hgb).trans (HGC.out i hlt)
      have HST := faTo_succ vs gs s i
      rw [hA.out, Bool.true_and] at HST
      obtain ⟨x, hx⟩ : ∃ x, loF vs s (i : Int) = x := ⟨_, rfl⟩
      obtain ⟨u, hu⟩ : ∃ u, hiF vs s (i : Int) = u := ⟨_, rfl⟩
      obtain ⟨z, hz⟩ : ∃ z, gs[i]?.getD 0 = z := ⟨_, rfl⟩
      rw [hx, hu] at HST
      rw [hz] at cg HST
      have HLO : Hid (loR vs s (i : Int) = x) := by rw [Hid, loR, if_pos (HOK.out i hlt)]; exact hx
      have HUP : Hid (hiR vs s (i : Int) = u) := by rw [Hid, hiR, if_pos (HOK.out i hlt)]; exact hu
      have HST := Lib.hid HST
      have hii : (i : Int) < (n' : Int) := by omega
      have HIW := Lib.hid (HI.out.dr hD.out)
      have HJW := Lib.hid (HJ.out.dr hD.out)
      clear hx hu hz
      go_wp2_with fail
      refine (sum22_as _ n' cap' gs s _ HJW.out (by omega) HX1.out HS.out).mono ?_
      rintro e w4 ⟨rfl, rfl⟩
      go_wp2_with fail
      refine (specQuo_as _ n' cap vs s (i : Int) x u _ HIW.out HLO.out HUP.out).mono ?_
      rintro e w5 ⟨rfl, hd5⟩
      have cg5 := ((hd5.below wr.heap.size).cell (p := ⟨gb, go + i, none⟩) (Nat.lt_of_lt_of_le hgb (hD.out.below w.heap.size).size)).trans cg
      have D5 := Lib.hid (hD.out.trans hd5)
      clear hd5 cg
      cases hi : inB z x u
      · have HI2 := Lib.hid hi
        have HN : Hid (v = false) := by rw [Hid, ← HF.out]; exact faTo_no (by rw [HST.out, hi]) hlt
        clear hi
        go_wp2_with fail
        refine (l6In_any _ _ _ _).mono ?_
        rintro e w' ⟨he, rfl⟩
        rw [HI2.out] at he
        subst he
        go_wp2
        go_ret
        exact ⟨ret_bool HN.out.symm, D5.out⟩
      · have HI2 := Lib.hid hi
        have HN : Hid (faTo vs gs s (i + 1) = true) := by rw [Hid, HST.out, hi]
        clear hi
        go_wp2_with fail
        refine (l6In_any _ _ _ _).mono ?_
        rintro e w' ⟨he, rfl⟩
        rw [HI2.out] at he
        subst he
        go_wp2
        go_roundw
        case rel => exact ⟨i + 1, by omega, by go_num, D5, HN⟩
        case measure => simp [intOf]; omega
    · obtain rfl : i = n' := by omega
      have HE : Hid (v = true) := by rw [Hid, ← HF.out]; exact hA.out
      go_wp2
      go_ret
      exact ⟨ret_bool HE.out.symm, hD.out⟩

end Go.Proofs.Ytmbhcgdapglbgaa
