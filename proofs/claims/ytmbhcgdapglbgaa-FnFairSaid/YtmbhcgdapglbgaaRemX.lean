/-
  The promises on remainders and shares, over lists; the statements' own sumOf at any numbers.
-/
import Derived.Test.YtmbhcgdapglbgaaGrp16
import Derived.Test.YtmbhcgdapglbgaaGrp11
namespace Go.Proofs.Ytmbhcgdapglbgaa
open Go.RowKit

section
variable {vs lots : List Int} {s : Int}
theorem tot_ov (hv : voteB vs = true) (hs : 0 ≤ s ∧ s ≤ 20) (hl : lotsB lots = true) (hn : lots.length = vs.length) : totI (lots.map fun z => overI (seV vs z) s (totI vs)) = (lfN vs s : Int) * totI vs := by
  have h := tot_lots hl hn (ovF vs s)
  have e : totI (ovL vs s) = totI ((List.range vs.length).map fun (i : Nat) => ovF vs s (i : Int)) := rfl
  rw [← e, (lf_is hv hs).2.1] at h
  exact h
theorem tot_lo (hv : voteB vs = true) (hs : 0 ≤ s ∧ s ≤ 20) (hl : lotsB lots = true) (hn : lots.length = vs.length) : totI (lots.map fun z => lowI (seV vs z) s (totI vs)) + (lfN vs s : Int) = s := by
  have h := tot_lots hl hn (loF vs s)
  have e : totI (loL vs s) = totI ((List.range vs.length).map fun (i : Nat) => loF vs s (i : Int)) := rfl
  rw [← e] at h
  have e2 : totI (lots.map fun z => lowI (seV vs z) s (totI vs)) = totI (lots.map (loF vs s)) := rfl
  rw [e2, h]
  exact (lf_is hv hs).1
theorem rem_all (hv : voteB vs = true) (hs : 0 ≤ s ∧ s ≤ 20) (hl : lotsB lots = true) (hn : lots.length = vs.length) :
    totI (lots.map (remF (seV vs) lots s (totI vs) (lfN vs s))) = s ∧ (∀ z, lowI (seV vs z) s (totI vs) ≤ remF (seV vs) lots s (totI vs) (lfN vs s) z ∧ remF (seV vs) lots s (totI vs) (lfN vs s) z ≤ highI (seV vs z) s (totI vs)) ∧
    (∀ i ∈ lots, ∀ k ∈ lots, lowI (seV vs i) s (totI vs) < remF (seV vs) lots s (totI vs) (lfN vs s) i → remF (seV vs) lots s (totI vs) (lfN vs s) k = lowI (seV vs k) s (totI vs) → IsTopR (fun z => overI (seV vs z) s (totI vs)) lots i k) := rem_law (V := seV vs) (vB_nodup hl) (lots_ne hl) ((voteB_iff vs).1 hv).2 (tot_ov hv hs hl hn) (tot_lo hv hs hl hn)
/-- **All seats are given, and fairly** (promise 90). -/
theorem p90_tot (hv : voteB vs = true) (hs : 0 ≤ s ∧ s ≤ 20) (hl : lotsB lots = true) (hn : lots.length = vs.length) : totI (upL vs s lots (lfN vs s)) = s := by
  rw [up_tot hv hs hl hn (Nat.le_refl _)]; exact (lf_is hv hs).1
theorem p90_each (hv : voteB vs = true) (hs : 0 ≤ s ∧ s ≤ 20) (hl : lotsB lots = true) (hn : lots.length = vs.length) {i : Nat} (hi : i < vs.length) : loF vs s (i : Int) ≤ (upL vs s lots (lfN vs s))[i]?.getD 0 ∧ (upL vs s lots (lfN vs s))[i]?.getD 0 ≤ hiF vs s (i : Int) := by
  rw [upL_at s lots _ hi]
  exact (rem_all hv hs hl hn).2.1 (i : Int)
theorem p90_fair (hv : voteB vs = true) (hs : 0 ≤ s ∧ s ≤ 20) (hl : lotsB lots = true) (hn : lots.length = vs.length) : fairB vs (upL vs s lots (lfN vs s)) = true := by
  have ht := p90_tot hv hs hl hn
  have hlen := upL_length vs s lots (lfN vs s)
  have h0 : ∀ i, i < (upL vs s lots (lfN vs s)).length → 0 ≤ (upL vs s lots (lfN vs s))[i]?.getD 0 := fun i hi => (up_in hv hs hl hn (Nat.le_refl _) (by rw [← hlen]; exact hi)).1
  have hle := (le_totI h0).2
  unfold fairB
  rw [hv, Bool.true_and, Bool.and_eq_true]
  refine ⟨(giveB_iff _ _).2 ⟨toB_of (fun i hi => ⟨h0 i hi, by have := hle i hi; omega⟩), hlen, by omega⟩, ?_⟩
  rw [ht, faTo_iff]
  exact fun i hi => p90_each hv hs hl hn hi
/-- **Greater remainders come first** (promise 91). -/
theorem p91_first (hv : voteB vs = true) (hs : 0 ≤ s ∧ s ≤ 20) (hl : lotsB lots = true) (hn : lots.length = vs.length) {i k : Nat} (hi : i < vs.length) (hk : k < vs.length) (h1 : loF vs s (i : Int) < (upL vs s lots (lfN vs s))[i]?.getD 0) (h2 : (upL vs s lots (lfN vs s))[k]?.getD 0 = loF vs s (k : Int)) :
    ovF vs s (k : Int) < ovF vs s (i : Int) ∨ (ovF vs s (i : Int) = ovF vs s (k : Int) ∧ befL lots (k : Int) (i : Int) = false) := by
  have him := lots_mem hl (show i < lots.length by omega)
  have hkm := lots_mem hl (show k < lots.length by omega)
  rw [upL_at s lots _ hi] at h1
  rw [upL_at s lots _ hk] at h2
  have h := (rem_all hv hs hl hn).2.2 _ him _ hkm h1 h2
  rcases h with h | ⟨h, hx⟩
  · exact .inl h
  · right
    refine ⟨h.symm, ?_⟩
    cases hb : befL lots (k : Int) (i : Int)
    · rfl
    · have := (befL_iff hkm).1 hb
      omega
/-- **More votes do not have fewer seats** (promise 92). -/
theorem p92_votes (hv : voteB vs = true) (hs : 0 ≤ s ∧ s ≤ 20) (hl : lotsB lots = true) (hn : lots.length = vs.length) {i k : Nat} (hi : i < vs.length) (hk : k < vs.length) (h : vs[k]?.getD 0 < vs[i]?.getD 0) : (upL vs s lots (lfN vs s))[k]?.getD 0 ≤ (upL vs s lots (lfN vs s))[i]?.getD 0 := by
  rw [upL_at s lots _ hi, upL_at s lots _ hk]
  exact rem_votes (V := seV vs) (vB_nodup hl) (lots_ne hl) ((voteB_iff vs).1 hv).2 hs.1 (tot_ov hv hs hl hn) (tot_lo hv hs hl hn) (lots_mem hl (by omega)) (lots_mem hl (by omega)) (by rw [seV_nat, seV_nat]; exact h)
/-- **Whole shares need no remainders** (promise 93). -/
theorem p93_whole (hv : voteB vs = true) (hs : 0 ≤ s ∧ s ≤ 20) (hl : lotsB lots = true) (hn : lots.length = vs.length) (hz : ∀ k, k < vs.length → vs[k]?.getD 0 * s % totI vs = 0) {i : Nat} (hi : i < vs.length) : (upL vs s lots (lfN vs s))[i]?.getD 0 * totI vs = vs[i]?.getD 0 * s := by
  have h0 : lfN vs s = 0 := rem_whole (V := seV vs) ((voteB_iff vs).1 hv).2 (tot_ov hv hs hl hn) (fun z hz' => by
    have hm := lotsB_mem hl z hz'
    have := hz z.toNat (by omega)
    unfold overI seV
    exact this)
  rw [h0, upL_zero, loL_at s hi]
  have h1 := low_over (seV vs (i : Int)) s (totI vs)
  have h2 : overI (seV vs (i : Int)) s (totI vs) = 0 := by unfold overI; rw [seV_nat]; exact hz i hi
  rw [h2, seV_nat] at h1
  have e : loF vs s (i : Int) = lowI (vs[i]?.getD 0) s (totI vs) := by unfold loF; rw [seV_nat]
  rw [e, Int.mul_comm]; omega
/-- **A share is between two whole numbers** (promise 94). -/
theorem p94_quota (hv : voteB vs = true) (i : Nat) : loF vs s (i : Int) * totI vs ≤ vs[i]?.getD 0 * s ∧ vs[i]?.getD 0 * s ≤ hiF vs s (i : Int) * totI vs ∧ hiF vs s (i : Int) - loF vs s (i : Int) ≤ 1 ∧ (hiF vs s (i : Int) = loF vs s (i : Int) ↔ vs[i]?.getD 0 * s % totI vs = 0) := by
  have h := quota_law (v := seV vs (i : Int)) (S := s) ((voteB_iff vs).1 hv).2
  rw [seV_nat] at h
  unfold loF hiF
  rw [seV_nat]
  exact h
/-- **Shares are together all seats** (promise 95). -/
def hiL (vs : List Int) (s : Int) : List Int := (List.range vs.length).map fun (i : Nat) => hiF vs s (i : Int)
theorem hiL_length (vs : List Int) (s : Int) : (hiL vs s).length = vs.length := by simp [hiL]
theorem hiL_at {vs : List Int} {i : Nat} (s : Int) (h : i < vs.length) : (hiL vs s)[i]?.getD 0 = hiF vs s (i : Int) := by simp [hiL, h]
theorem p95_sum (hv : voteB vs = true) : totI (loL vs s) ≤ s ∧ s ≤ totI (hiL vs s) := by
  have h := quota_sum (V := seV vs) (l := upN vs.length) (S := s) (tot_self vs) ((voteB_iff vs).1 hv).2
  rw [upN_map, upN_map] at h
  exact h
end

/-- The sum of numbers as the machine has it. -/
def wS (zs : List Int) : Int := zs.foldl (fun t z => IntKind.i64.wrap (t + z)) 0
theorem wS_snoc (zs : List Int) (z : Int) : wS (zs ++ [z]) = IntKind.i64.wrap (wS zs + z) := by simp [wS]
theorem wS_take {zs : List Int} {n : Nat} (hl : zs.length = n) (hn : n ≤ 20) (h : ∀ i, i < n → 0 ≤ zs[i]?.getD 0 ∧ zs[i]?.getD 0 ≤ 100000) : ∀ k, k ≤ n → wS (zs.take k) = totI (zs.take k)
  | 0, _ => by simp [wS, totI_nil]
  | k + 1, hk => by
    have ih := wS_take hl hn h k (by omega)
    have hb := tot_bound (m := 100000) (by omega) h (k + 1) hk
    have hkl : k < zs.length := by omega
    have e : zs.take (k + 1) = zs.take k ++ [zs[k]?.getD 0] := by rw [List.take_succ_eq_append_getElem hkl]; simp [hkl]
    rw [tot_take hkl] at hb ⊢
    rw [e, wS_snoc, ih]
    exact IntWalk.i64_in _ (by omega)
theorem wS_tot {zs : List Int} {n : Nat} (hl : zs.length = n) (hn : n ≤ 20) (h : ∀ i, i < n → 0 ≤ zs[i]?.getD 0 ∧ zs[i]?.getD 0 ≤ 100000) : wS zs = totI zs := by
  have := wS_take hl hn h n (Nat.le_refl _)
  rw [List.take_of_length_le (by omega)] at this
  exact this
set_option maxHeartbeats 2000000 in
/-- **sumOf**, at any numbers. -/
theorem lawSumW_as (a : Option Addr) (len cap : Nat) (zs : List Int) (s : Int) (w : World) (h : IsInts w a len cap zs) (hs : wS zs = s) :
    Calls Try.prog 17 #[.slice a len cap] w fun e w' => e = .returned (.int .i64 s) ∧ w = w' := by
  obtain ⟨h1, h2, h3, h4⟩ := h
  have H1 := Lib.hid h1
  have H4 := Lib.hid h4
  have HS := Lib.hid hs
  clear h1 h4 hs
  go_enter Try.func17, Try.ntmps17
  go_wp2
  go_loop [3, 4] (fun nv iv => ∃ (i : Nat) (t : Int), i ≤ len ∧ iv = .int .i64 (i : Int) ∧ nv = .int .i64 t ∧ Hid (wS (zs.take i) = t)) (fun _ iv => len - (intOf iv).toNat)
  case atStart => exact ⟨0, 0, Nat.zero_le _, rfl, rfl, by unfold Hid; simp [wS]⟩
  case round =>
    obtain ⟨i, t, hil, rfl, rfl, hT⟩ := hrel
    by_cases hlt : i < len
    · obtain ⟨b, off, rfl, hb, hc⟩ := H4.out (by omega)
      have ci := hc i hlt
      have hil' : i < zs.length := by rw [H1.out]; exact hlt
      obtain ⟨z, hz⟩ : ∃ z, zs[i]?.getD 0 = z := ⟨_, rfl⟩
      rw [hz] at ci
      obtain ⟨u, hu⟩ : ∃ u, IntKind.i64.wrap (t + z) = u := ⟨_, rfl⟩
      have HT2 : Hid (wS (zs.take (i + 1)) = u) := by
        rw [Hid, List.take_succ_eq_append_getElem hil', wS_snoc, hT.out, ← hu, ← hz]; simp [hil']
      clear hc hz
      go_wp2
      go_round
      case rel => exact ⟨i + 1, u, by omega, by go_num, rfl, HT2⟩
      case measure => simp [intOf]; omega
    · obtain rfl : i = len := by omega
      have HE : Hid (t = s) := by rw [Hid, ← HS.out, ← hT.out, List.take_of_length_le (by rw [H1.out]; exact Nat.le_refl _)]
      go_wp2
      go_ret
      exact ⟨ret_int HE.out, rfl⟩

/-- What FnFair finds behind k rounds. -/
def fineTo (vs gs : List Int) (k : Nat) : Bool := (decide (gs.length = vs.length) && decide (0 < vs.length)) && (List.range k).all fun (i : Nat) => decide (0 ≤ loR vs (wS gs) (i : Int)) && (decide (loR vs (wS gs) (i : Int) ≤ gs[i]?.getD 0) && decide (gs[i]?.getD 0 ≤ hiR vs (wS gs) (i : Int)))
theorem fineTo_succ (vs gs : List Int) (k : Nat) : fineTo vs gs (k + 1) = (fineTo vs gs k && (decide (0 ≤ loR vs (wS gs) (k : Int)) && (decide (loR vs (wS gs) (k : Int) ≤ gs[k]?.getD 0) && decide (gs[k]?.getD 0 ≤ hiR vs (wS gs) (k : Int))))) := by
  simp [fineTo, List.range_succ, Bool.and_assoc]
/-- **Fair seats are shares, rounded down or up** (promise 96). -/
theorem p96_fine (vs gs : List Int) (hv5 : vs.length ≤ 5) (k : Nat) (hk : k = if gs.length < vs.length then gs.length else vs.length) : fairB vs gs = fineTo vs gs k := by
  rw [Bool.eq_iff_iff]
  unfold fairB fineTo
  simp only [Bool.and_eq_true, decide_eq_true_iff, List.all_eq_true, List.mem_range]
  constructor
  · rintro ⟨h1, h2, h3⟩
    obtain ⟨g1, g2, g3⟩ := (giveB_iff gs vs.length).1 h2
    have hn := ((voteB_iff vs).1 h1).1
    rw [g2] at g1
    have hw : wS gs = totI gs := wS_tot g2 (by omega) (fun i hi => by have := toB_at g1 hi; omega)
    have hge := (le_totI (zs := gs) (fun i hi => (toB_at g1 (by omega)).1)).1
    refine ⟨⟨g2, by omega⟩, fun i hi => ?_⟩
    have hin : i < vs.length := by rw [hk] at hi; split at hi <;> omega
    have ho : okQ vs (totI gs) (i : Int) = true := (okQ_iff _ _ _).2 ⟨h1, ⟨hge, g3⟩, by omega, by omega⟩
    have hf := faTo_iff.1 h3 i hin
    have hlo := (share_in h1 ⟨hge, g3⟩ (z := (i : Int)) (by omega) (by omega)).2.2.2.2.1
    rw [hw, loR, hiR, if_pos ho, if_pos ho]
    exact ⟨hlo.1, hf.1, hf.2⟩
  · rintro ⟨⟨h1, h2⟩, h3⟩
    have hkn : k = vs.length := by rw [hk, if_neg (by omega)]
    rw [hkn] at h3
    have hok : ∀ i, i < vs.length → okQ vs (wS gs) (i : Int) = true := fun i hi => by
      have := (h3 i hi).1
      cases ho : okQ vs (wS gs) (i : Int)
      · rw [loR, if_neg (by rw [ho]; decide)] at this; omega
      · rfl
    obtain ⟨o1, o2, -, -⟩ := (okQ_iff _ _ _).1 (hok 0 h2)
    have hb : ∀ i, i < vs.length → (loF vs (wS gs) (i : Int) ≤ gs[i]?.getD 0 ∧ gs[i]?.getD 0 ≤ hiF vs (wS gs) (i : Int)) ∧ 0 ≤ gs[i]?.getD 0 ∧ gs[i]?.getD 0 ≤ 21 := fun i hi => by
      have h := h3 i hi
      rw [loR, hiR, if_pos (hok i hi), if_pos (hok i hi)] at h
      have hs := (share_in o1 o2 (z := (i : Int)) (by omega) (by omega)).2.2.2.2.1
      have he := hi_eq (vs := vs) (s := wS gs) o1 (i : Int)
      have : hiF vs (wS gs) (i : Int) ≤ 21 := by rw [he]; split <;> omega
      exact ⟨⟨h.2.1, h.2.2⟩, by omega, by omega⟩
    have hw : wS gs = totI gs := wS_tot h1 (by omega) (fun i hi => by have := (hb i hi).2; omega)
    rw [hw] at o2 hb
    have hle := (le_totI (zs := gs) (fun i hi => (hb i (by omega)).2.1)).2
    refine ⟨o1, (giveB_iff _ _).2 ⟨toB_of (fun i hi => ?_), h1, o2.2⟩, faTo_iff.2 (fun i hi => (hb i hi).1)⟩
    have h5 := hle i hi
    exact ⟨(hb i (by omega)).2.1, by omega⟩

theorem sameInts_it2 (a : Option Addr) (len cap : Nat) (zs : List Int) (b : Option Addr) (cap' : Nat) (w : World) (h : IsInts w a len cap zs) (h' : IsInts w b len cap' zs) :
    Calls Try.prog 16 #[.slice a len cap, .slice b len cap'] w fun e w' => e = .returned (.bool true) ∧ Dr w w' :=
  (sameInts_any a len cap zs b len cap' zs w h h').mono fun e w' ⟨he, hd⟩ => ⟨by rw [he, eqB_self], hd⟩

end Go.Proofs.Ytmbhcgdapglbgaa
