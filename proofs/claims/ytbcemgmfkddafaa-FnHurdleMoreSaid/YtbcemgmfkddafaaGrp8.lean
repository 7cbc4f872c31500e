/-
  The promises on remainders and shares, over lists; the statements' own sumOf at any numbers.
  Measures of seats: gaps, squares, hurdles, the number of parties that count; remainders have the least gap and the least squares. Of no memory.
  The promises on measures, over lists.
  slices.Max at ints: the greatest of some numbers; it is above 0 if and only if their sum is, where none is below 0.
-/
import Derived.Test.YtbcemgmfkddafaaGrp7
import Derived.Test.YtbcemgmfkddafaaGrp2
import Derived.Test.YtbcemgmfkddafaaGrp3
namespace Go.Proofs.Ytbcemgmfkddafaa
open Go.RowKit

section
variable {vs lots : List Int} {s : Int}
theorem tot_ov (hv : voteB vs = true) (hs : 0 ≤ s ∧ s ≤ 20) (hl : lotsB lots = true) (hn : lots.length = vs.length) : totI (lots.map fun z => overI (seV vs z) s (totI vs)) = (lfN vs s : Int) * totI vs := by
  have h := tot_lots hl hn (ovF vs s)
  have e : totI (ovL vs s) = totI ((List.range vs.length).map fun (i : Nat) => ovF vs s (i : Int)) := rfl
  rw [← e, (lf_is hv hs).2.1] at h
  exact h
theorem tot_lo (hv : voteB vs = true) (hs : 0 ≤ s ∧ s ≤ 20) (hl : lotsB lots = true) (hn : lots.length = vs.length) : totI (lots.map fun z => lowI (seV vs z) s (totI vs)) + (lfN vs s : Int) = s := by
  have h := tot_lots hl hn (loF vs s)
  have e : totI (loL vs s) = totI ((List.range vs.length).map fun (i : Nat) => loF vs s (i : Int)) := rfl
  rw [← e] at h
  have e2 : totI (lots.map fun z => lowI (seV vs z) s (totI vs)) = totI (lots.map (loF vs s)) := rfl
  rw [e2, h]
  exact (lf_is hv hs).1
theorem rem_all (hv : voteB vs = true) (hs : 0 ≤ s ∧ s ≤ 20) (hl : lotsB lots = true) (hn : lots.length = vs.length) :
    totI (lots.map (remF (seV vs) lots s (totI vs) (lfN vs s))) = s ∧ (∀ z, lowI (seV vs z) s (totI vs) ≤ remF (seV vs) lots s (totI vs) (lfN vs s) z ∧ remF (seV vs) lots s (totI vs) (lfN vs s) z ≤ highI (seV vs z) s (totI vs)) ∧
    (∀ i ∈ lots, ∀ k ∈ lots, lowI (seV vs i) s (totI vs) < remF (seV vs) lots s (totI vs) (lfN vs s) i → remF (seV vs) lots s (totI vs) (lfN vs s) k = lowI (seV vs k) s (totI vs) → IsTopR (fun z => overI (seV vs z) s (totI vs)) lots i k) := rem_law (V := seV vs) (vB_nodup hl) (lots_ne hl) ((voteB_iff vs).1 hv).2 (tot_ov hv hs hl hn) (tot_lo hv hs hl hn)
/-- **All seats are given, and fairly** (promise 90). -/
theorem p90_tot (hv : voteB vs = true) (hs : 0 ≤ s ∧ s ≤ 20) (hl : lotsB lots = true) (hn : lots.length = vs.length) : totI (upL vs s lots (lfN vs s)) = s := by
  rw [up_tot hv hs hl hn (Nat.le_refl _)]; exact (lf_is hv hs).1
theorem p90_each (hv : voteB vs = true) (hs : 0 ≤ s ∧ s ≤ 20) (hl : lotsB lots = true) (hn : lots.length = vs.length) {i : Nat} (hi : i < vs.length) : loF vs s (i : Int) ≤ (upL vs s lots (lfN vs s))[i]?.getD 0 ∧ (upL vs s lots (lfN vs s))[i]?.getD 0 ≤ hiF vs s (i : Int) := by
  rw [upL_at s lots _ hi]
  exact (rem_all hv hs hl hn).2.1 (i : Int)
theorem p90_fair (hv : voteB vs = true) (hs : 0 ≤ s ∧ s ≤ 20) (hl : lotsB lots = true) (hn : lots.length = vs.length) : fairB vs (upL vs s lots (lfN vs s)) = true := by
  have ht := p90_tot hv hs hl hn
  have hlen := upL_length vs s lots (lfN vs s)
  have h0 : ∀ i, i < (upL vs s lots (lfN vs s)).length → 0 ≤ (upL vs s lots (lfN vs s))[i]?.getD 0 := fun i hi => (up_in hv hs hl hn (Nat.le_refl _) (by rw [← hlen]; exact hi)).1
  have hle := (le_totI h0).2
  unfold fairB
  rw [hv, Bool.true_and, Bool.and_eq_true]
  refine ⟨(giveB_iff _ _).2 ⟨toB_of (fun i hi => ⟨h0 i hi, by have := hle i hi; omega⟩), hlen, by omega⟩, ?_⟩
  rw [ht, faTo_iff]
  exact fun i hi => p90_each hv hs hl hn hi
/-- **Greater remainders come first** (promise 91). -/
theorem p91_first (hv : voteB vs = true) (hs : 0 ≤ s ∧ s ≤ 20) (hl : lotsB lots = true) (hn : lots.length = vs.length) {i k : Nat} (hi : i < vs.length) (hk : k < vs.length) (h1 : loF vs s (i : Int) < (upL vs s lots (lfN vs s))[i]?.getD 0) (h2 : (upL vs s lots (lfN vs s))[k]?.getD 0 = loF vs s (k : Int)) :
    ovF vs s (k : Int) < ovF vs s (i : Int) ∨ (ovF vs s (i : Int) = ovF vs s (k : Int) ∧ befL lots (k : Int) (i : Int) = false) := by
  have him := lots_mem hl (show i < lots.length by omega)
  have hkm := lots_mem hl (show k < lots.length by omega)
  rw [upL_at s lots _ hi] at h1
  rw [upL_at s lots _ hk] at h2
  have h := (rem_all hv hs hl hn).2.2 _ him _ hkm h1 h2
  rcases h with h | ⟨h, hx⟩
  · exact .inl h
  · right
    refine ⟨h.symm, ?_⟩
    cases hb : befL lots (k : Int) (i : Int)
    · rfl
    · have := (befL_iff hkm).1 hb
      omega
/-- **More votes do not have fewer seats** (promise 92). -/
theorem p92_votes (hv : voteB vs = true) (hs : 0 ≤ s ∧ s ≤ 20) (hl : lotsB lots = true) (hn : lots.length = vs.length) {i k : Nat} (hi : i < vs.length) (hk : k < vs.length) (h : vs[k]?.getD 0 < vs[i]?.getD 0) : (upL vs s lots (lfN vs s))[k]?.getD 0 ≤ (upL vs s lots (lfN vs s))[i]?.getD 0 := by
  rw [upL_at s lots _ hi, upL_at s lots _ hk]
  exact rem_votes (V := seV vs) (vB_nodup hl) (lots_ne hl) ((voteB_iff vs).1 hv).2 hs.1 (tot_ov hv hs hl hn) (tot_lo hv hs hl hn) (lots_mem hl (by omega)) (lots_mem hl (by omega)) (by rw [seV_nat, seV_nat]; exact h)
/-- **Whole shares need no remainders** (promise 93). -/
theorem p93_whole (hv : voteB vs = true) (hs : 0 ≤ s ∧ s ≤ 20) (hl : lotsB lots = true) (hn : lots.length = vs.length) (hz : ∀ k, k < vs.length → vs[k]?.getD 0 * s % totI vs = 0) {i : Nat} (hi : i < vs.length) : (upL vs s lots (lfN vs s))[i]?.getD 0 * totI vs = vs[i]?.getD 0 * s := by
  have h0 : lfN vs s = 0 := rem_whole (V := seV vs) ((voteB_iff vs).1 hv).2 (tot_ov hv hs hl hn) (fun z hz' => by
    have hm := lotsB_mem hl z hz'
    have := hz z.toNat (by omega)
    unfold overI seV
    exact this)
  rw [h0, upL_zero, loL_at s hi]
  have h1 := low_over (seV vs (i : Int)) s (totI vs)
  have h2 : overI (seV vs (i : Int)) s (totI vs) = 0 := by unfold overI; rw [seV_nat]; exact hz i hi
  rw [h2, seV_nat] at h1
  have e : loF vs s (i : Int) = lowI (vs[i]?.getD 0) s (totI vs) := by unfold loF; rw [seV_nat]
  rw [e, Int.mul_comm]; omega
/-- **A share is between two whole numbers** (promise 94). -/
theorem p94_quota (hv : voteB vs = true) (i : Nat) : loF vs s (i : Int) * totI vs ≤ vs[i]?.getD 0 * s ∧ vs[i]?.getD 0 * s ≤ hiF vs s (i : Int) * totI vs ∧ hiF vs s (i : Int) - loF vs s (i : Int) ≤ 1 ∧ (hiF vs s (i : Int) = loF vs s (i : Int) ↔ vs[i]?.getD 0 * s % totI vs = 0) := by
  have h := quota_law (v := seV vs (i : Int)) (S := s) ((voteB_iff vs).1 hv).2
  rw [seV_nat] at h
  unfold loF hiF
  rw [seV_nat]
  exact h
/-- **Shares are together all seats** (promise 95). -/
def hiL (vs : List Int) (s : Int) : List Int := (List.range vs.length).map fun (i : Nat) => hiF vs s (i : Int)
theorem hiL_length (vs : List Int) (s : Int) : (hiL vs s).length = vs.length := by simp [hiL]
theorem hiL_at {vs : List Int} {i : Nat} (s : Int) (h : i < vs.length) : (hiL vs s)[i]?.getD 0 = hiF vs s (i : Int) := by simp [hiL, h]
theorem p95_sum (hv : voteB vs = true) : totI (loL vs s) ≤ s ∧ s ≤ totI (hiL vs s) := by
  have h := quota_sum (V := seV vs) (l := upN vs.length) (S := s) (tot_self vs) ((voteB_iff vs).1 hv).2
  rw [upN_map, upN_map] at h
  exact h
end

/-- The sum of numbers as the machine has it. -/
def wS (zs : List Int) : Int := zs.foldl (fun t z => IntKind.i64.wrap (t + z)) 0
theorem wS_snoc (zs : List Int) (z : Int) : wS (zs ++ [z]) = IntKind.i64.wrap (wS zs + z) := by simp [wS]
theorem wS_take {zs : List Int} {n : Nat} (hl : zs.length = n) (hn : n ≤ 20) (h : ∀ i, i < n → 0 ≤ zs[i]?.getD 0 ∧ zs[i]?.getD 0 ≤ 100000) : ∀ k, k ≤ n → wS (zs.take k) = totI (zs.take k)
  | 0, _ => by simp [wS, totI_nil]
  | k + 1, hk => by
    have ih := wS_take hl hn h k (by omega)
    have hb := tot_bound (m := 100000) (by omega) h (k + 1) hk
    have hkl : k < zs.length := by omega
    have e : zs.take (k + 1) = zs.take k ++ [zs[k]?.getD 0] := by rw [List.take_succ_eq_append_getElem hkl]; simp [hkl]
    rw [tot_take hkl] at hb ⊢
    rw [e, wS_snoc, ih]
    exact IntWalk.i64_in _ (by omega)
theorem wS_tot {zs : List Int} {n : Nat} (hl : zs.length = n) (hn : n ≤ 20) (h : ∀ i, i < n → 0 ≤ zs[i]?.getD 0 ∧ zs[i]?.getD 0 ≤ 100000) : wS zs = totI zs := by
  have := wS_take hl hn h n (Nat.le_refl _)
  rw [List.take_of_length_le (by omega)] at this
  exact this
set_option maxHeartbeats 2000000 in
/-- **sumOf**, at any numbers. -/
theorem lawSumW_as (a : Option Addr) (len cap : Nat) (zs : List Int) (s : Int) (w : World) (h : IsInts w a len cap zs) (hs : wS zs = s) :
    Calls Try.prog 18 #[.slice a len cap] w fun e w' => e = .returned (.int .i64 s) ∧ w = w' := by
  obtain ⟨h1, h2, h3, h4⟩ := h
  have H1 := Lib.hid h1
  have H4 := Lib.hid h4
  have HS := Lib.hid hs
  clear h1 h4 hs
  go_enter Try.func18, Try.ntmps18
  go_wp2
  go_loop [3, 4] (fun nv iv => ∃ (i : Nat) (t : Int), i ≤ len ∧ iv = .int .i64 (i : Int) ∧ nv = .int .i64 t ∧ Hid (wS (zs.take i) = t)) (fun _ iv => len - (intOf iv).toNat)
  case atStart => exact ⟨0, 0, Nat.zero_le _, rfl, rfl, by unfold Hid; simp [wS]⟩
  case round =>
    obtain ⟨i, t, hil, rfl, rfl, hT⟩ := hrel
    by_cases hlt : i < len
    · obtain ⟨b, off, rfl, hb, hc⟩ := H4.out (by omega)
      have ci := hc i hlt
      have hil' : i < zs.length := by rw [H1.out]; exact hlt
      obtain ⟨z, hz⟩ : ∃ z, zs[i]?.getD 0 = z := ⟨_, rfl⟩
      rw [hz] at ci
      obtain ⟨u, hu⟩ : ∃ u, IntKind.i64.wrap (t + z) = u := ⟨_, rfl⟩
      have HT2 : Hid (wS (zs.take (i + 1)) = u) := by
        rw [Hid, List.take_succ_eq_append_getElem hil', wS_snoc, hT.out, ← hu, ← hz]; simp [hil']
      clear hc hz
      go_wp2
      go_round
      case rel => exact ⟨i + 1, u, by omega, by go_num, rfl, HT2⟩
      case measure => simp [intOf]; omega
    · obtain rfl : i = len := by omega
      have HE : Hid (t = s) := by rw [Hid, ← HS.out, ← hT.out, List.take_of_length_le (by rw [H1.out]; exact Nat.le_refl _)]
      go_wp2
      go_ret
      exact ⟨ret_int HE.out, rfl⟩

/-- What FnFair finds behind k rounds. -/
def fineTo (vs gs : List Int) (k : Nat) : Bool := (decide (gs.length = vs.length) && decide (0 < vs.length)) && (List.range k).all fun (i : Nat) => decide (0 ≤ loR vs (wS gs) (i : Int)) && (decide (loR vs (wS gs) (i : Int) ≤ gs[i]?.getD 0) && decide (gs[i]?.getD 0 ≤ hiR vs (wS gs) (i : Int)))
theorem fineTo_succ (vs gs : List Int) (k : Nat) : fineTo vs gs (k + 1) = (fineTo vs gs k && (decide (0 ≤ loR vs (wS gs) (k : Int)) && (decide (loR vs (wS gs) (k : Int) ≤ gs[k]?.getD 0) && decide (gs[k]?.getD 0 ≤ hiR vs (wS gs) (k : Int))))) := by
  simp [fineTo, List.range_succ, Bool.and_assoc]
/-- **Fair seats are shares, rounded down or up** (promise 96). -/
theorem p96_fine (vs gs : List Int) (hv5 : vs.length ≤ 5) (k : Nat) (hk : k = if gs.length < vs.length then gs.length else vs.length) : fairB vs gs = fineTo vs gs k := by
  rw [Bool.eq_iff_iff]
  unfold fairB fineTo
  simp only [Bool.and_eq_true, decide_eq_true_iff, List.all_eq_true, List.mem_range]
  constructor
  · rintro ⟨h1, h2, h3⟩
    obtain ⟨g1, g2, g3⟩ := (giveB_iff gs vs.length).1 h2
    have hn := ((voteB_iff vs).1 h1).1
    rw [g2] at g1
    have hw : wS gs = totI gs := wS_tot g2 (by omega) (fun i hi => by have := toB_at g1 hi; omega)
    have hge := (le_totI (zs := gs) (fun i hi => (toB_at g1 (by omega)).1)).1
    refine ⟨⟨g2, by omega⟩, fun i hi => ?_⟩
    have hin : i < vs.length := by rw [hk] at hi; split at hi <;> omega
    have ho : okQ vs (totI gs) (i : Int) = true := (okQ_iff _ _ _).2 ⟨h1, ⟨hge, g3⟩, by omega, by omega⟩
    have hf := faTo_iff.1 h3 i hin
    have hlo := (share_in h1 ⟨hge, g3⟩ (z := (i : Int)) (by omega) (by omega)).2.2.2.2.1
    rw [hw, loR, hiR, if_pos ho, if_pos ho]
    exact ⟨hlo.1, hf.1, hf.2⟩
  · rintro ⟨⟨h1, h2⟩, h3⟩
    have hkn : k = vs.length := by rw [hk, if_neg (by omega)]
    rw [hkn] at h3
    have hok : ∀ i, i < vs.length → okQ vs (wS gs) (i : Int) = true := fun i hi => by
      have := (h3 i hi).1
      cases ho : okQ vs (wS gs) (i : Int)
      · rw [loR, if_neg (by rw [ho]; decide)] at this; omega
      · rfl
    obtain ⟨o1, o2, -, -⟩ := (okQ_iff _ _ _).1 (hok 0 h2)
    have hb : ∀ i, i < vs.length → (loF vs (wS gs) (i : Int) ≤ gs[i]?.getD 0 ∧ gs[i]?.getD 0 ≤ hiF vs (wS gs) (i : Int)) ∧ 0 ≤ gs[i]?.getD 0 ∧ gs[i]?.getD 0 ≤ 21 := fun i hi => by
      have h := h3 i hi
      rw [loR, hiR, if_pos (hok i hi), if_pos (hok i hi)] at h
      have hs := (share_in o1 o2 (z := (i : Int)) (by omega) (by omega)).2.2.2.2.1
      have he := hi_eq (vs := vs) (s := wS gs) o1 (i : Int)
      have : hiF vs (wS gs) (i : Int) ≤ 21 := by rw [he]; split <;> omega
      exact ⟨⟨h.2.1, h.2.2⟩, by omega, by omega⟩
    have hw : wS gs = totI gs := wS_tot h1 (by omega) (fun i hi => by have := (hb i hi).2; omega)
    rw [hw] at o2 hb
    have hle := (le_totI (zs := gs) (fun i hi => (hb i (by omega)).2.1)).2
    refine ⟨o1, (giveB_iff _ _).2 ⟨toB_of (fun i hi => ?_), h1, o2.2⟩, faTo_iff.2 (fun i hi => (hb i hi).1)⟩
    have h5 := hle i hi
    exact ⟨(hb i (by omega)).2.1, by omega⟩

theorem sameInts_it2 (a : Option Addr) (len cap : Nat) (zs : List Int) (b : Option Addr) (cap' : Nat) (w : World) (h : IsInts w a len cap zs) (h' : IsInts w b len cap' zs) :
    Calls Try.prog 27 #[.slice a len cap, .slice b len cap'] w fun e w' => e = .returned (.bool true) ∧ Dr w w' :=
  (sameInts_any a len cap zs b len cap' zs w h h').mono fun e w' ⟨he, hd⟩ => ⟨by rw [he, eqB_self], hd⟩

end Go.Proofs.Ytbcemgmfkddafaa

namespace Go.Proofs.Ytbcemgmfkddafaa

def absI (x : Int) : Int := if x < 0 then 0 - x else x
theorem absI_cases (x : Int) : (0 ≤ x ∧ absI x = x) ∨ (x < 0 ∧ absI x = 0 - x) := by unfold absI; split <;> omega
theorem absI_nonneg (x : Int) : 0 ≤ absI x := by have := absI_cases x; omega
theorem absI_max (x : Int) : max x (0 - x) = absI x := by have := absI_cases x; omega

/-- The sum of all sizes, the sum of all squares. -/
def gapL (l : List Int) : Int := totI (l.map absI)
def sqL (l : List Int) : Int := totI (l.map fun x => x * x)
theorem gapL_nonneg (l : List Int) : 0 ≤ gapL l := tot_nonneg l absI (fun z _ => absI_nonneg z)
theorem sqL_nonneg (l : List Int) : 0 ≤ sqL l := tot_nonneg l _ (fun z _ => by
  rcases Int.le_total 0 z with h | h
  · exact Int.mul_nonneg h h
  · exact Int.mul_nonneg_of_nonpos_of_nonpos h h)
theorem sq_nonneg (x : Int) : 0 ≤ x * x := by
  rcases Int.le_total 0 x with h | h
  · exact Int.mul_nonneg h h
  · exact Int.mul_nonneg_of_nonpos_of_nonpos h h
theorem sq_abs (x : Int) : absI x * absI x = x * x := by
  rcases absI_cases x with ⟨_, h⟩ | ⟨_, h⟩
  · rw [h]
  · rw [h, Int.zero_sub, Int.neg_mul_neg]
/-- **Gaps are equal in both directions** (promise 97). -/
theorem gap_even : ∀ l : List Int, (gapL l - totI l) % 2 = 0
  | [] => rfl
  | x :: t => by
    have ih := gap_even t
    have hx := absI_cases x
    unfold gapL at *
    rw [List.map_cons, totI_cons, totI_cons]; omega
theorem gap_zero : ∀ l : List Int, gapL l = 0 ↔ ∀ x ∈ l, x = 0
  | [] => by simp [gapL, totI_nil]
  | x :: t => by
    have ih := gap_zero t
    have hx := absI_cases x
    have hn := gapL_nonneg t
    unfold gapL at *
    rw [List.map_cons, totI_cons, List.forall_mem_cons]
    constructor
    · intro h
      exact ⟨by omega, ih.1 (by omega)⟩
    · rintro ⟨h1, h2⟩
      have := ih.2 h2
      omega
/-- **Squares are those of gaps** (promise 98). -/
theorem sq_le_gap : ∀ l : List Int, sqL l ≤ gapL l * gapL l
  | [] => by simp [sqL, gapL, totI_nil]
  | x :: t => by
    have ih := sq_le_gap t
    have hn := gapL_nonneg t
    have hx := absI_nonneg x
    have hm := Int.mul_nonneg hx hn
    have hs := sq_abs x
    unfold sqL gapL at *
    rw [List.map_cons, List.map_cons, totI_cons, totI_cons]
    obtain ⟨a, ha⟩ : ∃ a, absI x = a := ⟨_, rfl⟩
    obtain ⟨g, hg⟩ : ∃ g, totI (t.map absI) = g := ⟨_, rfl⟩
    rw [ha] at hs hm ⊢
    rw [hg] at ih hm ⊢
    rw [Int.add_mul, Int.mul_add, Int.mul_add, Int.mul_comm g a, hs]; omega
theorem cauchy_step {n q s a : Int} (hn : 0 ≤ n) (hq : 0 ≤ q) (h : s * s ≤ n * q) : (a + s) * (a + s) ≤ (n + 1) * (a * a + q) := by
  have key : 2 * (a * s) ≤ n * (a * a) + q := by
    rcases Int.lt_or_le 0 n with hp | hp
    · have h1 := sq_nonneg (n * a - s)
      have h2 : 0 ≤ n * (n * (a * a) + q - 2 * (a * s)) := by
        have e : (n * a - s) * (n * a - s) = n * (n * (a * a) + q - 2 * (a * s)) - n * q + s * s := by grind
        omega
      have h3 : 0 ≤ n * (a * a) + q - 2 * (a * s) := by
        rcases Int.lt_or_le (n * (a * a) + q - 2 * (a * s)) 0 with hlt | hle
        · exfalso
          have := Int.mul_neg_of_pos_of_neg hp hlt
          omega
        · exact hle
      omega
    · have e0 : n = 0 := by omega
      subst e0
      rw [Int.zero_mul] at h ⊢
      have hs := sq_nonneg s
      have hs0 : s = 0 := by
        have : s * s = 0 := by omega
        rcases Int.mul_eq_zero.1 this with g | g <;> exact g
      rw [hs0, Int.mul_zero]; omega
  have e : (a + s) * (a + s) = a * a + 2 * (a * s) + s * s := by grind
  have e2 : (n + 1) * (a * a + q) = n * (a * a) + n * q + a * a + q := by grind
  omega
theorem gap_le_sq : ∀ l : List Int, gapL l * gapL l ≤ (l.length : Int) * sqL l
  | [] => by simp [sqL, gapL, totI_nil]
  | x :: t => by
    have ih := gap_le_sq t
    have h := cauchy_step (n := (t.length : Int)) (q := sqL t) (s := gapL t) (a := absI x) (by omega) (sqL_nonneg t) ih
    rw [sq_abs] at h
    have e1 : gapL (x :: t) = absI x + gapL t := by unfold gapL; rw [List.map_cons, totI_cons]
    have e2 : sqL (x :: t) = x * x + sqL t := by unfold sqL; rw [List.map_cons, totI_cons]
    rw [e1, e2, List.length_cons]
    have e3 : ((t.length + 1 : Nat) : Int) = (t.length : Int) + 1 := by omega
    rw [e3]; exact h

/-- Votes times all seats less seats times all votes. -/
def difF (V G : Int → Int) (S T : Int) : Int → Int := fun z => V z * S - G z * T
/-- A number between the remainders that got a seat and those that did not. -/
theorem between {U R : Int → Int} {T : Int} : ∀ (l : List Int), (∀ z, 0 ≤ R z ∧ R z < T) → (∀ i ∈ l, ∀ k ∈ l, U i = 1 → U k = 0 → R k ≤ R i) → (0 < T) →
    ∃ θ, 0 ≤ θ ∧ θ ≤ T ∧ (∀ i ∈ l, U i = 1 → θ ≤ R i) ∧ (∀ k ∈ l, U k = 0 → R k ≤ θ)
  | [], _, _, hT => ⟨0, by omega, by omega, fun i hi => by (cases hi), fun k hk => by (cases hk)⟩
  | x :: t, hR, h, hT => by
    obtain ⟨θ, h0, h1, h2, h3⟩ := between t hR (fun i hi k hk => h i (by simp [hi]) k (by simp [hk])) hT
    by_cases hu : U x = 0
    · refine ⟨max θ (R x), by omega, by have := hR x; omega, fun i hi hui => ?_, fun k hk huk => ?_⟩
      · have hxi : i ∈ t := by
          rcases List.mem_cons.1 hi with e | e
          · subst e; omega
          · exact e
        have a := h2 i hxi hui
        have b := h i hi x (by simp) hui hu
        omega
      · rcases List.mem_cons.1 hk with e | e
        · subst e; omega
        · have := h3 k e huk; omega
    · by_cases hu1 : U x = 1
      · refine ⟨min θ (R x), by have := hR x; omega, by omega, fun i hi hui => ?_, fun k hk huk => ?_⟩
        · rcases List.mem_cons.1 hi with e | e
          · subst e; omega
          · have := h2 i e hui; omega
        · have hxk : k ∈ t := by
            rcases List.mem_cons.1 hk with e | e
            · subst e; omega
            · exact e
          have a := h3 k hxk huk
          have b := h x (by simp) k hk hu1 huk
          omega
      · refine ⟨θ, h0, h1, fun i hi hui => ?_, fun k hk huk => ?_⟩
        · rcases List.mem_cons.1 hi with e | e
          · subst e; omega
          · exact h2 i e hui
        · rcases List.mem_cons.1 hk with e | e
          · subst e; omega
          · exact h3 k e huk
theorem mul_one_more {e T : Int} (h : 1 ≤ e) (hT : 0 ≤ T) : T ≤ e * T := by
  have := Int.mul_le_mul_of_nonneg_right h hT
  omega
theorem mul_neg_more {e T : Int} (h : e ≤ 0) (hT : 0 ≤ T) : e * T ≤ 0 := Int.mul_nonpos_of_nonpos_of_nonneg h hT
/-- For one party: another number of seats has a gap that is less by no more than the price of the seats. -/
theorem gap_one {r u e T θ : Int} (hr : 0 ≤ r ∧ r < T) (h0 : 0 ≤ θ) (hθ : θ ≤ T) (hu : (u = 0 ∧ r ≤ θ) ∨ (u = 1 ∧ θ ≤ r)) : max (r - u * T) 0 + θ * (u - e) ≤ max (r - e * T) 0 := by
  have hd : e ≤ -1 ∨ e = 0 ∨ 1 ≤ e := by omega
  rcases hd with h | h | h
  · have h1 : 0 ≤ (0 - e) * (T - θ) := Int.mul_nonneg (by omega) (by omega)
    have e1 : (0 - e) * (T - θ) = θ * e - e * T := by grind
    rcases hu with ⟨rfl, hu⟩ | ⟨rfl, hu⟩
    · have e2 : θ * (0 - e) = 0 - θ * e := by grind
      rw [e2]; omega
    · have e2 : θ * (1 - e) = θ - θ * e := by grind
      rw [e2]; omega
  · subst h
    rcases hu with ⟨rfl, hu⟩ | ⟨rfl, hu⟩ <;> omega
  · have h2 : 0 ≤ (e - 1) * θ := Int.mul_nonneg (by omega) h0
    have e2 : (e - 1) * θ = θ * e - θ := by grind
    have h3 := mul_one_more (T := T) h (by omega)
    rcases hu with ⟨rfl, hu⟩ | ⟨rfl, hu⟩
    · have e3 : θ * (0 - e) = 0 - θ * e := by grind
      rw [e3]; omega
    · have e3 : θ * (1 - e) = θ - θ * e := by grind
      rw [e3]; omega
theorem sq_one {r u e T θ : Int} (hr : 0 ≤ r ∧ r < T) (h0 : 0 ≤ θ) (hθ : θ ≤ T) (hu : (u = 0 ∧ r ≤ θ) ∨ (u = 1 ∧ θ ≤ r)) : (r - u * T) * (r - u * T) + (T * T - 2 * (θ * T)) * (e - u) ≤ (r - e * T) * (r - e * T) := by
  have hT : 0 ≤ T := by omega
  rcases hu with ⟨rfl, hu⟩ | ⟨rfl, hu⟩
  · have key : 0 ≤ e * ((e - 1) * T - 2 * (r - θ)) := by
      have hd : e ≤ -1 ∨ e = 0 ∨ 1 ≤ e := by omega
      rcases hd with h | h | h
      · refine Int.mul_nonneg_of_nonpos_of_nonpos (by omega) ?_
        have : (2 : Int) * T ≤ (1 - e) * T := Int.mul_le_mul_of_nonneg_right (by omega) hT
        have e1 : (e - 1) * T = 0 - (1 - e) * T := by grind
        rw [e1]; omega
      · subst h; omega
      · refine Int.mul_nonneg (by omega) ?_
        have : 0 ≤ (e - 1) * T := Int.mul_nonneg (by omega) hT
        omega
    have h2 := Int.mul_nonneg hT key
    have e1 : (r - e * T) * (r - e * T) - ((r - 0 * T) * (r - 0 * T) + (T * T - 2 * (θ * T)) * (e - 0)) = T * (e * ((e - 1) * T - 2 * (r - θ))) := by grind
    omega
  · obtain ⟨f, hf⟩ : ∃ f, e = 1 + f := ⟨e - 1, by omega⟩
    subst hf
    have key : 0 ≤ f * ((f + 1) * T - 2 * (r - θ)) := by
      have hd : f ≤ -1 ∨ f = 0 ∨ 1 ≤ f := by omega
      rcases hd with h | h | h
      · refine Int.mul_nonneg_of_nonpos_of_nonpos (by omega) ?_
        have := mul_neg_more (e := f + 1) (T := T) (by omega) hT
        omega
      · subst h; omega
      · refine Int.mul_nonneg (by omega) ?_
        have : (2 : Int) * T ≤ (f + 1) * T := Int.mul_le_mul_of_nonneg_right (by omega) hT
        omega
    have h2 := Int.mul_nonneg hT key
    have e1 : (r - (1 + f) * T) * (r - (1 + f) * T) - ((r - 1 * T) * (r - 1 * T) + (T * T - 2 * (θ * T)) * (1 + f - 1)) = T * (f * ((f + 1) * T - 2 * (r - θ))) := by grind
    omega

theorem tot_le_price : ∀ (l : List Int) (A B C : Int → Int) (p : Int), (∀ z ∈ l, A z + p * C z ≤ B z) → totI (l.map A) + p * totI (l.map C) ≤ totI (l.map B)
  | [], _, _, _, p, _ => by simp [totI_nil]
  | k :: t, A, B, C, p, h => by
    have h1 := h k (by simp)
    have h2 := tot_le_price t A B C p (fun z hz => h z (by simp [hz]))
    rw [List.map_cons, List.map_cons, List.map_cons, totI_cons, totI_cons, totI_cons, Int.mul_add]; omega
theorem tot_dif : ∀ (l : List Int) (V G : Int → Int) (S T : Int), totI (l.map (difF V G S T)) = totI (l.map V) * S - totI (l.map G) * T
  | [], _, _, S, T => by simp [totI_nil]
  | k :: t, V, G, S, T => by
    rw [List.map_cons, List.map_cons, List.map_cons, totI_cons, totI_cons, totI_cons, tot_dif t V G S T, Int.add_mul, Int.add_mul]
    unfold difF; omega
theorem gap_half (x : Int) : absI x = 2 * max x 0 - x := by have := absI_cases x; omega
theorem tot_half : ∀ (l : List Int) (D : Int → Int), gapL (l.map D) = 2 * totI (l.map fun z => max (D z) 0) - totI (l.map D)
  | [], _ => by simp [gapL, totI_nil]
  | k :: t, D => by
    have ih := tot_half t D
    have h := gap_half (D k)
    unfold gapL at *
    simp only [List.map_cons, totI_cons]
    omega

/-- What is compared: seats of the same sum; those by remainders. -/
theorem dif_low {V G : Int → Int} {S T : Int} (z : Int) : difF V G S T z = overI (V z) S T - (G z - lowI (V z) S T) * T := by
  have h := low_over (V z) S T
  unfold difF
  rw [Int.sub_mul, Int.mul_comm (lowI (V z) S T)]; omega
theorem rem_price {V G : Int → Int} {lots : List Int} {S T : Int} (hn : lots.Nodup) (h0 : lots ≠ []) (hTp : 0 < T) {L : Nat} (hL : totI (lots.map fun z => overI (V z) S T) = (L : Int) * T) (hS : totI (lots.map fun z => lowI (V z) S T) + (L : Int) = S) (hG : totI (lots.map G) = S) :
    ∃ θ, (0 ≤ θ ∧ θ ≤ T) ∧ (∀ z ∈ lots, (Up (fun z => overI (V z) S T) lots L z = 0 ∧ overI (V z) S T ≤ θ) ∨ (Up (fun z => overI (V z) S T) lots L z = 1 ∧ θ ≤ overI (V z) S T)) ∧
      totI (lots.map fun z => Up (fun z => overI (V z) S T) lots L z - (G z - lowI (V z) S T)) = 0 := by
  have hI := remInv (R := fun z => overI (V z) S T) (T := T) hn h0 (fun z => (over_range hTp).1) (fun z => (over_range hTp).2) hL L (Nat.le_refl _)
  obtain ⟨θ, t0, t1, t2, t3⟩ := between (U := Up (fun z => overI (V z) S T) lots L) (R := fun z => overI (V z) S T) (T := T) lots (fun z => over_range hTp) (fun i hi k hk h1 h2 => by
    have := hI.first i hi k hk h1 h2
    unfold IsTopR at this
    simp only at this
    omega) hTp
  refine ⟨θ, ⟨t0, t1⟩, fun z hz => ?_, ?_⟩
  · rcases hI.bit z with h | h
    · exact .inl ⟨h, t3 z hz h⟩
    · exact .inr ⟨h, t2 z hz h⟩
  · have e : totI (lots.map fun z => Up (fun z => overI (V z) S T) lots L z - (G z - lowI (V z) S T)) = totI (lots.map (Up (fun z => overI (V z) S T) lots L)) - (totI (lots.map G) - totI (lots.map fun z => lowI (V z) S T)) := by
      have hgen : ∀ (l : List Int) (A B C : Int → Int), totI (l.map fun z => A z - (B z - C z)) = totI (l.map A) - (totI (l.map B) - totI (l.map C)) := fun l A B C => by
        induction l with
        | nil => rfl
        | cons k t ih => rw [List.map_cons, List.map_cons, List.map_cons, List.map_cons, totI_cons, totI_cons, totI_cons, totI_cons, ih]; omega
      exact hgen lots _ G _
    rw [e, hI.tot, hG]; omega
/-- **Remainders have the least gap** (promise 99). -/
theorem rem_gap {V G : Int → Int} {lots : List Int} {S T : Int} (hn : lots.Nodup) (h0 : lots ≠ []) (hT : totI (lots.map V) = T) (hTp : 0 < T) {L : Nat} (hL : totI (lots.map fun z => overI (V z) S T) = (L : Int) * T) (hS : totI (lots.map fun z => lowI (V z) S T) + (L : Int) = S) (hG : totI (lots.map G) = S) :
    gapL (lots.map (difF V (remF V lots S T L) S T)) ≤ gapL (lots.map (difF V G S T)) := by
  obtain ⟨θ, ht, hcase, hsum⟩ := rem_price (V := V) hn h0 hTp hL hS hG
  have hr := (rem_law (V := V) hn h0 hTp hL hS).1
  have s1 := tot_dif lots V (remF V lots S T L) S T
  have s2 := tot_dif lots V G S T
  rw [hr, hT] at s1
  rw [hG, hT] at s2
  rw [tot_half, tot_half, s1, s2]
  have hp := tot_le_price lots (fun z => max (difF V (remF V lots S T L) S T z) 0) (fun z => max (difF V G S T z) 0) (fun z => Up (fun z => overI (V z) S T) lots L z - (G z - lowI (V z) S T)) θ (fun z hz => by
    have h := gap_one (r := overI (V z) S T) (u := Up (fun z => overI (V z) S T) lots L z) (e := G z - lowI (V z) S T) (over_range hTp) ht.1 ht.2 (hcase z hz)
    have e1 : difF V (remF V lots S T L) S T z = overI (V z) S T - Up (fun z => overI (V z) S T) lots L z * T := by
      rw [dif_low]; unfold remF
      rw [show lowI (V z) S T + Up (fun z => overI (V z) S T) lots L z - lowI (V z) S T = Up (fun z => overI (V z) S T) lots L z by omega]
    show max (difF V (remF V lots S T L) S T z) 0 + _ ≤ max (difF V G S T z) 0
    rw [e1, dif_low (G := G)]; exact h)
  rw [hsum, Int.mul_zero] at hp
  omega
/-- **Remainders have the least squares** (promise 100). -/
theorem rem_sq {V G : Int → Int} {lots : List Int} {S T : Int} (hn : lots.Nodup) (h0 : lots ≠ []) (hTp : 0 < T) {L : Nat} (hL : totI (lots.map fun z => overI (V z) S T) = (L : Int) * T) (hS : totI (lots.map fun z => lowI (V z) S T) + (L : Int) = S) (hG : totI (lots.map G) = S) :
    sqL (lots.map (difF V (remF V lots S T L) S T)) ≤ sqL (lots.map (difF V G S T)) := by
  obtain ⟨θ, ht, hcase, hsum⟩ := rem_price (V := V) hn h0 hTp hL hS hG
  have hp := tot_le_price lots (fun z => difF V (remF V lots S T L) S T z * difF V (remF V lots S T L) S T z) (fun z => difF V G S T z * difF V G S T z) (fun z => Up (fun z => overI (V z) S T) lots L z - (G z - lowI (V z) S T)) (2 * (θ * T) - T * T) (fun z hz => by
    have h := sq_one (r := overI (V z) S T) (u := Up (fun z => overI (V z) S T) lots L z) (e := G z - lowI (V z) S T) (over_range hTp) ht.1 ht.2 (hcase z hz)
    have e1 : difF V (remF V lots S T L) S T z = overI (V z) S T - Up (fun z => overI (V z) S T) lots L z * T := by
      rw [dif_low]; unfold remF
      rw [show lowI (V z) S T + Up (fun z => overI (V z) S T) lots L z - lowI (V z) S T = Up (fun z => overI (V z) S T) lots L z by omega]
    show difF V (remF V lots S T L) S T z * difF V (remF V lots S T L) S T z + (2 * (θ * T) - T * T) * (Up (fun z => overI (V z) S T) lots L z - (G z - lowI (V z) S T)) ≤ difF V G S T z * difF V G S T z
    rw [e1, dif_low (G := G)]
    have e2 : (2 * (θ * T) - T * T) * (Up (fun z => overI (V z) S T) lots L z - (G z - lowI (V z) S T)) = (T * T - 2 * (θ * T)) * (G z - lowI (V z) S T - Up (fun z => overI (V z) S T) lots L z) := by grind
    rw [e2]; exact h)
  rw [hsum, Int.mul_zero] at hp
  unfold sqL
  rw [List.map_map, List.map_map]
  have e3 : ∀ D : Int → Int, ((fun x : Int => x * x) ∘ D) = fun z => D z * D z := fun D => rfl
  rw [e3, e3]; omega

/-- Few votes are left out. -/
def hurdL (vs : List Int) (p T : Int) : List Int := vs.map fun n => if 100 * n < p * T then 0 else n
theorem hurd_length (vs : List Int) (p T : Int) : (hurdL vs p T).length = vs.length := by simp [hurdL]
theorem hurd_at {vs : List Int} {p T : Int} {i : Nat} (h : i < vs.length) : (hurdL vs p T)[i]?.getD 0 = if 100 * (vs[i]?.getD 0) < p * T then 0 else vs[i]?.getD 0 := by simp [hurdL, h]
/-- **A greater hurdle leaves fewer** (promise 102). -/
theorem hurd_more {vs : List Int} {p T : Int} (hT : 0 ≤ T) (h0 : ∀ z ∈ vs, 0 ≤ z) {i : Nat} (h : i < vs.length) : (hurdL vs p T)[i]?.getD 0 ≤ (hurdL vs (p - 1) T)[i]?.getD 0 := by
  rw [hurd_at h, hurd_at h]
  have hz := h0 (vs[i]?.getD 0) (by simp [h])
  have : (p - 1) * T ≤ p * T := Int.mul_le_mul_of_nonneg_right (by omega) hT
  split <;> split <;> omega
theorem hurd_zero {vs : List Int} {T : Int} (h0 : ∀ z ∈ vs, 0 ≤ z) : hurdL vs 0 T = vs := by
  unfold hurdL
  conv => rhs; rw [← List.map_id vs]
  apply List.map_congr_left
  intro z hz
  have := h0 z hz
  rw [Int.zero_mul, if_neg (by omega)]; rfl

/-- How many have votes. -/
def someN (vs : List Int) : Int := totI (vs.map fun v => if 0 < v then (1 : Int) else 0)
theorem someN_nonneg (vs : List Int) : 0 ≤ someN vs := tot_nonneg vs _ (fun z _ => by show (0 : Int) ≤ if 0 < z then 1 else 0; split <;> omega)
theorem sqL_cons (v : Int) (t : List Int) : sqL (v :: t) = v * v + sqL t := by unfold sqL; rw [List.map_cons, totI_cons]
theorem someN_cons (v : Int) (t : List Int) : someN (v :: t) = (if 0 < v then (1 : Int) else 0) + someN t := by unfold someN; rw [List.map_cons, totI_cons]
/-- **As many parties as count** (promise 103). -/
theorem parties_most : ∀ vs : List Int, (∀ z ∈ vs, 0 ≤ z) → totI vs * totI vs ≤ someN vs * sqL vs
  | [], _ => by simp [totI_nil, sqL]
  | v :: t, h => by
    have ih := parties_most t (fun z hz => h z (by simp [hz]))
    have hv := h v (by simp)
    rw [totI_cons, sqL_cons, someN_cons]
    by_cases hp : 0 < v
    · rw [if_pos hp, Int.add_comm 1]
      exact cauchy_step (someN_nonneg t) (sqL_nonneg t) ih
    · have e0 : v = 0 := by omega
      rw [if_neg hp, e0, Int.zero_add, Int.zero_add, Int.zero_mul, Int.zero_add]; exact ih
theorem parties_least : ∀ vs : List Int, (∀ z ∈ vs, 0 ≤ z) → 0 ≤ totI vs ∧ sqL vs ≤ totI vs * totI vs
  | [], _ => by simp [totI_nil, sqL]
  | v :: t, h => by
    obtain ⟨i1, i2⟩ := parties_least t (fun z hz => h z (by simp [hz]))
    have hv := h v (by simp)
    have hm := Int.mul_nonneg hv i1
    rw [totI_cons, sqL_cons, Int.add_mul, Int.mul_add, Int.mul_add, Int.mul_comm (totI t) v]
    exact ⟨by omega, by omega⟩
theorem parties_same : ∀ (vs : List Int) (m : Int), (∀ z ∈ vs, z = 0 ∨ z = m) → 0 < m → totI vs = someN vs * m ∧ sqL vs = someN vs * (m * m)
  | [], m, _, _ => by simp [totI_nil, sqL, someN]
  | v :: t, m, h, hm => by
    obtain ⟨i1, i2⟩ := parties_same t m (fun z hz => h z (by simp [hz])) hm
    rw [totI_cons, sqL_cons, someN_cons, i1, i2]
    rcases h v (by simp) with e | e
    · rw [e, if_neg (by omega), Int.zero_mul, Int.zero_add, Int.zero_add, Int.zero_add]; exact ⟨rfl, rfl⟩
    · rw [e, if_pos hm, Int.add_mul, Int.add_mul, Int.one_mul, Int.one_mul]; exact ⟨rfl, rfl⟩
/-- The fraction. -/
def partF (vs : List Int) : Fr := ofF (totI vs * totI vs) (sqL vs)
theorem part_law {vs : List Int} (h : ∀ z ∈ vs, 0 ≤ z) (hq : 0 < sqL vs) : (partF vs).2 ≤ (partF vs).1 ∧ (partF vs).1 ≤ someN vs * (partF vs).2 := by
  have hs : (partF vs).1 * sqL vs = totI vs * totI vs * (partF vs).2 := ofF_same
  have hd : 0 < (partF vs).2 := (ofF_red hq).1
  have h1 := (parties_least vs h).2
  have h2 := parties_most vs h
  have a1 : sqL vs * (partF vs).2 ≤ totI vs * totI vs * (partF vs).2 := Int.mul_le_mul_of_nonneg_right h1 (Int.le_of_lt hd)
  have a2 : totI vs * totI vs * (partF vs).2 ≤ someN vs * sqL vs * (partF vs).2 := Int.mul_le_mul_of_nonneg_right h2 (Int.le_of_lt hd)
  rw [← hs] at a1 a2
  constructor
  · rw [Int.mul_comm (sqL vs)] at a1
    exact Int.le_of_mul_le_mul_right a1 hq
  · rw [Int.mul_right_comm] at a2
    exact Int.le_of_mul_le_mul_right a2 hq
theorem part_same {vs : List Int} {m : Int} (h : ∀ z ∈ vs, z = 0 ∨ z = m) (hm : 0 < m) (hn : 0 < someN vs) : partF vs = (someN vs, 1) := by
  obtain ⟨h1, h2⟩ := parties_same vs m h hm
  have hq : 0 < sqL vs := by rw [h2]; exact Int.mul_pos hn (Int.mul_pos hm hm)
  have e : ofF (someN vs) 1 = (someN vs, 1) := ofF_self (f := (someN vs, 1)) ⟨by show (0 : Int) < 1; omega, by show Nat.gcd (someN vs).natAbs 1 = 1; exact Nat.gcd_one_right _⟩
  rw [← e]
  refine ofF_same_eq hq (by omega) ?_
  rw [h1, h2]; grind
/-- **Only shares count** (promise 104). -/
theorem part_scale {vs : List Int} (hq : 0 < sqL vs) : partF (vs.map fun z => 2 * z) = partF vs := by
  have h1 : ∀ l : List Int, totI (l.map fun z => 2 * z) = 2 * totI l ∧ sqL (l.map fun z => 2 * z) = 4 * sqL l := fun l => by
    induction l with
    | nil => simp [totI_nil, sqL]
    | cons v t ih =>
      rw [List.map_cons, totI_cons, totI_cons, sqL_cons, sqL_cons, ih.1, ih.2]
      exact ⟨by omega, by grind⟩
  unfold partF
  rw [(h1 vs).1, (h1 vs).2]
  refine ofF_same_eq (by omega) hq ?_
  grind
theorem part_zeroed (vs : List Int) : partF (vs ++ [0]) = partF vs := by
  have h1 : totI (vs ++ [0]) = totI vs := by rw [totI_snoc]; omega
  have h2 : sqL (vs ++ [0]) = sqL vs := by
    unfold sqL
    rw [List.map_append, totI_app, List.map_cons, List.map_nil, totI_cons, totI_nil]; omega
  unfold partF
  rw [h1, h2]

end Go.Proofs.Ytbcemgmfkddafaa

namespace Go.Proofs.Ytbcemgmfkddafaa
open Go.RowKit

/-- What a party lacks to its share. -/
def dfF (vs gs : List Int) (i : Nat) : Int := vs[i]?.getD 0 * totI gs - gs[i]?.getD 0 * totI vs
def dfL (vs gs : List Int) : List Int := (List.range vs.length).map (dfF vs gs)
theorem dfL_length (vs gs : List Int) : (dfL vs gs).length = vs.length := by simp [dfL]
theorem dfL_at {vs : List Int} {i : Nat} (gs : List Int) (h : i < vs.length) : (dfL vs gs)[i]?.getD 0 = dfF vs gs i := by simp [dfL, h]
def okG (vs gs : List Int) : Bool := voteB vs && giveB gs vs.length
theorem okG_iff (vs gs : List Int) : okG vs gs = true ↔ voteB vs = true ∧ giveB gs vs.length = true := by simp [okG]
def gapR (vs gs : List Int) : Int := if okG vs gs = true then gapL (dfL vs gs) else -1
def sqR (vs gs : List Int) : Int := if okG vs gs = true then sqL (dfL vs gs) else -1

theorem gapL_cons (v : Int) (t : List Int) : gapL (v :: t) = absI v + gapL t := by unfold gapL; rw [List.map_cons, totI_cons]
theorem gapL_snoc (l : List Int) (x : Int) : gapL (l ++ [x]) = gapL l + absI x := by unfold gapL; rw [List.map_append, totI_app]; simp [totI_cons, totI_nil]
theorem sqL_snoc (l : List Int) (x : Int) : sqL (l ++ [x]) = sqL l + x * x := by unfold sqL; rw [List.map_append, totI_app]; simp [totI_cons, totI_nil]
theorem gap_take {l : List Int} {k : Nat} (h : k < l.length) : gapL (l.take (k + 1)) = gapL (l.take k) + absI (l[k]?.getD 0) := by
  rw [take_next h, gapL_snoc]
theorem sq_take {l : List Int} {k : Nat} (h : k < l.length) : sqL (l.take (k + 1)) = sqL (l.take k) + l[k]?.getD 0 * l[k]?.getD 0 := by
  rw [take_next h, sqL_snoc]

section
variable {vs gs : List Int}
theorem okG_parts (h : okG vs gs = true) : toB vs 99 vs.length = true ∧ (1 ≤ vs.length ∧ vs.length ≤ 5) ∧ (0 < totI vs ∧ totI vs ≤ 495) ∧ toB gs 20 vs.length = true ∧ gs.length = vs.length ∧ 0 ≤ totI gs ∧ totI gs ≤ 20 := by
  obtain ⟨h1, h2⟩ := (okG_iff _ _).1 h
  obtain ⟨⟨a1, a2, a3⟩, a4⟩ := (voteB_iff vs).1 h1
  obtain ⟨g1, g2, g3⟩ := (giveB_iff gs vs.length).1 h2
  have hge := (le_totI (zs := gs) (fun i hi => (toB_at g1 hi).1)).1
  have hs := share_in h1 (s := 0) (by omega) (z := ((0 : Nat) : Int)) (by omega) (by omega)
  rw [g2] at g1
  exact ⟨a1, ⟨a2, a3⟩, ⟨a4, hs.2.1⟩, g1, g2, hge, g3⟩
/-- A product of votes and seats. -/
theorem two_mul {x y a b : Int} (hx : 0 ≤ x ∧ x ≤ a) (hy : 0 ≤ y ∧ y ≤ b) : 0 ≤ x * y ∧ x * y ≤ a * b :=
  ⟨Int.mul_nonneg hx.1 hy.1, Int.le_trans (Int.mul_le_mul_of_nonneg_right hx.2 hy.1) (Int.mul_le_mul_of_nonneg_left hy.2 (by omega))⟩
theorem dfF_in (h : okG vs gs = true) {i : Nat} (hi : i < vs.length) : (0 ≤ vs[i]?.getD 0 * totI gs ∧ vs[i]?.getD 0 * totI gs ≤ 1980) ∧ (0 ≤ gs[i]?.getD 0 * totI vs ∧ gs[i]?.getD 0 * totI vs ≤ 9900) ∧ -9900 ≤ dfF vs gs i ∧ dfF vs gs i ≤ 9900 := by
  obtain ⟨h1, -, h3, h4, -, h6⟩ := okG_parts h
  have a := two_mul (toB_at h1 hi) h6
  have b := two_mul (toB_at h4 hi) (show 0 ≤ totI vs ∧ totI vs ≤ 495 by omega)
  unfold dfF
  exact ⟨by omega, by omega, by omega, by omega⟩
theorem abs_in {x : Int} (h : -9900 ≤ x ∧ x ≤ 9900) : 0 ≤ absI x ∧ absI x ≤ 9900 := by have := absI_cases x; omega
theorem sq_in {x : Int} (h : -9900 ≤ x ∧ x ≤ 9900) : 0 ≤ x * x ∧ x * x ≤ 98010000 := by
  have a := abs_in h
  have b := two_mul a a
  rw [sq_abs] at b
  exact ⟨b.1, by omega⟩
theorem gap_in (h : okG vs gs = true) : ∀ k, k ≤ vs.length → 0 ≤ gapL ((dfL vs gs).take k) ∧ gapL ((dfL vs gs).take k) ≤ 9900 * (k : Int)
  | 0, _ => by simp [gapL, totI_nil]
  | k + 1, hk => by
    have ih := gap_in h k (by omega)
    have hl := dfL_length vs gs
    have hd := abs_in (dfF_in h (i := k) (by omega)).2.2
    rw [gap_take (by omega), dfL_at gs (by omega)]
    omega
theorem sqs_in (h : okG vs gs = true) : ∀ k, k ≤ vs.length → 0 ≤ sqL ((dfL vs gs).take k) ∧ sqL ((dfL vs gs).take k) ≤ 98010000 * (k : Int)
  | 0, _ => by simp [sqL, totI_nil]
  | k + 1, hk => by
    have ih := sqs_in h k (by omega)
    have hl := dfL_length vs gs
    have hd := sq_in (dfF_in h (i := k) (by omega)).2.2
    rw [sq_take (by omega), dfL_at gs (by omega)]
    omega
theorem gap_all (h : okG vs gs = true) : 0 ≤ gapL (dfL vs gs) ∧ gapL (dfL vs gs) ≤ 49500 := by
  have a := gap_in h vs.length (Nat.le_refl _)
  have b := (okG_parts h).2.1
  rw [List.take_of_length_le (by rw [dfL_length]; exact Nat.le_refl _)] at a
  omega
theorem sqs_all (h : okG vs gs = true) : 0 ≤ sqL (dfL vs gs) ∧ sqL (dfL vs gs) ≤ 490050000 := by
  have a := sqs_in h vs.length (Nat.le_refl _)
  have b := (okG_parts h).2.1
  rw [List.take_of_length_le (by rw [dfL_length]; exact Nat.le_refl _)] at a
  omega

/-- The differences as a map over the parties. -/
theorem dfL_map (vs gs : List Int) : dfL vs gs = (upN vs.length).map (difF (seV vs) (seV gs) (totI gs) (totI vs)) := by
  rw [upN_map]
  unfold dfL dfF difF
  simp only [seV_nat]
theorem dfL_tot (hg : gs.length = vs.length) : totI (dfL vs gs) = 0 := by
  rw [dfL_map, tot_dif, tot_self, ← hg, tot_self, Int.mul_comm]; omega
/-- **Gaps are equal in both directions** (promise 97). -/
theorem p97_even (hg : gs.length = vs.length) : gapL (dfL vs gs) % 2 = 0 := by
  have h := gap_even (dfL vs gs)
  rw [dfL_tot hg] at h
  omega
theorem p97_zero : gapL (dfL vs gs) = 0 ↔ ∀ i, i < vs.length → gs[i]?.getD 0 * totI vs = vs[i]?.getD 0 * totI gs := by
  rw [gap_zero]
  constructor
  · intro h i hi
    have := h (dfF vs gs i) (List.mem_map.2 ⟨i, List.mem_range.2 hi, rfl⟩)
    unfold dfF at this
    omega
  · intro h x hx
    obtain ⟨i, hi, rfl⟩ := List.mem_map.1 hx
    have := h i (List.mem_range.1 hi)
    unfold dfF
    omega
/-- What FnGap finds behind k rounds. -/
def exTo (vs gs : List Int) (k : Nat) : Bool := (List.range k).all fun i => decide (gs[i]?.getD 0 * totI vs = vs[i]?.getD 0 * totI gs)
theorem exTo_succ (vs gs : List Int) (k : Nat) : exTo vs gs (k + 1) = (exTo vs gs k && decide (gs[k]?.getD 0 * totI vs = vs[k]?.getD 0 * totI gs)) := by simp [exTo, List.range_succ]
theorem p97_exact (vs gs : List Int) : decide (gapL (dfL vs gs) = 0) = exTo vs gs vs.length := by
  rw [Bool.eq_iff_iff, decide_eq_true_iff, p97_zero]
  simp [exTo]
/-- **Squares are those of gaps** (promise 98). -/
theorem p98_sq (vs gs : List Int) : sqL (dfL vs gs) ≤ gapL (dfL vs gs) * gapL (dfL vs gs) ∧ gapL (dfL vs gs) * gapL (dfL vs gs) ≤ sqL (dfL vs gs) * (vs.length : Int) := by
  have h := gap_le_sq (dfL vs gs)
  rw [dfL_length, Int.mul_comm (vs.length : Int)] at h
  exact ⟨sq_le_gap _, h⟩

theorem gap_lots {lots : List Int} (hl : lotsB lots = true) (hn : lots.length = vs.length) (x : List Int) : gapL (dfL vs x) = gapL (lots.map (difF (seV vs) (seV x) (totI x) (totI vs))) ∧ sqL (dfL vs x) = sqL (lots.map (difF (seV vs) (seV x) (totI x) (totI vs))) := by
  have hp := lots_upN hl hn
  rw [dfL_map]
  unfold gapL sqL
  simp only [List.map_map]
  exact ⟨(totR_perm _ hp).symm, (totR_perm _ hp).symm⟩
theorem up_seV {lots : List Int} {s : Int} (k : Nat) {z : Int} (h0 : 0 ≤ z) (hz : z < (vs.length : Int)) : seV (upL vs s lots k) z = remF (seV vs) lots s (totI vs) k z := by
  obtain ⟨i, rfl⟩ := Int.eq_ofNat_of_zero_le h0
  rw [seV_nat, upL_at s lots k (by omega)]
/-- **Remainders have the least gap, and the least squares** (promises 99 and 100). -/
theorem p99_low (h : okG vs gs = true) {lots : List Int} (hl : lotsB lots = true) (hn : lots.length = vs.length) :
    gapL (dfL vs (upL vs (totI gs) lots (lfN vs (totI gs)))) ≤ gapL (dfL vs gs) ∧ sqL (dfL vs (upL vs (totI gs) lots (lfN vs (totI gs)))) ≤ sqL (dfL vs gs) := by
  obtain ⟨h1, h2⟩ := (okG_iff _ _).1 h
  obtain ⟨-, -, hT, -, hgl, hs⟩ := okG_parts h
  have ht := p90_tot h1 hs hl hn
  have a := gap_lots hl hn gs
  have b := gap_lots hl hn (upL vs (totI gs) lots (lfN vs (totI gs)))
  rw [ht] at b
  have e : lots.map (difF (seV vs) (seV (upL vs (totI gs) lots (lfN vs (totI gs)))) (totI gs) (totI vs)) = lots.map (difF (seV vs) (remF (seV vs) lots (totI gs) (totI vs) (lfN vs (totI gs))) (totI gs) (totI vs)) := by
    apply List.map_congr_left
    intro z hz
    have hm := lotsB_mem hl z hz
    unfold difF
    rw [up_seV _ hm.1 (by omega)]
  rw [e] at b
  have hV : totI (lots.map (seV vs)) = totI vs := by rw [totR_perm _ (lots_upN hl hn), tot_self]
  have hG : totI (lots.map (seV gs)) = totI gs := by rw [totR_perm _ (lots_upN hl (hn.trans hgl.symm)), tot_self]
  rw [a.1, a.2, b.1, b.2]
  exact ⟨rem_gap (V := seV vs) (vB_nodup hl) (lots_ne hl) hV hT.1 (tot_ov h1 hs hl hn) (tot_lo h1 hs hl hn) hG,
    rem_sq (V := seV vs) (vB_nodup hl) (lots_ne hl) hT.1 (tot_ov h1 hs hl hn) (tot_lo h1 hs hl hn) hG⟩
theorem p99_ok (h : okG vs gs = true) {lots : List Int} (hl : lotsB lots = true) (hn : lots.length = vs.length) : okR vs (totI gs) lots = true ∧ okG vs (upL vs (totI gs) lots (lfN vs (totI gs))) = true := by
  obtain ⟨h1, h2⟩ := (okG_iff _ _).1 h
  obtain ⟨-, -, hT, -, hgl, hs⟩ := okG_parts h
  have hf := p90_fair h1 hs hl hn
  unfold fairB at hf
  rw [Bool.and_eq_true, Bool.and_eq_true] at hf
  exact ⟨(okR_iff _ _ _).2 ⟨h1, hs, hl, hn⟩, (okG_iff _ _).2 ⟨h1, hf.2.1⟩⟩
end

/-- Hurdles. -/
def okH (vs : List Int) (p : Int) : Bool := voteB vs && (inB p 0 100 && voteB (hurdL vs p (totI vs)))
theorem okH_iff (vs : List Int) (p : Int) : okH vs p = true ↔ voteB vs = true ∧ (0 ≤ p ∧ p ≤ 100) ∧ voteB (hurdL vs p (totI vs)) = true := by simp [okH, inB]
def hurR (vs : List Int) (p : Int) : List Int := if okH vs p = true then hurdL vs p (totI vs) else []
theorem hurR_short {vs : List Int} (h : vs.length ≤ 5) (p : Int) : (hurR vs p).length ≤ 5 := by
  unfold hurR; split
  · rw [hurd_length]; exact h
  · simp
theorem hurR_five (vs : List Int) (p : Int) : (hurR vs p).length ≤ 5 := by
  cases h : okH vs p
  · rw [hurR, if_neg (by rw [h]; decide)]; simp
  · have := ((voteB_iff vs).1 ((okH_iff _ _).1 h).1).1.2.2
    exact hurR_short this p
theorem vote_nn {vs : List Int} (h : voteB vs = true) : ∀ z ∈ vs, 0 ≤ z := by
  obtain ⟨⟨h1, -, -⟩, -⟩ := (voteB_iff vs).1 h
  intro z hz
  obtain ⟨i, hi, rfl⟩ := List.mem_iff_getElem.1 hz
  have := toB_at h1 hi
  simp [hi] at this
  exact this.1
theorem hurd_more2 {vs : List Int} {p T : Int} (hT : 0 ≤ T) (h0 : ∀ z ∈ vs, 0 ≤ z) {i : Nat} (h : i < vs.length) : (hurdL vs p T)[i]?.getD 0 ≤ (hurdL vs (p - 1) T)[i]?.getD 0 := hurd_more hT h0 h
theorem hurd_in {vs : List Int} {p T : Int} (h : toB vs 99 vs.length = true) {i : Nat} (hi : i < vs.length) : 0 ≤ (hurdL vs p T)[i]?.getD 0 ∧ (hurdL vs p T)[i]?.getD 0 ≤ 99 := by
  have := toB_at h hi
  rw [hurd_at hi]
  split <;> omega
theorem tot_le : ∀ {l m : List Int}, l.length = m.length → (∀ i, i < l.length → l[i]?.getD 0 ≤ m[i]?.getD 0) → totI l ≤ totI m
  | [], [], _, _ => Int.le_refl _
  | x :: t, [], h, _ => by simp at h
  | [], x :: t, h, _ => by simp at h
  | x :: t, y :: u, h, hl => by
    have h0 := hl 0 (by simp)
    have ih := tot_le (l := t) (m := u) (by simpa using h) (fun i hi => by have := hl (i + 1) (by simp; omega); simpa using this)
    simp at h0
    rw [totI_cons, totI_cons]; omega
/-- **A greater hurdle leaves fewer** (promise 102). -/
theorem p102_less {vs : List Int} {p : Int} (h : okH vs p = true) (hp : p ≠ 0) : okH vs (p - 1) = true ∧ ∀ i, i < vs.length → (hurdL vs p (totI vs))[i]?.getD 0 ≤ (hurdL vs (p - 1) (totI vs))[i]?.getD 0 := by
  obtain ⟨h1, h2, h3⟩ := (okH_iff _ _).1 h
  obtain ⟨⟨a1, a2, a3⟩, a4⟩ := (voteB_iff vs).1 h1
  obtain ⟨-, b4⟩ := (voteB_iff _).1 h3
  have hm : ∀ i, i < vs.length → (hurdL vs p (totI vs))[i]?.getD 0 ≤ (hurdL vs (p - 1) (totI vs))[i]?.getD 0 := fun i hi => hurd_more (by omega) (vote_nn h1) hi
  refine ⟨(okH_iff _ _).2 ⟨h1, by omega, (voteB_iff _).2 ⟨⟨toB_of (fun i hi => ?_), by rw [hurd_length]; omega, by rw [hurd_length]; omega⟩, ?_⟩⟩, hm⟩
  · rw [hurd_length] at hi
    exact hurd_in a1 hi
  · have := tot_le (l := hurdL vs p (totI vs)) (m := hurdL vs (p - 1) (totI vs)) (by rw [hurd_length, hurd_length]) (fun i hi => hm i (by rw [hurd_length] at hi; exact hi))
    omega
theorem p102_zero {vs : List Int} (h : voteB vs = true) : okH vs 0 = true ∧ hurdL vs 0 (totI vs) = vs := by
  have e := hurd_zero (T := totI vs) (vote_nn h)
  exact ⟨(okH_iff _ _).2 ⟨h, by omega, by rw [e]; exact h⟩, e⟩

/-- Parties that count. -/
def parR (vs : List Int) : Fr := if voteB vs = true then partF vs else (0, 0)
theorem sq_pos {vs : List Int} (h : voteB vs = true) : 0 < sqL vs ∧ sqL vs ≤ 49005 ∧ 0 < totI vs * totI vs ∧ totI vs * totI vs ≤ 245025 := by
  obtain ⟨⟨a1, a2, a3⟩, a4⟩ := (voteB_iff vs).1 h
  have hT : totI vs ≤ 495 := (share_in h (s := 0) (by omega) (z := ((0 : Nat) : Int)) (by omega) (by omega)).2.1
  have hp := Int.mul_pos a4 a4
  have hm := parties_most vs (vote_nn h)
  have hn := sqL_nonneg vs
  have hq : ∀ k, k ≤ vs.length → sqL (vs.take k) ≤ 9801 * (k : Int) := fun k => by
    induction k with
    | zero => intro _; simp [sqL, totI_nil]
    | succ k ih =>
      intro hk
      have h1 := ih (by omega)
      have h2 := toB_at a1 (show k < vs.length by omega)
      have h3 := two_mul h2 h2
      rw [sq_take (by omega)]
      omega
  have hqa := hq vs.length (Nat.le_refl _)
  rw [List.take_of_length_le (Nat.le_refl _)] at hqa
  have h4 := two_mul (x := totI vs) (y := totI vs) (a := 495) (b := 495) ⟨by omega, hT⟩ ⟨by omega, hT⟩
  refine ⟨?_, by omega, hp, by omega⟩
  rcases Int.lt_or_le 0 (sqL vs) with g | g
  · exact g
  · exfalso
    have e : sqL vs = 0 := by omega
    rw [e, Int.mul_zero] at hm
    omega
theorem par_ok {vs : List Int} (h : voteB vs = true) : ofOk (totI vs * totI vs) (sqL vs) = true := by
  have := sq_pos h
  exact (ofOk_iff _ _).2 ⟨by omega, by omega, by omega⟩
theorem par_bound {vs : List Int} (h : voteB vs = true) : (1 ≤ (partF vs).1 ∧ (partF vs).1 ≤ 245025) ∧ 1 ≤ (partF vs).2 ∧ (partF vs).2 ≤ 49005 := by
  have hs := sq_pos h
  have hb := ofF_bound (n := totI vs * totI vs) (d := sqL vs) hs.1
  have hl := part_law (vote_nn h) hs.1
  unfold partF at hl ⊢
  omega
/-- The greatest number, at least 0. -/
def mstI (c : List Int) : Int := c.foldl (fun b z => max b z) 0
theorem mstI_snoc (c : List Int) (z : Int) : mstI (c ++ [z]) = max (mstI c) z := by simp [mstI]
theorem mst_fold : ∀ (c : List Int) (b : Int), b ≤ c.foldl (fun b z => max b z) b ∧ ∀ z ∈ c, z ≤ c.foldl (fun b z => max b z) b
  | [], b => ⟨Int.le_refl _, fun z hz => by cases hz⟩
  | x :: t, b => by
    obtain ⟨h1, h2⟩ := mst_fold t (max b x)
    rw [List.foldl_cons]
    refine ⟨by omega, fun z hz => ?_⟩
    rcases List.mem_cons.1 hz with e | e
    · subst e; omega
    · exact h2 z e
theorem mst_le (c : List Int) : ∀ z ∈ c, z ≤ mstI c := (mst_fold c 0).2
/-- What FnParties finds behind k rounds. -/
def smTo (vs : List Int) (k : Nat) : Bool := (List.range k).all fun i => decide (vs[i]?.getD 0 ≤ 0) || decide (vs[i]?.getD 0 = mstI vs)
theorem smTo_succ (vs : List Int) (k : Nat) : smTo vs (k + 1) = (smTo vs k && (decide (vs[k]?.getD 0 ≤ 0) || decide (vs[k]?.getD 0 = mstI vs))) := by simp [smTo, List.range_succ]
theorem some_take {l : List Int} {k : Nat} (h : k < l.length) : someN (l.take (k + 1)) = someN (l.take k) + if 0 < l[k]?.getD 0 then 1 else 0 := by
  rw [take_next h]
  unfold someN
  rw [List.map_append, totI_app]; simp [totI_cons, totI_nil]
theorem some_in (l : List Int) : ∀ k, 0 ≤ someN (l.take k) ∧ someN (l.take k) ≤ (k : Int)
  | 0 => by simp [someN, totI_nil]
  | k + 1 => by
    have ih := some_in l k
    by_cases h : k < l.length
    · rw [some_take h]; split <;> omega
    · rw [List.take_of_length_le (by omega)] at ih ⊢; omega
/-- **Equal parties count as many** (promise 103). -/
theorem p103_law {vs : List Int} (h : voteB vs = true) : (partF vs).2 ≤ (partF vs).1 ∧ (partF vs).1 ≤ someN vs * (partF vs).2 ∧ (smTo vs vs.length = true → partF vs = (someN vs, 1)) := by
  have hs := sq_pos h
  have hl := part_law (vote_nn h) hs.1
  refine ⟨hl.1, hl.2, fun hk => ?_⟩
  have ht : 0 < totI vs := ((voteB_iff vs).1 h).2
  have hall : ∀ z ∈ vs, z = 0 ∨ z = mstI vs := fun z hz => by
    have h0 := vote_nn h z hz
    obtain ⟨i, hi, rfl⟩ := List.mem_iff_getElem.1 hz
    have := List.all_eq_true.1 hk i (List.mem_range.2 hi)
    simp [hi] at this
    rcases this with e | e
    · left; omega
    · right; exact e
  have hm : 0 < mstI vs := by
    rcases Int.lt_or_le 0 (mstI vs) with g | g
    · exact g
    · exfalso
      have hz : ∀ z ∈ vs, z = 0 := fun z hz => by have := mst_le vs z hz; have := vote_nn h z hz; omega
      have : totI vs = 0 := by
        clear hl hs h hk hall g
        induction vs with
        | nil => rfl
        | cons x t ih => rw [totI_cons] at ht ⊢; have hx := hz x (by simp); rw [hx] at ht ⊢; rw [ih (by omega) (fun z h => hz z (by simp [h]))]; rfl
      omega
  have hn : 0 < someN vs := by
    rcases Int.lt_or_le 0 (someN vs) with g | g
    · exact g
    · exfalso
      have e0 : someN vs = 0 := by have := someN_nonneg vs; omega
      have := (parties_same vs (mstI vs) hall hm).1
      rw [e0, Int.zero_mul] at this
      omega
  exact part_same hall hm hn
/-- **Only shares count** (promise 104). -/
def dblL (vs : List Int) : List Int := vs.map fun z => 2 * z
theorem dblL_length (vs : List Int) : (dblL vs).length = vs.length := by simp [dblL]
theorem dblL_at {vs : List Int} {i : Nat} (h : i < vs.length) : (dblL vs)[i]?.getD 0 = 2 * vs[i]?.getD 0 := by simp [dblL, h]
theorem dbl_tot (vs : List Int) : totI (dblL vs) = 2 * totI vs := by
  unfold dblL
  induction vs with
  | nil => rfl
  | cons x t ih => rw [List.map_cons, totI_cons, totI_cons, ih]; omega
theorem p104_double {vs : List Int} (h : voteB vs = true) (hm : mstI vs ≤ 49) : voteB (dblL vs) = true ∧ partF (dblL vs) = partF vs := by
  obtain ⟨⟨a1, a2, a3⟩, a4⟩ := (voteB_iff vs).1 h
  refine ⟨(voteB_iff _).2 ⟨⟨toB_of (fun i hi => ?_), by rw [dblL_length]; omega, by rw [dblL_length]; omega⟩, by rw [dbl_tot]; omega⟩, part_scale (sq_pos h).1⟩
  rw [dblL_length] at hi
  rw [dblL_at hi]
  have h1 := toB_at a1 hi
  have h2 := mst_le vs (vs[i]?.getD 0) (by simp [hi])
  omega
theorem p104_more {vs : List Int} (h : voteB vs = true) (hl : vs.length ≠ 5) : voteB (vs ++ [0]) = true ∧ partF (vs ++ [0]) = partF vs := by
  obtain ⟨⟨a1, a2, a3⟩, a4⟩ := (voteB_iff vs).1 h
  refine ⟨(voteB_iff _).2 ⟨⟨toB_of (fun i hi => ?_), by simp, by simp; omega⟩, by rw [totI_snoc]; omega⟩, part_zeroed vs⟩
  by_cases hi2 : i < vs.length
  · have := toB_at a1 hi2
    rw [List.getElem?_append_left hi2]; exact this
  · have e : i = vs.length := by simp at hi; omega
    subst e
    simp

end Go.Proofs.Ytbcemgmfkddafaa

namespace Go.Proofs.Ytbcemgmfkddafaa
open Go.RowKit

attribute [local go_sem] Oper.semAt_some

/-- The greatest of the first k + 1 numbers. -/
def mxTo (c : List Int) : Nat → Int
  | 0 => c[0]?.getD 0
  | k + 1 => max (mxTo c k) (c[k + 1]?.getD 0)
theorem mxTo_succ (c : List Int) (k : Nat) : mxTo c (k + 1) = max (mxTo c k) (c[k + 1]?.getD 0) := rfl
theorem mxTo_ge {c : List Int} : ∀ {k i : Nat}, i ≤ k → c[i]?.getD 0 ≤ mxTo c k
  | 0, i, h => by rw [Nat.le_zero.1 h]; exact Int.le_refl _
  | k + 1, i, h => by
    rw [mxTo_succ]
    by_cases e : i = k + 1
    · subst e; exact Int.le_max_right _ _
    · exact Int.le_trans (mxTo_ge (by omega : i ≤ k)) (Int.le_max_left _ _)
theorem mxTo_hit (c : List Int) : ∀ k, ∃ i, i ≤ k ∧ c[i]?.getD 0 = mxTo c k
  | 0 => ⟨0, Nat.le_refl _, rfl⟩
  | k + 1 => by
    obtain ⟨i, hi, he⟩ := mxTo_hit c k
    rw [mxTo_succ]
    by_cases g : c[k + 1]?.getD 0 ≤ mxTo c k
    · exact ⟨i, by omega, by omega⟩
    · exact ⟨k + 1, Nat.le_refl _, by omega⟩
theorem max_sum {c : List Int} (h0 : ∀ i, i < c.length → 0 ≤ c[i]?.getD 0) (hp : 0 < c.length) : decide (0 < mxTo c (c.length - 1)) = decide (0 < totI c) := by
  obtain ⟨i, hi, he⟩ := mxTo_hit c (c.length - 1)
  obtain ⟨t0, ht⟩ := le_totI h0
  have h1 := ht i (by omega)
  rw [he] at h1
  by_cases g : 0 < mxTo c (c.length - 1)
  · rw [decide_eq_true g, decide_eq_true (by omega)]
  · rw [decide_eq_false g]
    have hz : totI c ≤ totI (List.replicate c.length 0) := totI_le (by simp) (fun j hj => by
      have := mxTo_ge (c := c) (k := c.length - 1) (i := j) (by omega)
      rw [List.getElem?_replicate, if_pos hj]
      show c[j]?.getD 0 ≤ 0
      omega)
    rw [totI_repl] at hz
    rw [decide_eq_false (by omega)]

set_option maxRecDepth 100000 in
set_option maxHeartbeats 2000000 in
/-- **slices.Max**. -/
theorem slMax_as (a : Option Addr) (len cap : Nat) (zs : List Int) (w : World) (h : IsInts w a len cap zs) (hp : 0 < len) (m : Int) (hm : mxTo zs (len - 1) = m) :
    Calls Try.prog 70 #[.slice a len cap] w fun e w' => e = .returned (.int .i64 m) ∧ w = w' := by
  obtain ⟨h1, h2, h3, h4⟩ := h
  obtain ⟨b, off, rfl, hb, hc⟩ := h4 hp
  have HC := Lib.hid hc
  have HM := Lib.hid hm
  have c0 := hc 0 hp
  rw [Nat.add_zero] at c0
  obtain ⟨z0, hz0⟩ : ∃ z0, zs[0]?.getD 0 = z0 := ⟨_, rfl⟩
  rw [hz0] at c0
  have HZ0 : Hid (mxTo zs 0 = z0) := hz0
  have hlt1 : decide ((len : Int) < 1) = false := decide_eq_false (by omega)
  have hlt2 : decide (len = 0) = false := decide_eq_false (by omega)
  have hlt3 : ¬ len = 0 := by omega
  have hpi : (0 : Int) < (len : Int) := by omega
  clear hc h4 hm hz0 h1
  go_enter Try.func70, Try.ntmps70
  go_wp2
  go_loop [3, 4] (fun mv iv => ∃ (i : Nat) (x : Int), 1 ≤ i ∧ i ≤ len ∧ iv = .int .i64 (i : Int) ∧ mv = .int .i64 x ∧ Hid (mxTo zs (i - 1) = x)) (fun _ iv => len - (intOf iv).toNat)
  case atStart => exact ⟨1, z0, Nat.le_refl _, hp, rfl, rfl, HZ0⟩
  case round =>
    clear HZ0 c0
    obtain ⟨i, x, hi1, hil, rfl, rfl, hx⟩ := hrel
    by_cases hlt : i < len
    · have ci := HC.out i hlt
      obtain ⟨z, hz⟩ : ∃ z, zs[i]?.getD 0 = z := ⟨_, rfl⟩
      rw [hz] at ci
      have HX : Hid (mxTo zs i = max x z) := by
        obtain ⟨k, rfl⟩ : ∃ k, i = k + 1 := ⟨i - 1, by omega⟩
        have := hx.out
        rw [Nat.add_sub_cancel] at this
        rw [Hid, mxTo_succ, this, hz]
      clear hz
      by_cases hxz : x < z
      · have HX2 : Hid (mxTo zs (i + 1 - 1) = z) := by rw [Nat.add_sub_cancel, Hid, HX.out]; omega
        go_wp2
        go_round
        case rel => exact ⟨i + 1, z, by omega, by omega, by go_num, by first | rfl | (congr 1; omega), HX2⟩
        case measure => simp [intOf]; omega
      · have HX2 : Hid (mxTo zs (i + 1 - 1) = x) := by rw [Nat.add_sub_cancel, Hid, HX.out]; omega
        go_wp2
        go_round
        case rel => exact ⟨i + 1, x, by omega, by omega, by go_num, by first | rfl | (congr 1; omega), HX2⟩
        case measure => simp [intOf]; omega
    · obtain rfl : i = len := by omega
      go_wp2
      go_ret
      exact ⟨ret_int (by rw [← HM.out, hx.out]), rfl⟩

end Go.Proofs.Ytbcemgmfkddafaa
