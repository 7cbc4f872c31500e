/-
  Seats by remainders: shares rounded down, the seats that are left to the greatest remainders; shares. Votes and seats are functions of a party's number; lots are a list. Of no memory.
  Transfers of votes, with exact weights: steps, seats, sums; a solid pair gets a seat. Of no memory.
  Transfers, step by step: who, what kind, what is left; sums do not grow; exchanging candidates. Of no memory.
-/
import Derived.Test.YtafnmongglhlaaaGrp9
namespace Go.Proofs.Ytafnmongglhlaaa

/-- The greatest of some numbers: of several ones the first one in the lots. -/
def topF (R : Int → Int) : Int → List Int → Int
  | best, [] => best
  | best, k :: t => topF R (if R best < R k then k else best) t
def topL (R : Int → Int) (lots : List Int) : Int := topF R (lots[0]?.getD 0) (lots.drop 1)
def IsTopR (R : Int → Int) (lots : List Int) (w i : Int) : Prop := R i < R w ∨ (R i = R w ∧ lots.idxOf w ≤ lots.idxOf i)
theorem topF_spec {R : Int → Int} : ∀ (t pre : List Int) (best : Int), (pre ++ t).Nodup → best ∈ pre → (∀ i ∈ pre, IsTopR R (pre ++ t) best i) →
    topF R best t ∈ pre ++ t ∧ ∀ i ∈ pre ++ t, IsTopR R (pre ++ t) (topF R best t) i
  | [], pre, best, _, hb, h => by rw [List.append_nil] at *; exact ⟨hb, h⟩
  | k :: t, pre, best, hn, hb, h => by
    have e : pre ++ k :: t = (pre ++ [k]) ++ t := by simp
    have hix : ∀ i ∈ pre, (pre ++ k :: t).idxOf i < (pre ++ k :: t).idxOf k := fun i hi => idx_pre hn hi
    unfold topF
    by_cases hlt : R best < R k
    · rw [if_pos hlt]
      have := topF_spec (R := R) t (pre ++ [k]) k (by rw [← e]; exact hn) (by simp) (fun i hi => by
        rw [← e]
        rcases List.mem_append.1 hi with hi | hi
        · have hs := h i hi
          unfold IsTopR at *
          omega
        · have : i = k := by simpa using hi
          subst this; exact .inr ⟨rfl, Nat.le_refl _⟩)
      rwa [← e] at this
    · rw [if_neg hlt]
      have := topF_spec (R := R) t (pre ++ [k]) best (by rw [← e]; exact hn) (by simp [hb]) (fun i hi => by
        rw [← e]
        rcases List.mem_append.1 hi with hi | hi
        · exact h i hi
        · have : i = k := by simpa using hi
          subst this
          have := hix best hb
          unfold IsTopR
          omega)
      rwa [← e] at this
theorem topL_spec {R : Int → Int} {lots : List Int} (hn : lots.Nodup) (h0 : lots ≠ []) : topL R lots ∈ lots ∧ ∀ i ∈ lots, IsTopR R lots (topL R lots) i := by
  match lots, h0 with
  | b :: t, _ =>
    have := topF_spec (R := R) t [b] b hn (by simp) (fun i hi => by
      have : i = b := by simpa using hi
      subst this; exact .inr ⟨rfl, Nat.le_refl _⟩)
    simpa [topL] using this
/-- There is one alone. -/
theorem topL_one {R : Int → Int} {lots : List Int} (hn : lots.Nodup) (h0 : lots ≠ []) {w : Int} (hw : w ∈ lots) (h : ∀ i ∈ lots, IsTopR R lots w i) : topL R lots = w := by
  obtain ⟨h1, h2⟩ := topL_spec (R := R) hn h0
  have a := h _ h1
  have b := h2 w hw
  unfold IsTopR at a b
  have hi : lots.idxOf (topL R lots) = lots.idxOf w := by omega
  have e1 := List.getElem_idxOf (List.idxOf_lt_length_of_mem h1)
  have e2 := List.getElem_idxOf (List.idxOf_lt_length_of_mem hw)
  rw [← e1, ← e2]
  simp only [hi]

/-- The one who got a seat for a remainder has none of it left. -/
def gone (R : Int → Int) (w : Int) : Int → Int := fun z => if z = w then -1 else R z
/-- Who has got how many further seats behind n rounds; what is left then. -/
def upR (R : Int → Int) (lots : List Int) : Nat → (Int → Int) × (Int → Int)
  | 0 => (fun _ => 0, R)
  | n + 1 => (plus (upR R lots n).1 (topL (upR R lots n).2 lots), gone (upR R lots n).2 (topL (upR R lots n).2 lots))
def Up (R : Int → Int) (lots : List Int) (n : Nat) : Int → Int := (upR R lots n).1
def SeatsLeft (R : Int → Int) (lots : List Int) (n : Nat) : Int → Int := (upR R lots n).2
theorem Up_succ (R : Int → Int) (lots : List Int) (n : Nat) : Up R lots (n + 1) = plus (Up R lots n) (topL (SeatsLeft R lots n) lots) := rfl
theorem Left_succ (R : Int → Int) (lots : List Int) (n : Nat) : SeatsLeft R lots (n + 1) = gone (SeatsLeft R lots n) (topL (SeatsLeft R lots n) lots) := rfl

/-- What holds while remainders get seats. -/
structure RemInv (R : Int → Int) (lots : List Int) (n : Nat) : Prop where
  bit : ∀ z, Up R lots n z = 0 ∨ Up R lots n z = 1
  tot : totI (lots.map (Up R lots n)) = (n : Int)
  left : ∀ z, SeatsLeft R lots n z = if Up R lots n z = 1 then -1 else R z
  pos : ∀ z, Up R lots n z = 1 → 0 < R z
  first : ∀ i ∈ lots, ∀ k ∈ lots, Up R lots n i = 1 → Up R lots n k = 0 → IsTopR R lots i k

theorem totS_zero : ∀ l : List Int, totI (l.map fun _ => (0 : Int)) = 0
  | [] => rfl
  | a :: t => by rw [List.map_cons, totI_cons, totS_zero t]; rfl
theorem tot_scale_le : ∀ (l : List Int) (R U : Int → Int) (T : Int), (∀ z ∈ l, R z ≤ T * U z) → totI (l.map R) ≤ T * totI (l.map U)
  | [], _, _, T, _ => by simp [totI_nil]
  | k :: t, R, U, T, h => by
    have h1 := h k (by simp)
    have h2 := tot_scale_le t R U T (fun z hz => h z (by simp [hz]))
    rw [List.map_cons, List.map_cons, totI_cons, totI_cons, Int.mul_add]; omega
theorem remInv {R : Int → Int} {lots : List Int} {T : Int} {L : Nat} (hn : lots.Nodup) (h0 : lots ≠ []) (hR : ∀ z, 0 ≤ R z) (hT : ∀ z, R z < T) (hL : totI (lots.map R) = (L : Int) * T) : ∀ n, n ≤ L → RemInv R lots n
  | 0, _ => ⟨fun _ => .inl rfl, totS_zero lots, fun _ => rfl, fun z h => by have : (0 : Int) = 1 := h; omega, fun i _ k _ h => by have : (0 : Int) = 1 := h; omega⟩
  | n + 1, hle => by
    have ih := remInv hn h0 hR hT hL n (by omega)
    have hTp : 0 < T := by have := hR 0; have := hT 0; omega
    -- someone is left who has a remainder
    have hex : ∃ k ∈ lots, Up R lots n k = 0 ∧ 0 < R k := by
      refine Classical.byContradiction fun hno => ?_
      have hz : ∀ z ∈ lots, R z ≤ T * Up R lots n z := fun z hz => by
        rcases ih.bit z with h | h
        · have : ¬ 0 < R z := fun hp => hno ⟨z, hz, h, hp⟩
          have := hR z
          rw [h, Int.mul_zero]; omega
        · rw [h, Int.mul_one]; exact Int.le_of_lt (hT z)
      have h1 := tot_scale_le lots R (Up R lots n) T hz
      rw [hL, ih.tot, Int.mul_comm (L : Int)] at h1
      have := Int.le_of_mul_le_mul_left h1 hTp
      omega
    obtain ⟨k, hk, hk0, hkp⟩ := hex
    obtain ⟨w, hw⟩ : ∃ w, topL (SeatsLeft R lots n) lots = w := ⟨_, rfl⟩
    obtain ⟨hwm, hwt⟩ := topL_spec (R := SeatsLeft R lots n) hn h0
    rw [hw] at hwm hwt
    have hLk : SeatsLeft R lots n k = R k := by rw [ih.left, if_neg (by omega)]
    have hLw : 0 < SeatsLeft R lots n w := by
      have := hwt k hk
      unfold IsTopR at this
      omega
    have hw0 : Up R lots n w = 0 := by
      rcases ih.bit w with h | h
      · exact h
      · rw [ih.left, if_pos h] at hLw; omega
    have hLR : SeatsLeft R lots n w = R w := by rw [ih.left, if_neg (by omega)]
    have hU : ∀ z, Up R lots (n + 1) z = if z = w then Up R lots n z + 1 else Up R lots n z := fun z => by rw [Up_succ, hw]; rfl
    refine ⟨fun z => ?_, ?_, fun z => ?_, fun z hz => ?_, fun i hi j hj h1 h2 => ?_⟩
    · rw [hU]
      by_cases e : z = w
      · subst e; rw [if_pos rfl]; omega
      · rw [if_neg e]; exact ih.bit z
    · rw [Up_succ, hw, tot_plus _ hn hwm, ih.tot]; omega
    · rw [Left_succ, hw, hU]
      unfold gone
      by_cases e : z = w
      · subst e; rw [if_pos rfl, if_pos rfl, if_pos (by omega)]
      · rw [if_neg e, if_neg e]; exact ih.left z
    · rw [hU] at hz
      by_cases e : z = w
      · subst e; omega
      · rw [if_neg e] at hz; exact ih.pos z hz
    · rw [hU] at h1 h2
      have hjw : j ≠ w := fun e => by rw [if_pos e] at h2; have := ih.bit j; omega
      rw [if_neg hjw] at h2
      have hLj : SeatsLeft R lots n j = R j := by rw [ih.left, if_neg (by omega)]
      by_cases e : i = w
      · subst e
        have := hwt j hj
        unfold IsTopR at this ⊢
        rw [hLj, hLR] at this
        exact this
      · rw [if_neg e] at h1
        exact ih.first i hi j hj h1 h2

/-- Shares: rounded down, what is over; rounded up. -/
def lowI (v S T : Int) : Int := v * S / T
def overI (v S T : Int) : Int := v * S % T
def highI (v S T : Int) : Int := (v * S + T - 1) / T
theorem low_over (v S T : Int) : T * lowI v S T + overI v S T = v * S := by unfold lowI overI; exact Int.mul_ediv_add_emod _ _
theorem over_range {v S T : Int} (hT : 0 < T) : 0 ≤ overI v S T ∧ overI v S T < T := ⟨Int.emod_nonneg _ (by omega), Int.emod_lt_of_pos _ hT⟩
/-- **A share is between two whole numbers** (promise 94). -/
theorem high_eq {v S T : Int} (hT : 0 < T) : highI v S T = if overI v S T = 0 then lowI v S T else lowI v S T + 1 := by
  have h1 := low_over v S T
  have h2 := over_range (v := v) (S := S) hT
  unfold highI
  rw [← h1]
  split
  · next h =>
    rw [h, Int.add_zero, Int.add_sub_assoc, Int.add_comm, Int.add_mul_ediv_left _ _ (by omega)]
    rw [Int.ediv_eq_zero_of_lt (by omega) (by omega)]; omega
  · next h =>
    have e : T * lowI v S T + overI v S T + T - 1 = (overI v S T - 1) + T * (lowI v S T + 1) := by rw [Int.mul_add]; omega
    rw [e, Int.add_mul_ediv_left _ _ (by omega), Int.ediv_eq_zero_of_lt (by omega) (by omega)]; omega
theorem quota_law {v S T : Int} (hT : 0 < T) : lowI v S T * T ≤ v * S ∧ v * S ≤ highI v S T * T ∧ highI v S T - lowI v S T ≤ 1 ∧ (highI v S T = lowI v S T ↔ v * S % T = 0) := by
  have h1 := low_over v S T
  have h2 := over_range (v := v) (S := S) hT
  have h3 := high_eq (v := v) (S := S) hT
  have e : lowI v S T * T = T * lowI v S T := Int.mul_comm _ _
  have hov : v * S % T = overI v S T := rfl
  rw [hov]
  by_cases h : overI v S T = 0
  · rw [if_pos h] at h3
    rw [h3]
    refine ⟨by omega, by omega, by omega, fun _ => h, fun _ => rfl⟩
  · rw [if_neg h] at h3
    rw [h3]
    have e2 : (lowI v S T + 1) * T = T * lowI v S T + T := by rw [Int.add_mul, Int.one_mul, e]
    exact ⟨by omega, by omega, by omega, fun k => by omega, fun k => absurd k h⟩

/-- What all rounded-down shares leave: so many seats, and so much of remainders. -/
theorem tot_mul : ∀ (l : List Int) (V : Int → Int) (a : Int), totI (l.map fun z => V z * a) = totI (l.map V) * a
  | [], _, a => by simp [totI_nil]
  | k :: t, V, a => by
    rw [List.map_cons, List.map_cons, totI_cons, totI_cons, tot_mul t V a, Int.add_mul]
theorem tot_two : ∀ (l : List Int) (A B C : Int → Int) (T : Int), (∀ z ∈ l, T * A z + B z = C z) → T * totI (l.map A) + totI (l.map B) = totI (l.map C)
  | [], _, _, _, T, _ => by simp [totI_nil]
  | k :: t, A, B, C, T, h => by
    have h1 := h k (by simp)
    have h2 := tot_two t A B C T (fun z hz => h z (by simp [hz]))
    rw [List.map_cons, List.map_cons, List.map_cons, totI_cons, totI_cons, totI_cons, Int.mul_add]; omega
theorem tot_nonneg : ∀ (l : List Int) (A : Int → Int), (∀ z ∈ l, 0 ≤ A z) → 0 ≤ totI (l.map A)
  | [], _, _ => by simp [totI_nil]
  | k :: t, A, h => by
    have h1 := h k (by simp)
    have h2 := tot_nonneg t A (fun z hz => h z (by simp [hz]))
    rw [List.map_cons, totI_cons]; omega
theorem left_seats {V : Int → Int} {lots : List Int} {S T : Int} (hT : totI (lots.map V) = T) (hTp : 0 < T) : ∃ L : Nat, totI (lots.map fun z => lowI (V z) S T) + (L : Int) = S ∧ totI (lots.map fun z => overI (V z) S T) = (L : Int) * T := by
  have h1 := tot_two lots (fun z => lowI (V z) S T) (fun z => overI (V z) S T) (fun z => V z * S) T (fun z _ => low_over (V z) S T)
  rw [tot_mul lots V S, hT] at h1
  have h2 := tot_nonneg lots (fun z => overI (V z) S T) (fun z _ => (over_range hTp).1)
  obtain ⟨A, hA⟩ : ∃ A, totI (lots.map fun z => lowI (V z) S T) = A := ⟨_, rfl⟩
  obtain ⟨B, hB⟩ : ∃ B, totI (lots.map fun z => overI (V z) S T) = B := ⟨_, rfl⟩
  rw [hA, hB] at h1
  rw [hB] at h2
  rw [hA, hB]
  have h3 : B = (S - A) * T := by rw [Int.sub_mul, Int.mul_comm S, Int.mul_comm A]; omega
  have h4 : 0 ≤ S - A := by
    rcases Int.lt_or_le (S - A) 0 with h | h
    · exfalso
      have := Int.mul_neg_of_neg_of_pos h hTp
      omega
    · exact h
  refine ⟨(S - A).toNat, by omega, ?_⟩
  rw [Int.toNat_of_nonneg h4]; exact h3

/-- The seats. -/
def remF (V : Int → Int) (lots : List Int) (S T : Int) (n : Nat) : Int → Int := fun z => lowI (V z) S T + Up (fun z => overI (V z) S T) lots n z
theorem tot_sum : ∀ (l : List Int) (A B : Int → Int), totI (l.map fun z => A z + B z) = totI (l.map A) + totI (l.map B)
  | [], _, _ => rfl
  | k :: t, A, B => by
    rw [List.map_cons, List.map_cons, List.map_cons, totI_cons, totI_cons, totI_cons, tot_sum t A B]; omega
/-- **All seats are given, and fairly; greater remainders come first** (promises 90, 91). -/
theorem rem_law {V : Int → Int} {lots : List Int} {S T : Int} (hn : lots.Nodup) (h0 : lots ≠ []) (hTp : 0 < T) {L : Nat} (hL : totI (lots.map fun z => overI (V z) S T) = (L : Int) * T) (hS : totI (lots.map fun z => lowI (V z) S T) + (L : Int) = S) :
    totI (lots.map (remF V lots S T L)) = S ∧ (∀ z, lowI (V z) S T ≤ remF V lots S T L z ∧ remF V lots S T L z ≤ highI (V z) S T) ∧
    (∀ i ∈ lots, ∀ k ∈ lots, lowI (V i) S T < remF V lots S T L i → remF V lots S T L k = lowI (V k) S T → IsTopR (fun z => overI (V z) S T) lots i k) := by
  have hI := remInv (R := fun z => overI (V z) S T) (T := T) hn h0 (fun z => (over_range hTp).1) (fun z => (over_range hTp).2) hL L (Nat.le_refl _)
  refine ⟨?_, fun z => ?_, fun i hi k hk h1 h2 => ?_⟩
  · unfold remF
    rw [tot_sum, hI.tot]; exact hS
  · have hb := hI.bit z
    have hp := hI.pos z
    have hh := high_eq (v := V z) (S := S) hTp
    have ho := (over_range (v := V z) (S := S) hTp).1
    unfold remF
    rcases hb with h | h
    · rw [h]; split at hh <;> omega
    · have := hp h
      rw [if_neg (by omega)] at hh
      rw [h]; omega
  · unfold remF at h1 h2
    have hb := hI.bit i
    exact hI.first i hi k hk (by omega) (by omega)
/-- **More votes do not have fewer seats** (promise 92). -/
theorem rem_votes {V : Int → Int} {lots : List Int} {S T : Int} (hn : lots.Nodup) (h0 : lots ≠ []) (hTp : 0 < T) (hSn : 0 ≤ S) {L : Nat} (hL : totI (lots.map fun z => overI (V z) S T) = (L : Int) * T) (hS : totI (lots.map fun z => lowI (V z) S T) + (L : Int) = S)
    {i k : Int} (hi : i ∈ lots) (hk : k ∈ lots) (hv : V k < V i) : remF V lots S T L k ≤ remF V lots S T L i := by
  have hI := remInv (R := fun z => overI (V z) S T) (T := T) hn h0 (fun z => (over_range hTp).1) (fun z => (over_range hTp).2) hL L (Nat.le_refl _)
  have h1 := low_over (V i) S T
  have h2 := low_over (V k) S T
  have o1 := over_range (v := V i) (S := S) hTp
  have o2 := over_range (v := V k) (S := S) hTp
  have hm : V k * S ≤ V i * S := Int.mul_le_mul_of_nonneg_right (Int.le_of_lt hv) hSn
  have hlow : lowI (V k) S T ≤ lowI (V i) S T := by
    unfold lowI; exact Int.ediv_le_ediv hTp hm
  have b1 := hI.bit i
  have b2 := hI.bit k
  unfold remF
  rcases Int.lt_or_le (lowI (V k) S T) (lowI (V i) S T) with hlt | hle
  · omega
  · have he : lowI (V k) S T = lowI (V i) S T := by omega
    rw [he] at h2 ⊢
    rcases b2 with h | h
    · rcases b1 with g | g <;> omega
    · rcases b1 with g | g
      · exfalso
        have hf := hI.first k hk i hi h g
        have hpos := hI.pos k h
        unfold IsTopR at hf
        have hSp : 0 < S := by
          rcases Int.lt_or_le 0 S with hp | hp
          · exact hp
          · have e0 : S = 0 := by omega
            exfalso
            have : overI (V k) S T = 0 := by unfold overI; rw [e0, Int.mul_zero]; exact Int.zero_emod _
            omega
        have hm2 : V k * S < V i * S := Int.mul_lt_mul_of_pos_right hv hSp
        simp only at hf
        omega
      · omega
/-- **Whole shares need no remainders** (promise 93). -/
theorem rem_whole {V : Int → Int} {lots : List Int} {S T : Int} (hTp : 0 < T) {L : Nat} (hL : totI (lots.map fun z => overI (V z) S T) = (L : Int) * T) (hz : ∀ z ∈ lots, overI (V z) S T = 0) : L = 0 := by
  have e : (lots.map fun z => overI (V z) S T) = lots.map fun _ => (0 : Int) := List.map_congr_left hz
  rw [e, totS_zero] at hL
  have := Int.mul_eq_zero.1 hL.symm
  omega
/-- **Shares are together all seats** (promise 95). -/
theorem quota_sum {V : Int → Int} {l : List Int} {S T : Int} (hT : totI (l.map V) = T) (hTp : 0 < T) : totI (l.map fun z => lowI (V z) S T) ≤ S ∧ S ≤ totI (l.map fun z => highI (V z) S T) := by
  have hall : ∀ (l : List Int), totI (l.map fun z => lowI (V z) S T) * T ≤ totI (l.map V) * S ∧ totI (l.map V) * S ≤ totI (l.map fun z => highI (V z) S T) * T := fun l => by
    induction l with
    | nil => simp [totI_nil]
    | cons k t ih =>
      have h1 := quota_law (v := V k) (S := S) hTp
      rw [List.map_cons, List.map_cons, List.map_cons, totI_cons, totI_cons, totI_cons, Int.add_mul, Int.add_mul, Int.add_mul]
      omega
  obtain ⟨h1, h2⟩ := hall l
  rw [hT, Int.mul_comm T] at h1 h2
  exact ⟨Int.le_of_mul_le_mul_right h1 hTp, Int.le_of_mul_le_mul_right h2 hTp⟩

end Go.Proofs.Ytafnmongglhlaaa

namespace Go.Proofs.Ytafnmongglhlaaa

def sumR : List Rat → Rat
  | [] => 0
  | a :: t => a + sumR t
theorem sumR_cons (a : Rat) (t : List Rat) : sumR (a :: t) = a + sumR t := rfl
theorem sumR_le {α : Type} : ∀ (l : List α) (F G : α → Rat), (∀ b ∈ l, F b ≤ G b) → sumR (l.map F) ≤ sumR (l.map G)
  | [], _, _, _ => Rat.le_refl
  | b :: t, F, G, h => by
    have h1 := h b (by simp)
    have h2 := sumR_le t F G (fun z hz => h z (by simp [hz]))
    rw [List.map_cons, List.map_cons, sumR_cons, sumR_cons]; grind
theorem sumR_nonneg {α : Type} : ∀ (l : List α) (F : α → Rat), (∀ b ∈ l, 0 ≤ F b) → 0 ≤ sumR (l.map F)
  | [], _, _ => Rat.le_refl
  | b :: t, F, h => by
    have h1 := h b (by simp)
    have h2 := sumR_nonneg t F (fun z hz => h z (by simp [hz]))
    rw [List.map_cons, sumR_cons]; grind
theorem sumR_congr {α : Type} : ∀ (l : List α) (F G : α → Rat), (∀ b ∈ l, F b = G b) → sumR (l.map F) = sumR (l.map G)
  | [], _, _, _ => rfl
  | b :: t, F, G, h => by
    rw [List.map_cons, List.map_cons, sumR_cons, sumR_cons, h b (by simp), sumR_congr t F G (fun z hz => h z (by simp [hz]))]

/-- The first candidate of a ballot who is still there, or -1. -/
def fstC : List Int → (Int → Bool) → Int
  | [], _ => -1
  | z :: t, g => if g z = true then fstC t g else z
theorem fstC_cases : ∀ (b : List Int) (g : Int → Bool), fstC b g = -1 ∨ (fstC b g ∈ b ∧ g (fstC b g) = false)
  | [], _ => .inl rfl
  | z :: t, g => by
    unfold fstC
    by_cases h : g z = true
    · rw [if_pos h]
      rcases fstC_cases t g with e | ⟨e1, e2⟩
      · exact .inl e
      · exact .inr ⟨by simp [e1], e2⟩
    · rw [if_neg h]; exact .inr ⟨by simp, by simpa using h⟩
/-- Ballots: whom they name, and what they are worth together. -/
abbrev Bal := List Int × Rat
/-- The count of a candidate; the worth of all ballots. -/
def cntR (B : List Bal) (g : Int → Bool) (k : Int) : Rat := sumR (B.map fun b => if fstC b.1 g = k then b.2 else 0)
def allR (B : List Bal) : Rat := sumR (B.map fun b => b.2)
/-- The ballots behind a seat with a count c: of those that counted for w, the part above the quota stays. -/
def weighR (B : List Bal) (g : Int → Bool) (w : Int) (c q : Rat) : List Bal := B.map fun b => if fstC b.1 g = w then (b.1, b.2 * ((c - q) / c)) else b
def ValR (B : List Bal) : Prop := ∀ b ∈ B, 0 ≤ b.2
theorem part_nonneg {c q : Rat} (hq : 0 < q) (hc : q ≤ c) : 0 ≤ (c - q) / c := by
  have h0 : 0 < c := by grind
  rw [Rat.div_def]
  exact Rat.mul_nonneg (by grind) (Rat.le_of_lt (Rat.inv_pos.2 h0))
theorem weigh_val {B : List Bal} {g : Int → Bool} {w : Int} {c q : Rat} (hq : 0 < q) (hc : q ≤ c) (h : ValR B) : ValR (weighR B g w c q) := by
  intro b hb
  obtain ⟨a, ha, rfl⟩ := List.mem_map.1 hb
  by_cases e : fstC a.1 g = w
  · rw [if_pos e]; exact Rat.mul_nonneg (h a ha) (part_nonneg hq hc)
  · rw [if_neg e]; exact h a ha
theorem weigh_split : ∀ (B : List Bal) (g : Int → Bool) (w : Int) (c q : Rat), allR (weighR B g w c q) = allR B - cntR B g w + cntR B g w * ((c - q) / c)
  | [], _, _, _, _ => by simp [allR, weighR, cntR, sumR]; grind
  | b :: t, g, w, c, q => by
    have ih := weigh_split t g w c q
    unfold allR weighR cntR at *
    simp only [List.map_cons, sumR_cons]
    by_cases e : fstC b.1 g = w
    · simp only [if_pos e]; rw [ih]; grind
    · simp only [if_neg e]; rw [ih]; grind
/-- A seat takes the quota away. -/
theorem weigh_all {B : List Bal} {g : Int → Bool} {w : Int} {q : Rat} (hq : 0 < q) (hc : q ≤ cntR B g w) : allR (weighR B g w (cntR B g w) q) = allR B - q := by
  rw [weigh_split]
  obtain ⟨c, hce⟩ : ∃ c, cntR B g w = c := ⟨_, rfl⟩
  rw [hce] at hc ⊢
  have h0 : c ≠ 0 := by grind
  have e : c * ((c - q) / c) = c - q := by grind
  rw [e]; grind

/-- The greatest of some numbers: of several ones the first one in the list. -/
def topQ (R : Int → Rat) : Int → List Int → Int
  | best, [] => best
  | best, k :: t => topQ R (if R best < R k then k else best) t
theorem topQ_spec (R : Int → Rat) : ∀ (t : List Int) (b : Int), (topQ R b t = b ∨ topQ R b t ∈ t) ∧ R b ≤ R (topQ R b t) ∧ ∀ i ∈ t, R i ≤ R (topQ R b t)
  | [], b => ⟨.inl rfl, Rat.le_refl, fun i hi => by (cases hi)⟩
  | k :: t, b => by
    unfold topQ
    by_cases h : R b < R k
    · rw [if_pos h]
      obtain ⟨h1, h2, h3⟩ := topQ_spec R t k
      refine ⟨?_, by grind, fun i hi => ?_⟩
      · rcases h1 with e | e
        · exact .inr (by rw [e]; simp)
        · exact .inr (by simp [e])
      · rcases List.mem_cons.1 hi with e | e
        · rw [e]; exact h2
        · exact h3 i e
    · rw [if_neg h]
      obtain ⟨h1, h2, h3⟩ := topQ_spec R t b
      refine ⟨?_, h2, fun i hi => ?_⟩
      · rcases h1 with e | e
        · exact .inl e
        · exact .inr (by simp [e])
      · rcases List.mem_cons.1 hi with e | e
        · rw [e]; grind
        · exact h3 i e
/-- Those who are there, in the order of the lots. -/
def thereL (lots : List Int) (g : Int → Bool) : List Int := lots.filter fun z => !g z
theorem there_mem {lots : List Int} {g : Int → Bool} {z : Int} : z ∈ thereL lots g ↔ z ∈ lots ∧ g z = false := by simp [thereL]
/-- The one with the greatest count, who comes first; the one with the least count, who comes last. -/
def mostQ (lots : List Int) (g : Int → Bool) (R : Int → Rat) : Int := topQ R ((thereL lots g)[0]?.getD (-1)) ((thereL lots g).drop 1)
def leastQ (lots : List Int) (g : Int → Bool) (R : Int → Rat) : Int := topQ (fun z => 0 - R z) ((thereL lots g).reverse[0]?.getD (-1)) ((thereL lots g).reverse.drop 1)
theorem topQ_list {R : Int → Rat} {l : List Int} (h : l ≠ []) : topQ R (l[0]?.getD (-1)) (l.drop 1) ∈ l ∧ ∀ i ∈ l, R i ≤ R (topQ R (l[0]?.getD (-1)) (l.drop 1)) := by
  match l, h with
  | b :: t, _ =>
    obtain ⟨h1, h2, h3⟩ := topQ_spec R t b
    simp only [List.getElem?_cons_zero, Option.getD_some, List.drop_succ_cons, List.drop_zero]
    refine ⟨?_, fun i hi => ?_⟩
    · rcases h1 with e | e
      · rw [e]; simp
      · simp [e]
    · rcases List.mem_cons.1 hi with e | e
      · rw [e]; exact h2
      · exact h3 i e
theorem most_spec {lots : List Int} {g : Int → Bool} (R : Int → Rat) (h : thereL lots g ≠ []) : mostQ lots g R ∈ thereL lots g ∧ ∀ i ∈ thereL lots g, R i ≤ R (mostQ lots g R) := topQ_list h
theorem least_spec {lots : List Int} {g : Int → Bool} (R : Int → Rat) (h : thereL lots g ≠ []) : leastQ lots g R ∈ thereL lots g ∧ ∀ i ∈ thereL lots g, R (leastQ lots g R) ≤ R i := by
  have h' : (thereL lots g).reverse ≠ [] := fun e => h (List.reverse_eq_nil_iff.1 e)
  obtain ⟨h1, h2⟩ := topQ_list (R := fun z => 0 - R z) h'
  refine ⟨List.mem_reverse.1 h1, fun i hi => ?_⟩
  have := h2 i (List.mem_reverse.2 hi)
  unfold leastQ
  grind
/-- One more is not there any more. -/
def goneP (g : Int → Bool) (w : Int) : Int → Bool := fun z => g z || decide (z = w)
theorem gone_at (g : Int → Bool) (w : Int) : goneP g w w = true := by simp [goneP]
theorem gone_not {g : Int → Bool} {w z : Int} (h : z ≠ w) : goneP g w z = g z := by simp [goneP, h]
theorem there_less {lots : List Int} {g : Int → Bool} {w : Int} (hn : lots.Nodup) (hw : w ∈ thereL lots g) : (thereL lots (goneP g w)).length + 1 = (thereL lots g).length := by
  induction lots with
  | nil => cases hw
  | cons a t ih =>
    rw [List.nodup_cons] at hn
    have e : ∀ h : Int → Bool, thereL (a :: t) h = if h a = true then thereL t h else a :: thereL t h := fun h => by
      unfold thereL
      rw [List.filter_cons]
      by_cases ha : h a = true
      · rw [if_pos ha, if_neg (by simp [ha])]
      · rw [if_neg ha, if_pos (by simpa using ha)]
    rw [e g] at hw ⊢
    rw [e (goneP g w)]
    by_cases haw : a = w
    · subst haw
      rw [if_pos (gone_at g a)]
      by_cases hga : g a = true
      · rw [if_pos hga] at hw
        exact absurd (there_mem.1 hw).1 hn.1
      · rw [if_neg hga]
        have : thereL t (goneP g a) = thereL t g := by
          unfold thereL
          apply List.filter_congr
          intro z hz
          rw [gone_not (fun e : z = a => hn.1 (by rw [← e]; exact hz))]
        rw [this, List.length_cons]
    · rw [gone_not haw]
      by_cases hga : g a = true
      · rw [if_pos hga] at hw
        rw [if_pos hga, if_pos hga]; exact ih hn.2 hw
      · rw [if_neg hga] at hw
        rw [if_neg hga, if_neg hga, List.length_cons, List.length_cons]
        have hwt : w ∈ thereL t g := by
          rcases List.mem_cons.1 hw with e2 | e2
          · exact absurd e2.symm haw
          · exact e2
        have := ih hn.2 hwt
        omega

/-- The steps: who, and what happens (1: a seat by the quota, 2: leaves, 3: a seat that is left). -/
def runT (lots : List Int) (q : Rat) : Nat → (Int → Bool) → List Bal → Nat → List (Int × Nat)
  | 0, _, _, _ => []
  | f + 1, g, B, s =>
    if s = 0 then []
    else if q ≤ cntR B g (mostQ lots g (cntR B g)) then (mostQ lots g (cntR B g), 1) :: runT lots q f (goneP g (mostQ lots g (cntR B g))) (weighR B g (mostQ lots g (cntR B g)) (cntR B g (mostQ lots g (cntR B g))) q) (s - 1)
    else if (thereL lots g).length ≤ s then (mostQ lots g (cntR B g), 3) :: runT lots q f (goneP g (mostQ lots g (cntR B g))) B (s - 1)
    else (leastQ lots g (cntR B g), 2) :: runT lots q f (goneP g (leastQ lots g (cntR B g))) B s
/-- Those who get seats. -/
def winT (l : List (Int × Nat)) : List Int := (l.filter fun p => !decide (p.2 = 2)).map fun p => p.1
theorem winT_cons (p : Int × Nat) (l : List (Int × Nat)) : winT (p :: l) = if p.2 = 2 then winT l else p.1 :: winT l := by
  unfold winT
  rw [List.filter_cons]
  by_cases h : p.2 = 2
  · simp [h]
  · simp [h]
/-- **All seats are given** (promise 73), and nobody comes twice. -/
theorem run_seats {lots : List Int} {q : Rat} (hn : lots.Nodup) : ∀ (f : Nat) (g : Int → Bool) (B : List Bal) (s : Nat), s ≤ (thereL lots g).length → (thereL lots g).length ≤ f → (winT (runT lots q f g B s)).length = s
  | 0, g, B, s, h1, h2 => by
    have : s = 0 := by omega
    subst this; rfl
  | f + 1, g, B, s, h1, h2 => by
    unfold runT
    by_cases hs : s = 0
    · rw [if_pos hs, hs]; rfl
    · rw [if_neg hs]
      have hne : thereL lots g ≠ [] := fun e => by rw [e] at h1; simp at h1; omega
      obtain ⟨hm, _⟩ := most_spec (cntR B g) hne
      obtain ⟨hl, _⟩ := least_spec (cntR B g) hne
      have l1 := there_less hn hm
      have l2 := there_less hn hl
      by_cases hq : q ≤ cntR B g (mostQ lots g (cntR B g))
      · rw [if_pos hq, winT_cons, if_neg (by simp), List.length_cons, run_seats hn f _ _ (s - 1) (by omega) (by omega)]; omega
      · rw [if_neg hq]
        by_cases hr : (thereL lots g).length ≤ s
        · rw [if_pos hr, winT_cons, if_neg (by simp), List.length_cons, run_seats hn f _ _ (s - 1) (by omega) (by omega)]; omega
        · rw [if_neg hr, winT_cons, if_pos rfl, run_seats hn f _ _ s (by omega) (by omega)]
theorem run_there {lots : List Int} {q : Rat} : ∀ (f : Nat) (g : Int → Bool) (B : List Bal) (s : Nat), s ≤ (thereL lots g).length → lots.Nodup → ∀ p ∈ runT lots q f g B s, p.1 ∈ thereL lots g
  | 0, _, _, _, _, _, p, hp => by cases hp
  | f + 1, g, B, s, h1, hn, p, hp => by
    unfold runT at hp
    by_cases hs : s = 0
    · rw [if_pos hs] at hp; cases hp
    · rw [if_neg hs] at hp
      have hne : thereL lots g ≠ [] := fun e => by rw [e] at h1; simp at h1; omega
      obtain ⟨hm, _⟩ := most_spec (cntR B g) hne
      obtain ⟨hl, _⟩ := least_spec (cntR B g) hne
      have l1 := there_less hn hm
      have l2 := there_less hn hl
      have hsub : ∀ w z, z ∈ thereL lots (goneP g w) → z ∈ thereL lots g := fun w z hz => by
        obtain ⟨a, b⟩ := there_mem.1 hz
        refine there_mem.2 ⟨a, ?_⟩
        unfold goneP at b
        simp at b
        exact b.1
      by_cases hq : q ≤ cntR B g (mostQ lots g (cntR B g))
      · rw [if_pos hq] at hp
        rcases List.mem_cons.1 hp with e | e
        · rw [e]; exact hm
        · exact hsub _ _ (run_there f _ _ _ (by omega) hn p e)
      · rw [if_neg hq] at hp
        by_cases hr : (thereL lots g).length ≤ s
        · rw [if_pos hr] at hp
          rcases List.mem_cons.1 hp with e | e
          · rw [e]; exact hm
          · exact hsub _ _ (run_there f _ _ _ (by omega) hn p e)
        · rw [if_neg hr] at hp
          rcases List.mem_cons.1 hp with e | e
          · rw [e]; exact hl
          · exact hsub _ _ (run_there f _ _ _ (by omega) hn p e)
/-- Where at most as many are there as seats, each of them gets one. -/
theorem rest_all {lots : List Int} {q : Rat} (hn : lots.Nodup) : ∀ (f : Nat) (g : Int → Bool) (B : List Bal) (s : Nat) (z : Int), (thereL lots g).length ≤ f → (thereL lots g).length ≤ s → z ∈ thereL lots g → z ∈ winT (runT lots q f g B s)
  | 0, g, B, s, z, h1, _, hz => by
    have : thereL lots g = [] := List.length_eq_zero_iff.1 (by omega)
    rw [this] at hz; cases hz
  | f + 1, g, B, s, z, h1, h2, hz => by
    have hne : thereL lots g ≠ [] := fun e => by rw [e] at hz; cases hz
    have hp : 0 < (thereL lots g).length := List.length_pos_of_mem hz
    obtain ⟨hm, _⟩ := most_spec (cntR B g) hne
    have l1 := there_less hn hm
    unfold runT
    rw [if_neg (by omega)]
    have hrec : ∀ (B' : List Bal), z ≠ mostQ lots g (cntR B g) → z ∈ winT (runT lots q f (goneP g (mostQ lots g (cntR B g))) B' (s - 1)) := fun B' hzw =>
      rest_all hn f _ B' (s - 1) z (by omega) (by omega) (there_mem.2 ⟨(there_mem.1 hz).1, by rw [gone_not hzw]; exact (there_mem.1 hz).2⟩)
    by_cases hq : q ≤ cntR B g (mostQ lots g (cntR B g))
    · rw [if_pos hq, winT_cons, if_neg (by simp)]
      by_cases hzw : z = mostQ lots g (cntR B g)
      · rw [hzw]; simp
      · exact List.mem_cons_of_mem _ (hrec _ hzw)
    · rw [if_neg hq, if_pos h2, winT_cons, if_neg (by simp)]
      by_cases hzw : z = mostQ lots g (cntR B g)
      · rw [hzw]; simp
      · exact List.mem_cons_of_mem _ (hrec _ hzw)

/-- A ballot of a pair: both come first on it. -/
def pairB (x y : Int) (b : List Int) : Bool := match b with
  | u :: v :: _ => (decide (u = x) && decide (v = y)) || (decide (u = y) && decide (v = x))
  | _ => false
theorem pair_first {x y : Int} {b : List Int} {g : Int → Bool} (h : pairB x y b = true) : (g x = false ∧ g y = true → fstC b g = x) ∧ (g y = false ∧ g x = true → fstC b g = y) ∧ (g x = false ∨ g y = false → fstC b g = x ∨ fstC b g = y) := by
  match b, h with
  | u :: v :: t, h =>
    unfold pairB at h
    simp at h
    unfold fstC
    unfold fstC
    rcases h with ⟨rfl, rfl⟩ | ⟨rfl, rfl⟩
    · refine ⟨fun ⟨a, b⟩ => by rw [if_neg (by simp [a])], fun ⟨a, b⟩ => by rw [if_pos b, if_neg (by simp [a])], fun h => ?_⟩
      by_cases a : g u = true
      · rw [if_pos a]
        have : g v = false := by rcases h with e | e; · rw [a] at e; cases e
                                 · exact e
        rw [if_neg (by simp [this])]; exact .inr rfl
      · rw [if_neg a]; exact .inl rfl
    · refine ⟨fun ⟨a, b⟩ => by rw [if_pos b, if_neg (by simp [a])], fun ⟨a, b⟩ => by rw [if_neg (by simp [a])], fun h => ?_⟩
      by_cases a : g u = true
      · rw [if_pos a]
        have : g v = false := by rcases h with e | e; · exact e
                                 · rw [a] at e; cases e
        rw [if_neg (by simp [this])]; exact .inl rfl
      · rw [if_neg a]; exact .inr rfl
/-- What the pair's ballots are worth. -/
def pairR (B : List Bal) (x y : Int) : Rat := sumR (B.map fun b => if pairB x y b.1 = true then b.2 else 0)
theorem pair_le_all {B : List Bal} (h : ValR B) (x y : Int) : pairR B x y ≤ allR B := sumR_le B _ _ (fun b hb => by
  have := h b hb
  split
  · exact Rat.le_refl
  · exact this)
theorem pair_le_cnt {B : List Bal} (h : ValR B) {x y z : Int} {g : Int → Bool} (hz : ∀ b, pairB x y b = true → fstC b g = z) : pairR B x y ≤ cntR B g z := sumR_le B _ _ (fun b hb => by
  have := h b hb
  by_cases e : pairB x y b.1 = true
  · rw [if_pos e, if_pos (hz b.1 e)]; exact Rat.le_refl
  · rw [if_neg e]
    split
    · exact this
    · exact Rat.le_refl)
theorem pair_weigh {B : List Bal} {x y w : Int} {g : Int → Bool} {c q : Rat} (h : g x = false ∨ g y = false) (hwx : w ≠ x) (hwy : w ≠ y) : pairR (weighR B g w c q) x y = pairR B x y := by
  unfold pairR weighR
  rw [List.map_map]
  refine sumR_congr B _ _ (fun b _ => ?_)
  show (if pairB x y (if fstC b.1 g = w then (b.1, b.2 * ((c - q) / c)) else b).1 = true then (if fstC b.1 g = w then (b.1, b.2 * ((c - q) / c)) else b).2 else 0) = _
  by_cases e : fstC b.1 g = w
  · rw [if_pos e]
    by_cases p : pairB x y b.1 = true
    · exfalso
      rcases (pair_first (g := g) p).2.2 h with k | k
      · exact hwx (by rw [← e, k])
      · exact hwy (by rw [← e, k])
    · rw [if_neg p, if_neg p]
  · rw [if_neg e]
/-- **A solid group gets a seat** (promise 81). -/
theorem solid {lots : List Int} {q : Rat} (hn : lots.Nodup) (hq : 0 < q) {x y : Int} (hx : x ∈ lots) (hy : y ∈ lots) : ∀ (f : Nat) (g : Int → Bool) (B : List Bal) (s : Nat), (thereL lots g).length ≤ f → ValR B → q ≤ pairR B x y →
    allR B < ((s : Rat) + 1) * q → (g x = false ∨ g y = false) → x ∈ winT (runT lots q f g B s) ∨ y ∈ winT (runT lots q f g B s)
  | 0, g, B, s, h1, _, _, _, hg => by
    have : thereL lots g = [] := List.length_eq_zero_iff.1 (by omega)
    rcases hg with e | e
    · have : x ∈ thereL lots g := there_mem.2 ⟨hx, e⟩
      rw [‹thereL lots g = []›] at this; cases this
    · have : y ∈ thereL lots g := there_mem.2 ⟨hy, e⟩
      rw [‹thereL lots g = []›] at this; cases this
  | f + 1, g, B, s, h1, hV, hP, hA, hg => by
    have hPA := pair_le_all hV x y
    have hs : s ≠ 0 := fun e => by
      subst e
      have : ((0 : Nat) : Rat) = 0 := rfl
      rw [this] at hA
      grind
    have hz : ∃ z, z ∈ thereL lots g := by
      rcases hg with e | e
      · exact ⟨x, there_mem.2 ⟨hx, e⟩⟩
      · exact ⟨y, there_mem.2 ⟨hy, e⟩⟩
    obtain ⟨z0, hz0⟩ := hz
    have hne : thereL lots g ≠ [] := fun e => by rw [e] at hz0; cases hz0
    obtain ⟨hm, hmax⟩ := most_spec (cntR B g) hne
    obtain ⟨hl, _⟩ := least_spec (cntR B g) hne
    have l1 := there_less hn hm
    have l2 := there_less hn hl
    unfold runT
    rw [if_neg hs]
    by_cases hqc : q ≤ cntR B g (mostQ lots g (cntR B g))
    · rw [if_pos hqc, winT_cons, if_neg (by simp)]
      by_cases hwx : mostQ lots g (cntR B g) = x
      · left; rw [hwx]; simp
      · by_cases hwy : mostQ lots g (cntR B g) = y
        · right; rw [hwy]; simp
        · have hs1 : ((s - 1 : Nat) : Rat) + 1 = (s : Rat) := by
            obtain ⟨k, rfl⟩ : ∃ k, s = k + 1 := ⟨s - 1, by omega⟩
            rw [Nat.add_sub_cancel]
            exact (Rat.natCast_add k 1).symm
          have := solid hn hq hx hy f (goneP g (mostQ lots g (cntR B g))) (weighR B g (mostQ lots g (cntR B g)) (cntR B g (mostQ lots g (cntR B g))) q) (s - 1) (by omega) (weigh_val hq hqc hV)
            (by rw [pair_weigh hg hwx hwy]; exact hP) (by rw [weigh_all hq hqc, hs1]; grind)
            (by rw [gone_not (Ne.symm hwx), gone_not (Ne.symm hwy)]; exact hg)
          rcases this with e | e
          · exact .inl (List.mem_cons_of_mem _ e)
          · exact .inr (List.mem_cons_of_mem _ e)
    · rw [if_neg hqc]
      by_cases hr : (thereL lots g).length ≤ s
      · have hall := fun z hz => rest_all (q := q) hn (f + 1) g B s z h1 hr hz
        unfold runT at hall
        simp only [if_neg hs, if_neg hqc, if_pos hr] at hall
        rw [if_pos hr]
        rcases hg with e | e
        · exact .inl (hall x (there_mem.2 ⟨hx, e⟩))
        · exact .inr (hall y (there_mem.2 ⟨hy, e⟩))
      · rw [if_neg hr, winT_cons, if_pos rfl]
        have hboth : g x = false ∧ g y = false := by
          cases ex : g x <;> cases ey : g y
          · exact ⟨rfl, rfl⟩
          · exfalso
            have h2 := pair_le_cnt hV (g := g) (z := x) (x := x) (y := y) (fun b hb => (pair_first hb).1 ⟨ex, ey⟩)
            have h3 := hmax x (there_mem.2 ⟨hx, ex⟩)
            grind
          · exfalso
            have h2 := pair_le_cnt hV (g := g) (z := y) (x := x) (y := y) (fun b hb => (pair_first hb).2.1 ⟨ey, ex⟩)
            have h3 := hmax y (there_mem.2 ⟨hy, ey⟩)
            grind
          · rw [ex, ey] at hg; rcases hg with e | e <;> cases e
        have hg' : goneP g (leastQ lots g (cntR B g)) x = false ∨ goneP g (leastQ lots g (cntR B g)) y = false := by
          by_cases hxy : x = y
          · subst hxy
            exfalso
            -- a ballot names nobody twice: here the pair is one candidate, and his count is the pair's worth
            have h2 := pair_le_cnt hV (g := g) (z := x) (x := x) (y := x) (fun b hb => by
              rcases (pair_first hb).2.2 (.inl hboth.1) with e | e <;> exact e)
            have h3 := hmax x (there_mem.2 ⟨hx, hboth.1⟩)
            grind
          · by_cases e : x = leastQ lots g (cntR B g)
            · right
              rw [gone_not (fun e2 => hxy (e.trans e2.symm))]; exact hboth.2
            · left; rw [gone_not e]; exact hboth.1
        exact solid hn hq hx hy f _ B s (by omega) hV hP hA hg'

end Go.Proofs.Ytafnmongglhlaaa

namespace Go.Proofs.Ytafnmongglhlaaa

theorem sumR_add {α : Type} : ∀ (l : List α) (F G : α → Rat), sumR (l.map fun z => F z + G z) = sumR (l.map F) + sumR (l.map G)
  | [], _, _ => by simp [sumR]; grind
  | b :: t, F, G => by
    simp only [List.map_cons, sumR_cons]
    rw [sumR_add t F G]; grind
theorem sumR_zero {α : Type} : ∀ (l : List α), sumR (l.map fun _ => (0 : Rat)) = 0
  | [] => rfl
  | _ :: t => by
    simp only [List.map_cons, sumR_cons]
    rw [sumR_zero t]; grind
theorem sumR_perm {α : Type} {l m : List α} (F : α → Rat) (h : l.Perm m) : sumR (l.map F) = sumR (m.map F) := by
  induction h with
  | nil => rfl
  | cons a _ ih => simp only [List.map_cons, sumR_cons]; rw [ih]
  | swap a b t => simp only [List.map_cons, sumR_cons]; grind
  | trans _ _ h1 h2 => rw [h1, h2]
/-- One number at one place of a list without repetition. -/
theorem sumR_one {z : Int} {x : Rat} : ∀ (K : List Int), K.Nodup → sumR (K.map fun k => if z = k then x else 0) = if z ∈ K then x else 0
  | [], _ => by simp [sumR]
  | a :: t, h => by
    rw [List.nodup_cons] at h
    simp only [List.map_cons, sumR_cons]
    rw [sumR_one t h.2]
    by_cases e : z = a
    · subst e
      rw [if_pos rfl, if_neg h.1, if_pos (by simp)]; grind
    · rw [if_neg e]
      by_cases m : z ∈ t
      · rw [if_pos m, if_pos (by simp [m])]; grind
      · rw [if_neg m, if_neg (by simp [m, e])]; grind
/-- What all ballots are worth that count for somebody of a list. -/
def liveR (B : List Bal) (K : List Int) (g : Int → Bool) : Rat := sumR (B.map fun b => if fstC b.1 g ∈ K then b.2 else 0)
/-- The sum of all counts. -/
theorem sum_cnt {K : List Int} (hK : K.Nodup) (g : Int → Bool) : ∀ (B : List Bal), sumR (K.map fun k => cntR B g k) = liveR B K g
  | [] => sumR_zero K
  | b :: t => by
    have ih := sum_cnt hK g t
    have e : (fun k => cntR (b :: t) g k) = fun k => (if fstC b.1 g = k then b.2 else 0) + cntR t g k := rfl
    rw [e, sumR_add, ih, sumR_one K hK]; rfl
/-- Ballots name candidates of a list alone. -/
def Names (B : List Bal) (K : List Int) : Prop := ∀ b ∈ B, ∀ z ∈ b.1, z ∈ K
theorem fst_there : ∀ (b : List Int) (g : Int → Bool), (∃ z ∈ b, g z = false) → fstC b g ∈ b
  | [], _, h => by obtain ⟨z, hz, _⟩ := h; cases hz
  | a :: t, g, h => by
    unfold fstC
    by_cases e : g a = true
    · rw [if_pos e]
      obtain ⟨z, hz, hg⟩ := h
      rcases List.mem_cons.1 hz with rfl | hz
      · rw [e] at hg; cases hg
      · exact List.mem_cons_of_mem _ (fst_there t g ⟨z, hz, hg⟩)
    · rw [if_neg e]; simp
theorem fst_gone {b : List Int} {g : Int → Bool} {w : Int} {K : List Int} (hb : ∀ z ∈ b, z ∈ K) (h1 : (-1 : Int) ∉ K) (h : fstC b (goneP g w) ∈ K) : fstC b g ∈ K := by
  rcases fstC_cases b (goneP g w) with e | ⟨e1, e2⟩
  · rw [e] at h; exact absurd h h1
  · refine hb _ (fst_there b g ⟨_, e1, ?_⟩)
    unfold goneP at e2
    simp at e2
    exact e2.1
theorem live_gone {B : List Bal} {K : List Int} {g : Int → Bool} (w : Int) (hV : ValR B) (hN : Names B K) (h1 : (-1 : Int) ∉ K) : liveR B K (goneP g w) ≤ liveR B K g := sumR_le B _ _ (fun b hb => by
  have := hV b hb
  by_cases e : fstC b.1 (goneP g w) ∈ K
  · rw [if_pos e, if_pos (fst_gone (hN b hb) h1 e)]; exact Rat.le_refl
  · rw [if_neg e]
    split
    · exact this
    · exact Rat.le_refl)
theorem weigh_names {B : List Bal} {K : List Int} {g : Int → Bool} {w : Int} {c q : Rat} (hN : Names B K) : Names (weighR B g w c q) K := by
  intro b hb
  obtain ⟨a, ha, rfl⟩ := List.mem_map.1 hb
  by_cases e : fstC a.1 g = w
  · rw [if_pos e]; exact hN a ha
  · rw [if_neg e]; exact hN a ha
theorem live_split {K : List Int} {w : Int} (hw : w ∈ K) (g : Int → Bool) (c q : Rat) : ∀ (B : List Bal), liveR (weighR B g w c q) K g = liveR B K g - cntR B g w + cntR B g w * ((c - q) / c)
  | [] => by simp [liveR, weighR, cntR, sumR]; grind
  | b :: t => by
    have ih := live_split hw g c q t
    unfold liveR weighR cntR at *
    simp only [List.map_cons, sumR_cons]
    by_cases e : fstC b.1 g = w
    · simp only [e, if_pos hw]; rw [if_pos trivial, ih]; grind
    · simp only [if_neg e]; rw [ih]; grind
/-- Behind a seat by the quota the sum is smaller by the quota, or by more. -/
theorem live_seat {B : List Bal} {K : List Int} {g : Int → Bool} {w : Int} {q : Rat} (hV : ValR B) (hN : Names B K) (h1 : (-1 : Int) ∉ K) (hw : w ∈ K) (hq : 0 < q) (hc : q ≤ cntR B g w) :
    liveR (weighR B g w (cntR B g w) q) K (goneP g w) ≤ liveR B K g - q := by
  have h := live_gone (g := g) w (weigh_val (g := g) (w := w) hq hc hV) (weigh_names (g := g) (w := w) (c := cntR B g w) (q := q) hN) h1
  rw [live_split hw] at h
  obtain ⟨c, hce⟩ : ∃ c, cntR B g w = c := ⟨_, rfl⟩
  rw [hce] at hc h ⊢
  have h0 : c ≠ 0 := by grind
  have e : c * ((c - q) / c) = c - q := by grind
  rw [e] at h; grind

/-- Who, and what happens: 1 a seat by the quota, 2 leaves, 3 a seat that is left. -/
def kindT (lots : List Int) (q : Rat) (g : Int → Bool) (B : List Bal) (s : Nat) : Nat := if q ≤ cntR B g (mostQ lots g (cntR B g)) then 1 else if (thereL lots g).length ≤ s then 3 else 2
def whoT (lots : List Int) (q : Rat) (g : Int → Bool) (B : List Bal) (s : Nat) : Int := if kindT lots q g B s = 2 then leastQ lots g (cntR B g) else mostQ lots g (cntR B g)
def nextB (lots : List Int) (q : Rat) (g : Int → Bool) (B : List Bal) (s : Nat) : List Bal := if kindT lots q g B s = 1 then weighR B g (whoT lots q g B s) (cntR B g (whoT lots q g B s)) q else B
def nextG (lots : List Int) (q : Rat) (g : Int → Bool) (B : List Bal) (s : Nat) : Int → Bool := goneP g (whoT lots q g B s)
def nextS (lots : List Int) (q : Rat) (g : Int → Bool) (B : List Bal) (s : Nat) : Nat := if kindT lots q g B s = 2 then s else s - 1
theorem kind_cases (lots : List Int) (q : Rat) (g : Int → Bool) (B : List Bal) (s : Nat) : kindT lots q g B s = 1 ∨ kindT lots q g B s = 2 ∨ kindT lots q g B s = 3 := by
  unfold kindT
  split
  · simp
  · split <;> simp
theorem runT_step (lots : List Int) (q : Rat) (f : Nat) (g : Int → Bool) (B : List Bal) (s : Nat) :
    runT lots q (f + 1) g B s = if s = 0 then [] else (whoT lots q g B s, kindT lots q g B s) :: runT lots q f (nextG lots q g B s) (nextB lots q g B s) (nextS lots q g B s) := by
  conv => lhs; unfold runT
  by_cases hs : s = 0
  · rw [if_pos hs, if_pos hs]
  · rw [if_neg hs, if_neg hs]
    by_cases hq : q ≤ cntR B g (mostQ lots g (cntR B g))
    · have hk : kindT lots q g B s = 1 := by unfold kindT; rw [if_pos hq]
      have hw : whoT lots q g B s = mostQ lots g (cntR B g) := by unfold whoT; rw [hk, if_neg (by omega)]
      rw [if_pos hq]; unfold nextG nextB nextS; rw [hk, hw, if_pos rfl, if_neg (by omega)]
    · rw [if_neg hq]
      by_cases hr : (thereL lots g).length ≤ s
      · have hk : kindT lots q g B s = 3 := by unfold kindT; rw [if_neg hq, if_pos hr]
        have hw : whoT lots q g B s = mostQ lots g (cntR B g) := by unfold whoT; rw [hk, if_neg (by omega)]
        rw [if_pos hr]; unfold nextG nextB nextS; rw [hk, hw, if_neg (by omega), if_neg (by omega)]
      · have hk : kindT lots q g B s = 2 := by unfold kindT; rw [if_neg hq, if_neg hr]
        have hw : whoT lots q g B s = leastQ lots g (cntR B g) := by unfold whoT; rw [hk, if_pos rfl]
        rw [if_neg hr]; unfold nextG nextB nextS; rw [hk, hw, if_neg (by omega), if_pos rfl]
theorem who_there {lots : List Int} {q : Rat} {g : Int → Bool} {B : List Bal} {s : Nat} (h : thereL lots g ≠ []) : whoT lots q g B s ∈ thereL lots g := by
  unfold whoT
  split
  · exact (least_spec (cntR B g) h).1
  · exact (most_spec (cntR B g) h).1
/-- **Who has the quota gets a seat** (promise 75): a seat by the quota is one whose count reaches it; a seat goes to the greatest count; who leaves, leaves where nobody reaches it. -/
theorem kind_quota {lots : List Int} {q : Rat} {g : Int → Bool} {B : List Bal} {s : Nat} (h : thereL lots g ≠ []) : kindT lots q g B s = 1 ↔ q ≤ cntR B g (whoT lots q g B s) := by
  constructor
  · intro hk
    have hw : whoT lots q g B s = mostQ lots g (cntR B g) := by unfold whoT; rw [hk, if_neg (by omega)]
    rw [hw]
    unfold kindT at hk
    by_cases hq : q ≤ cntR B g (mostQ lots g (cntR B g))
    · exact hq
    · rw [if_neg hq] at hk; split at hk <;> omega
  · intro hc
    have hm := (most_spec (cntR B g) h).2 _ (who_there (q := q) (B := B) (s := s) h)
    unfold kindT
    rw [if_pos (by grind)]
theorem seat_most {lots : List Int} {q : Rat} {g : Int → Bool} {B : List Bal} {s : Nat} (h : thereL lots g ≠ []) (hk : kindT lots q g B s ≠ 2) : ∀ i ∈ thereL lots g, cntR B g i ≤ cntR B g (whoT lots q g B s) := by
  have hw : whoT lots q g B s = mostQ lots g (cntR B g) := by unfold whoT; rw [if_neg hk]
  rw [hw]; exact (most_spec (cntR B g) h).2
theorem out_all {lots : List Int} {q : Rat} {g : Int → Bool} {B : List Bal} {s : Nat} (h : thereL lots g ≠ []) (hk : kindT lots q g B s = 2) : ∀ i ∈ thereL lots g, cntR B g i < q := by
  intro i hi
  have hm := (most_spec (cntR B g) h).2 i hi
  unfold kindT at hk
  by_cases hq : q ≤ cntR B g (mostQ lots g (cntR B g))
  · rw [if_pos hq] at hk; omega
  · grind
/-- **Who has least leaves** (promise 76); who is gone counts nothing. -/
theorem out_least {lots : List Int} {q : Rat} {g : Int → Bool} {B : List Bal} {s : Nat} (h : thereL lots g ≠ []) (hk : kindT lots q g B s = 2) : ∀ i ∈ thereL lots g, cntR B g (whoT lots q g B s) ≤ cntR B g i := by
  have hw : whoT lots q g B s = leastQ lots g (cntR B g) := by unfold whoT; rw [if_pos hk]
  rw [hw]; exact (least_spec (cntR B g) h).2
theorem cnt_gone {g : Int → Bool} {k : Int} (hk : g k = true) (h1 : k ≠ -1) (B : List Bal) : cntR B g k = 0 := by
  unfold cntR
  rw [sumR_congr B _ (fun _ => 0) (fun b _ => ?_), sumR_zero]
  by_cases e : fstC b.1 g = k
  · exfalso
    rcases fstC_cases b.1 g with e2 | ⟨_, e2⟩
    · exact h1 (e.symm.trans e2)
    · rw [e, hk] at e2; cases e2
  · rw [if_neg e]
theorem cnt_out {g : Int → Bool} {k : Int} {K : List Int} {B : List Bal} (hN : Names B K) (hk : k ∉ K) (h1 : k ≠ -1) : cntR B g k = 0 := by
  unfold cntR
  rw [sumR_congr B _ (fun _ => 0) (fun b hb => ?_), sumR_zero]
  by_cases e : fstC b.1 g = k
  · exfalso
    rcases fstC_cases b.1 g with e2 | ⟨e2, _⟩
    · exact h1 (e.symm.trans e2)
    · rw [e] at e2; exact hk (hN b hb k e2)
  · rw [if_neg e]
/-- **Seats that are left go to who is left** (promise 77). -/
theorem rest_kind {lots : List Int} {q : Rat} {g : Int → Bool} {B : List Bal} {s : Nat} : (kindT lots q g B s = 3 → (thereL lots g).length ≤ s) ∧ (kindT lots q g B s = 2 → s < (thereL lots g).length) := by
  unfold kindT
  by_cases hq : q ≤ cntR B g (mostQ lots g (cntR B g))
  · rw [if_pos hq]; simp
  · rw [if_neg hq]
    by_cases hr : (thereL lots g).length ≤ s
    · rw [if_pos hr]; simp [hr]
    · rw [if_neg hr]; simp; omega
theorem next_fits {lots : List Int} {q : Rat} {g : Int → Bool} {B : List Bal} {s : Nat} (hn : lots.Nodup) (hs : s ≠ 0) (h : s ≤ (thereL lots g).length) : nextS lots q g B s ≤ (thereL lots (nextG lots q g B s)).length ∧ (thereL lots (nextG lots q g B s)).length + 1 = (thereL lots g).length := by
  have hne : thereL lots g ≠ [] := fun e => by rw [e] at h; simp at h; omega
  have l1 := there_less hn (who_there (q := q) (B := B) (s := s) hne)
  have h2 := (rest_kind (lots := lots) (q := q) (g := g) (B := B) (s := s)).2
  unfold nextS nextG
  by_cases hk : kindT lots q g B s = 2
  · rw [if_pos hk]; have := h2 hk; omega
  · rw [if_neg hk]; omega
theorem next_val {lots : List Int} {q : Rat} {g : Int → Bool} {B : List Bal} {s : Nat} (hq : 0 < q) (hne : thereL lots g ≠ []) (hV : ValR B) : ValR (nextB lots q g B s) := by
  unfold nextB
  split
  · exact weigh_val hq ((kind_quota hne).1 (by assumption)) hV
  · exact hV
theorem next_names {lots K : List Int} {q : Rat} {g : Int → Bool} {B : List Bal} {s : Nat} (hN : Names B K) : Names (nextB lots q g B s) K := by
  unfold nextB
  split
  · exact weigh_names hN
  · exact hN
/-- **Ballots do not grow** (promise 74): from step to step the sum of all counts does not grow, and a seat by the quota takes the quota away. -/
theorem step_sum {lots K : List Int} {q : Rat} {g : Int → Bool} {B : List Bal} {s : Nat} (hq : 0 < q) (hne : thereL lots g ≠ []) (hV : ValR B) (hN : Names B K) (h1 : (-1 : Int) ∉ K) (hK : ∀ z ∈ lots, z ∈ K) :
    liveR (nextB lots q g B s) K (nextG lots q g B s) ≤ liveR B K g - (if kindT lots q g B s = 1 then q else 0) := by
  unfold nextB nextG
  by_cases hk : kindT lots q g B s = 1
  · rw [if_pos hk, if_pos hk]
    exact live_seat hV hN h1 (hK _ (there_mem.1 (who_there hne)).1) hq ((kind_quota hne).1 hk)
  · rw [if_neg hk, if_neg hk]
    have := live_gone (g := g) (whoT lots q g B s) hV hN h1
    grind
theorem live_first {B : List Bal} {K : List Int} (g : Int → Bool) (hV : ValR B) : liveR B K g ≤ allR B := sumR_le B _ _ (fun b hb => by
  have := hV b hb
  split
  · exact Rat.le_refl
  · exact this)
/-- **A single seat** (promise 78): who has the quota, and more than each other one, has it at once. -/
theorem one_seat {lots : List Int} {q : Rat} {g : Int → Bool} {B : List Bal} {i : Int} (f : Nat) (hi : i ∈ thereL lots g) (hq : q ≤ cntR B g i) (ho : ∀ z ∈ thereL lots g, z ≠ i → cntR B g z < cntR B g i) : winT (runT lots q (f + 1) g B 1) = [i] := by
  have hne : thereL lots g ≠ [] := fun e => by rw [e] at hi; cases hi
  obtain ⟨hm, hmax⟩ := most_spec (cntR B g) hne
  have hw : mostQ lots g (cntR B g) = i := by
    by_cases e : mostQ lots g (cntR B g) = i
    · exact e
    · have := ho _ hm e
      have := hmax i hi
      grind
  rw [runT_step, if_neg (by omega), winT_cons]
  have hk : kindT lots q g B 1 = 1 := by unfold kindT; rw [hw, if_pos hq]
  have hww : whoT lots q g B 1 = i := by unfold whoT; rw [hk, if_neg (by omega), hw]
  have hns : nextS lots q g B 1 = 0 := by unfold nextS; rw [hk, if_neg (by omega)]
  rw [hk, hww, hns, if_neg (by simp)]
  cases f with
  | zero => rfl
  | succ f => rw [runT_step, if_pos rfl]; rfl

/-- Ballots in another order. -/
theorem cnt_perm {B C : List Bal} (h : B.Perm C) (g : Int → Bool) : cntR B g = cntR C g := funext fun _ => sumR_perm _ h
theorem weigh_perm {B C : List Bal} (h : B.Perm C) (g : Int → Bool) (w : Int) (c q : Rat) : (weighR B g w c q).Perm (weighR C g w c q) := h.map _
theorem runT_perm {lots : List Int} {q : Rat} : ∀ (f : Nat) (g : Int → Bool) (B C : List Bal) (s : Nat), B.Perm C → runT lots q f g B s = runT lots q f g C s
  | 0, _, _, _, _, _ => rfl
  | f + 1, g, B, C, s, h => by
    have e := cnt_perm h g
    have hk : kindT lots q g B s = kindT lots q g C s := by unfold kindT; rw [e]
    have hw : whoT lots q g B s = whoT lots q g C s := by unfold whoT; rw [hk, e]
    have hb : (nextB lots q g B s).Perm (nextB lots q g C s) := by
      unfold nextB
      rw [hk, hw, e]
      split
      · exact weigh_perm h _ _ _ _
      · exact h
    have hg : nextG lots q g B s = nextG lots q g C s := by unfold nextG; rw [hw]
    have hs : nextS lots q g B s = nextS lots q g C s := by unfold nextS; rw [hk]
    rw [runT_step, runT_step, hk, hw, hg, hs, runT_perm f _ _ _ _ hb]
/-- Candidates renamed: an exchange that leaves -1. -/
structure Ren (p : Int → Int) : Prop where
  back : ∀ z, p (p z) = z
  none : p (-1) = -1
def turnR (p : Int → Int) (B : List Bal) : List Bal := B.map fun b => (b.1.map p, b.2)
theorem Ren.inj {p : Int → Int} (h : Ren p) {a b : Int} (e : p a = p b) : a = b := by rw [← h.back a, e, h.back]
theorem fst_turn {p : Int → Int} (h : Ren p) (g : Int → Bool) : ∀ (b : List Int), fstC (b.map p) (fun z => g (p z)) = p (fstC b g)
  | [] => h.none.symm
  | a :: t => by
    rw [List.map_cons]
    unfold fstC
    simp only [h.back]
    by_cases e : g a = true
    · rw [if_pos e, if_pos e]; exact fst_turn h g t
    · rw [if_neg e, if_neg e]
theorem cntR_turn {p : Int → Int} (h : Ren p) (g : Int → Bool) (B : List Bal) (k : Int) : cntR (turnR p B) (fun z => g (p z)) (p k) = cntR B g k := by
  unfold cntR turnR
  rw [List.map_map]
  refine sumR_congr B _ _ (fun b _ => ?_)
  show (if fstC (b.1.map p) (fun z => g (p z)) = p k then b.2 else 0) = _
  rw [fst_turn h]
  by_cases e : fstC b.1 g = k
  · rw [if_pos e, if_pos (by rw [e])]
  · rw [if_neg e, if_neg (fun e2 => e (h.inj e2))]
theorem cntR_turn' {p : Int → Int} (h : Ren p) (g : Int → Bool) (B : List Bal) : cntR (turnR p B) (fun z => g (p z)) = fun k => cntR B g (p k) := by
  funext k
  rw [← cntR_turn h g B (p k), h.back]
theorem weigh_turn {p : Int → Int} (h : Ren p) (g : Int → Bool) (B : List Bal) (w : Int) (c q : Rat) : weighR (turnR p B) (fun z => g (p z)) (p w) c q = turnR p (weighR B g w c q) := by
  unfold weighR turnR
  rw [List.map_map, List.map_map]
  refine List.map_congr_left (fun b _ => ?_)
  show (if fstC (b.1.map p) (fun z => g (p z)) = p w then ((b.1.map p), b.2 * ((c - q) / c)) else (b.1.map p, b.2)) = _
  rw [fst_turn h]
  show _ = ((if fstC b.1 g = w then (b.1, b.2 * ((c - q) / c)) else b).1.map p, (if fstC b.1 g = w then (b.1, b.2 * ((c - q) / c)) else b).2)
  by_cases e : fstC b.1 g = w
  · rw [if_pos e, if_pos (by rw [e])]
  · rw [if_neg e, if_neg (fun e2 => e (h.inj e2))]
theorem there_turn {p : Int → Int} (h : Ren p) (g : Int → Bool) : ∀ (lots : List Int), thereL (lots.map p) (fun z => g (p z)) = (thereL lots g).map p
  | [] => rfl
  | a :: t => by
    have ih := there_turn h g t
    unfold thereL at *
    rw [List.map_cons, List.filter_cons, List.filter_cons]
    simp only [h.back]
    by_cases e : (!g a) = true
    · rw [if_pos e, if_pos e, List.map_cons, ih]
    · rw [if_neg e, if_neg e, ih]
theorem topQ_turn {p : Int → Int} (h : Ren p) (R : Int → Rat) : ∀ (t : List Int) (b : Int), topQ (fun k => R (p k)) (p b) (t.map p) = p (topQ R b t)
  | [], _ => rfl
  | k :: t, b => by
    rw [List.map_cons]
    unfold topQ
    simp only [h.back]
    by_cases e : R b < R k
    · rw [if_pos e, if_pos e]; exact topQ_turn h R t k
    · rw [if_neg e, if_neg e]; exact topQ_turn h R t b
theorem head_turn {p : Int → Int} (h : Ren p) (l : List Int) : (l.map p)[0]?.getD (-1) = p (l[0]?.getD (-1)) := by
  cases l with
  | nil => exact h.none.symm
  | cons a t => rfl
theorem most_turn {p : Int → Int} (h : Ren p) (lots : List Int) (g : Int → Bool) (R : Int → Rat) : mostQ (lots.map p) (fun z => g (p z)) (fun k => R (p k)) = p (mostQ lots g R) := by
  unfold mostQ
  rw [there_turn h, head_turn h, ← List.map_drop, topQ_turn h]
theorem least_turn {p : Int → Int} (h : Ren p) (lots : List Int) (g : Int → Bool) (R : Int → Rat) : leastQ (lots.map p) (fun z => g (p z)) (fun k => R (p k)) = p (leastQ lots g R) := by
  unfold leastQ
  rw [there_turn h, ← List.map_reverse, head_turn h, ← List.map_drop]
  exact topQ_turn h (fun z => 0 - R z) _ _
theorem gone_turn {p : Int → Int} (h : Ren p) (g : Int → Bool) (w : Int) : goneP (fun z => g (p z)) (p w) = fun z => goneP g w (p z) := by
  funext z
  unfold goneP
  by_cases e : p z = w
  · have : z = p w := by rw [← e, h.back]
    simp only [this, h.back, decide_true, Bool.or_true]
  · have : z ≠ p w := fun e2 => e (by rw [e2, h.back])
    rw [decide_eq_false this, decide_eq_false e]
/-- **Candidates are treated alike** (promise 80). -/
theorem runT_turn {p : Int → Int} (h : Ren p) {lots : List Int} {q : Rat} : ∀ (f : Nat) (g : Int → Bool) (B : List Bal) (s : Nat), runT (lots.map p) q f (fun z => g (p z)) (turnR p B) s = (runT lots q f g B s).map fun x => (p x.1, x.2)
  | 0, _, _, _ => rfl
  | f + 1, g, B, s => by
    have hm : mostQ (lots.map p) (fun z => g (p z)) (cntR (turnR p B) (fun z => g (p z))) = p (mostQ lots g (cntR B g)) := by rw [cntR_turn' h]; exact most_turn h lots g (cntR B g)
    have hl : leastQ (lots.map p) (fun z => g (p z)) (cntR (turnR p B) (fun z => g (p z))) = p (leastQ lots g (cntR B g)) := by rw [cntR_turn' h]; exact least_turn h lots g (cntR B g)
    have hk : kindT (lots.map p) q (fun z => g (p z)) (turnR p B) s = kindT lots q g B s := by
      unfold kindT; rw [hm, cntR_turn h, there_turn h, List.length_map]
    have hw : whoT (lots.map p) q (fun z => g (p z)) (turnR p B) s = p (whoT lots q g B s) := by
      unfold whoT; rw [hk, hm, hl]; split <;> rfl
    have hb : nextB (lots.map p) q (fun z => g (p z)) (turnR p B) s = turnR p (nextB lots q g B s) := by
      unfold nextB; rw [hk, hw, cntR_turn h]
      split
      · exact weigh_turn h g B _ _ q
      · rfl
    have hg : nextG (lots.map p) q (fun z => g (p z)) (turnR p B) s = fun z => nextG lots q g B s (p z) := by unfold nextG; rw [hw]; exact gone_turn h g _
    have hs : nextS (lots.map p) q (fun z => g (p z)) (turnR p B) s = nextS lots q g B s := by unfold nextS; rw [hk]
    rw [runT_step, runT_step, hk, hw, hb, hg, hs]
    by_cases h0 : s = 0
    · rw [if_pos h0, if_pos h0]; rfl
    · rw [if_neg h0, if_neg h0, runT_turn h f _ _ _]; rfl
theorem winT_turn (p : Int → Int) : ∀ (l : List (Int × Nat)), winT (l.map fun x => (p x.1, x.2)) = (winT l).map p
  | [] => rfl
  | a :: t => by
    rw [List.map_cons, winT_cons, winT_cons, winT_turn p t]
    split <;> rfl
/-- **More than a part of all ballots** (promise 72). -/
theorem quota_t {t s : Int} (hs : 0 < s + 1) : t < (t / (s + 1) + 1) * (s + 1) ∧ (t / (s + 1)) * (s + 1) ≤ t := by
  have h1 := Int.lt_ediv_add_one_mul_self t hs
  have h2 := Int.ediv_mul_le t (b := s + 1) (by omega)
  exact ⟨h1, h2⟩

end Go.Proofs.Ytafnmongglhlaaa
