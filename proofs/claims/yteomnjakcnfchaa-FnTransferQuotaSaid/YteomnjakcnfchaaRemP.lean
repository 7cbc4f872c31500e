/-
  Seats by remainders: shares rounded down, the seats that are left to the greatest remainders; shares. Votes and seats are functions of a party's number; lots are a list. Of no memory.
-/
import Derived.Test.YteomnjakcnfchaaSeatP
namespace Go.Proofs.Yteomnjakcnfchaa

/-- The greatest of some numbers: of several ones the first one in the lots. -/
def topF (R : Int → Int) : Int → List Int → Int
  | best, [] => best
  | best, k :: t => topF R (if R best < R k then k else best) t
def topL (R : Int → Int) (lots : List Int) : Int := topF R (lots[0]?.getD 0) (lots.drop 1)
def IsTopR (R : Int → Int) (lots : List Int) (w i : Int) : Prop := R i < R w ∨ (R i = R w ∧ lots.idxOf w ≤ lots.idxOf i)
theorem topF_spec {R : Int → Int} : ∀ (t pre : List Int) (best : Int), (pre ++ t).Nodup → best ∈ pre → (∀ i ∈ pre, IsTopR R (pre ++ t) best i) →
    topF R best t ∈ pre ++ t ∧ ∀ i ∈ pre ++ t, IsTopR R (pre ++ t) (topF R best t) i
  | [], pre, best, _, hb, h => by rw [List.append_nil] at *; exact ⟨hb, h⟩
  | k :: t, pre, best, hn, hb, h => by
    have e : pre ++ k :: t = (pre ++ [k]) ++ t := by simp
    have hix : ∀ i ∈ pre, (pre ++ k :: t).idxOf i < (pre ++ k :: t).idxOf k := fun i hi => idx_pre hn hi
    unfold topF
    by_cases hlt : R best < R k
    · rw [if_pos hlt]
      have := topF_spec (R := R) t (pre ++ [k]) k (by rw [← e]; exact hn) (by simp) (fun i hi => by
        rw [← e]
        rcases List.mem_append.1 hi with hi | hi
        · have hs := h i hi
          unfold IsTopR at *
          omega
        · have : i = k := by simpa using hi
          subst this; exact .inr ⟨rfl, Nat.le_refl _⟩)
      rwa [← e] at this
    · rw [if_neg hlt]
      have := topF_spec (R := R) t (pre ++ [k]) best (by rw [← e]; exact hn) (by simp [hb]) (fun i hi => by
        rw [← e]
        rcases List.mem_append.1 hi with hi | hi
        · exact h i hi
        · have : i = k := by simpa using hi
          subst this
          have := hix best hb
          unfold IsTopR
          omega)
      rwa [← e] at this
theorem topL_spec {R : Int → Int} {lots : List Int} (hn : lots.Nodup) (h0 : lots ≠ []) : topL R lots ∈ lots ∧ ∀ i ∈ lots, IsTopR R lots (topL R lots) i := by
  match lots, h0 with
  | b :: t, _ =>
    have := topF_spec (R := R) t [b] b hn (by simp) (fun i hi => by
      have : i = b := by simpa using hi
      subst this; exact .inr ⟨rfl, Nat.le_refl _⟩)
    simpa [topL] using this
/-- There is one alone. -/
theorem topL_one {R : Int → Int} {lots : List Int} (hn : lots.Nodup) (h0 : lots ≠ []) {w : Int} (hw : w ∈ lots) (h : ∀ i ∈ lots, IsTopR R lots w i) : topL R lots = w := by
  obtain ⟨h1, h2⟩ := topL_spec (R := R) hn h0
  have a := h _ h1
  have b := h2 w hw
  unfold IsTopR at a b
  have hi : lots.idxOf (topL R lots) = lots.idxOf w := by omega
  have e1 := List.getElem_idxOf (List.idxOf_lt_length_of_mem h1)
  have e2 := List.getElem_idxOf (List.idxOf_lt_length_of_mem hw)
  rw [← e1, ← e2]
  simp only [hi]

/-- The one who got a seat for a remainder has none of it left. -/
def gone (R : Int → Int) (w : Int) : Int → Int := fun z => if z = w then -1 else R z
/-- Who has got how many further seats behind n rounds; what is left then. -/
def upR (R : Int → Int) (lots : List Int) : Nat → (Int → Int) × (Int → Int)
  | 0 => (fun _ => 0, R)
  | n + 1 => (plus (upR R lots n).1 (topL (upR R lots n).2 lots), gone (upR R lots n).2 (topL (upR R lots n).2 lots))
def Up (R : Int → Int) (lots : List Int) (n : Nat) : Int → Int := (upR R lots n).1
def SeatsLeft (R : Int → Int) (lots : List Int) (n : Nat) : Int → Int := (upR R lots n).2
theorem Up_succ (R : Int → Int) (lots : List Int) (n : Nat) : Up R lots (n + 1) = plus (Up R lots n) (topL (SeatsLeft R lots n) lots) := rfl
theorem Left_succ (R : Int → Int) (lots : List Int) (n : Nat) : SeatsLeft R lots (n + 1) = gone (SeatsLeft R lots n) (topL (SeatsLeft R lots n) lots) := rfl

/-- What holds while remainders get seats. -/
structure RemInv (R : Int → Int) (lots : List Int) (n : Nat) : Prop where
  bit : ∀ z, Up R lots n z = 0 ∨ Up R lots n z = 1
  tot : totI (lots.map (Up R lots n)) = (n : Int)
  left : ∀ z, SeatsLeft R lots n z = if Up R lots n z = 1 then -1 else R z
  pos : ∀ z, Up R lots n z = 1 → 0 < R z
  first : ∀ i ∈ lots, ∀ k ∈ lots, Up R lots n i = 1 → Up R lots n k = 0 → IsTopR R lots i k

theorem totS_zero : ∀ l : List Int, totI (l.map fun _ => (0 : Int)) = 0
  | [] => rfl
  | a :: t => by rw [List.map_cons, totI_cons, totS_zero t]; rfl
theorem tot_scale_le : ∀ (l : List Int) (R U : Int → Int) (T : Int), (∀ z ∈ l, R z ≤ T * U z) → totI (l.map R) ≤ T * totI (l.map U)
  | [], _, _, T, _ => by simp [totI_nil]
  | k :: t, R, U, T, h => by
    have h1 := h k (by simp)
    have h2 := tot_scale_le t R U T (fun z hz => h z (by simp [hz]))
    rw [List.map_cons, List.map_cons, totI_cons, totI_cons, Int.mul_add]; omega
theorem remInv {R : Int → Int} {lots : List Int} {T : Int} {L : Nat} (hn : lots.Nodup) (h0 : lots ≠ []) (hR : ∀ z, 0 ≤ R z) (hT : ∀ z, R z < T) (hL : totI (lots.map R) = (L : Int) * T) : ∀ n, n ≤ L → RemInv R lots n
  | 0, _ => ⟨fun _ => .inl rfl, totS_zero lots, fun _ => rfl, fun z h => by have : (0 : Int) = 1 := h; omega, fun i _ k _ h => by have : (0 : Int) = 1 := h; omega⟩
  | n + 1, hle => by
    have ih := remInv hn h0 hR hT hL n (by omega)
    have hTp : 0 < T := by have := hR 0; have := hT 0; omega
    -- someone is left who has a remainder
    have hex : ∃ k ∈ lots, Up R lots n k = 0 ∧ 0 < R k := by
      refine Classical.byContradiction fun hno => ?_
      have hz : ∀ z ∈ lots, R z ≤ T * Up R lots n z := fun z hz => by
        rcases ih.bit z with h | h
        · have : ¬ 0 < R z := fun hp => hno ⟨z, hz, h, hp⟩
          have := hR z
          rw [h, Int.mul_zero]; omega
        · rw [h, Int.mul_one]; exact Int.le_of_lt (hT z)
      have h1 := tot_scale_le lots R (Up R lots n) T hz
      rw [hL, ih.tot, Int.mul_comm (L : Int)] at h1
      have := Int.le_of_mul_le_mul_left h1 hTp
      omega
    obtain ⟨k, hk, hk0, hkp⟩ := hex
    obtain ⟨w, hw⟩ : ∃ w, topL (SeatsLeft R lots n) lots = w := ⟨_, rfl⟩
    obtain ⟨hwm, hwt⟩ := topL_spec (R := SeatsLeft R lots n) hn h0
    rw [hw] at hwm hwt
    have hLk : SeatsLeft R lots n k = R k := by rw [ih.left, if_neg (by omega)]
    have hLw : 0 < SeatsLeft R lots n w := by
      have := hwt k hk
      unfold IsTopR at this
      omega
    have hw0 : Up R lots n w = 0 := by
      rcases ih.bit w with h | h
      · exact h
      · rw [ih.left, if_pos h] at hLw; omega
    have hLR : SeatsLeft R lots n w = R w := by rw [ih.left, if_neg (by omega)]
    have hU : ∀ z, Up R lots (n + 1) z = if z = w then Up R lots n z + 1 else Up R lots n z := fun z => by rw [Up_succ, hw]; rfl
    refine ⟨fun z => ?_, ?_, fun z => ?_, fun z hz => ?_, fun i hi j hj h1 h2 => ?_⟩
    · rw [hU]
      by_cases e : z = w
      · subst e; rw [if_pos rfl]; omega
      · rw [if_neg e]; exact ih.bit z
    · rw [Up_succ, hw, tot_plus _ hn hwm, ih.tot]; omega
    · rw [Left_succ, hw, hU]
      unfold gone
      by_cases e : z = w
      · subst e; rw [if_pos rfl, if_pos rfl, if_pos (by omega)]
      · rw [if_neg e, if_neg e]; exact ih.left z
    · rw [hU] at hz
      by_cases e : z = w
      · subst e; omega
      · rw [if_neg e] at hz; exact ih.pos z hz
    · rw [hU] at h1 h2
      have hjw : j ≠ w := fun e => by rw [if_pos e] at h2; have := ih.bit j; omega
      rw [if_neg hjw] at h2
      have hLj : SeatsLeft R lots n j = R j := by rw [ih.left, if_neg (by omega)]
      by_cases e : i = w
      · subst e
        have := hwt j hj
        unfold IsTopR at this ⊢
        rw [hLj, hLR] at this
        exact this
      · rw [if_neg e] at h1
        exact ih.first i hi j hj h1 h2

/-- Shares: rounded down, what is over; rounded up. -/
def lowI (v S T : Int) : Int := v * S / T
def overI (v S T : Int) : Int := v * S % T
def highI (v S T : Int) : Int := (v * S + T - 1) / T
theorem low_over (v S T : Int) : T * lowI v S T + overI v S T = v * S := by unfold lowI overI; exact Int.mul_ediv_add_emod _ _
theorem over_range {v S T : Int} (hT : 0 < T) : 0 ≤ overI v S T ∧ overI v S T < T := ⟨Int.emod_nonneg _ (by omega), Int.emod_lt_of_pos _ hT⟩
/-- **A share is between two whole numbers** (promise 94). -/
theorem high_eq {v S T : Int} (hT : 0 < T) : highI v S T = if overI v S T = 0 then lowI v S T else lowI v S T + 1 := by
  have h1 := low_over v S T
  have h2 := over_range (v := v) (S := S) hT
  unfold highI
  rw [← h1]
  split
  · next h =>
    rw [h, Int.add_zero, Int.add_sub_assoc, Int.add_comm, Int.add_mul_ediv_left _ _ (by omega)]
    rw [Int.ediv_eq_zero_of_lt (by omega) (by omega)]; omega
  · next h =>
    have e : T * lowI v S T + overI v S T + T - 1 = (overI v S T - 1) + T * (lowI v S T + 1) := by rw [Int.mul_add]; omega
    rw [e, Int.add_mul_ediv_left _ _ (by omega), Int.ediv_eq_zero_of_lt (by omega) (by omega)]; omega
theorem quota_law {v S T : Int} (hT : 0 < T) : lowI v S T * T ≤ v * S ∧ v * S ≤ highI v S T * T ∧ highI v S T - lowI v S T ≤ 1 ∧ (highI v S T = lowI v S T ↔ v * S % T = 0) := by
  have h1 := low_over v S T
  have h2 := over_range (v := v) (S := S) hT
  have h3 := high_eq (v := v) (S := S) hT
  have e : lowI v S T * T = T * lowI v S T := Int.mul_comm _ _
  have hov : v * S % T = overI v S T := rfl
  rw [hov]
  by_cases h : overI v S T = 0
  · rw [if_pos h] at h3
    rw [h3]
    refine ⟨by omega, by omega, by omega, fun _ => h, fun _ => rfl⟩
  · rw [if_neg h] at h3
    rw [h3]
    have e2 : (lowI v S T + 1) * T = T * lowI v S T + T := by rw [Int.add_mul, Int.one_mul, e]
    exact ⟨by omega, by omega, by omega, fun k => by omega, fun k => absurd k h⟩

/-- What all rounded-down shares leave: so many seats, and so much of remainders. -/
theorem tot_mul : ∀ (l : List Int) (V : Int → Int) (a : Int), totI (l.map fun z => V z * a) = totI (l.map V) * a
  | [], _, a => by simp [totI_nil]
  | k :: t, V, a => by
    rw [List.map_cons, List.map_cons, totI_cons, totI_cons, tot_mul t V a, Int.add_mul]
theorem tot_two : ∀ (l : List Int) (A B C : Int → Int) (T : Int), (∀ z ∈ l, T * A z + B z = C z) → T * totI (l.map A) + totI (l.map B) = totI (l.map C)
  | [], _, _, _, T, _ => by simp [totI_nil]
  | k :: t, A, B, C, T, h => by
    have h1 := h k (by simp)
    have h2 := tot_two t A B C T (fun z hz => h z (by simp [hz]))
    rw [List.map_cons, List.map_cons, List.map_cons, totI_cons, totI_cons, totI_cons, Int.mul_add]; omega
theorem tot_nonneg : ∀ (l : List Int) (A : Int → Int), (∀ z ∈ l, 0 ≤ A z) → 0 ≤ totI (l.map A)
  | [], _, _ => by simp [totI_nil]
  | k :: t, A, h => by
    have h1 := h k (by simp)
    have h2 := tot_nonneg t A (fun z hz => h z (by simp [hz]))
    rw [List.map_cons, totI_cons]; omega
theorem left_seats {V : Int → Int} {lots : List Int} {S T : Int} (hT : totI (lots.map V) = T) (hTp : 0 < T) : ∃ L : Nat, totI (lots.map fun z => lowI (V z) S T) + (L : Int) = S ∧ totI (lots.map fun z => overI (V z) S T) = (L : Int) * T := by
  have h1 := tot_two lots (fun z => lowI (V z) S T) (fun z => overI (V z) S T) (fun z => V z * S) T (fun z _ => low_over (V z) S T)
  rw [tot_mul lots V S, hT] at h1
  have h2 := tot_nonneg lots (fun z => overI (V z) S T) (fun z _ => (over_range hTp).1)
  obtain ⟨A, hA⟩ : ∃ A, totI (lots.map fun z => lowI (V z) S T) = A := ⟨_, rfl⟩
  obtain ⟨B, hB⟩ : ∃ B, totI (lots.map fun z => overI (V z) S T) = B := ⟨_, rfl⟩
  rw [hA, hB] at h1
  rw [hB] at h2
  rw [hA, hB]
  have h3 : B = (S - A) * T := by rw [Int.sub_mul, Int.mul_comm S, Int.mul_comm A]; omega
  have h4 : 0 ≤ S - A := by
    rcases Int.lt_or_le (S - A) 0 with h | h
    · exfalso
      have := Int.mul_neg_of_neg_of_pos h hTp
      omega
    · exact h
  refine ⟨(S - A).toNat, by omega, ?_⟩
  rw [Int.toNat_of_nonneg h4]; exact h3

/-- The seats. -/
def remF (V : Int → Int) (lots : List Int) (S T : Int) (n : Nat) : Int → Int := fun z => lowI (V z) S T + Up (fun z => overI (V z) S T) lots n z
theorem tot_sum : ∀ (l : List Int) (A B : Int → Int), totI (l.map fun z => A z + B z) = totI (l.map A) + totI (l.map B)
  | [], _, _ => rfl
  | k :: t, A, B => by
    rw [List.map_cons, List.map_cons, List.map_cons, totI_cons, totI_cons, totI_cons, tot_sum t A B]; omega
/-- **All seats are given, and fairly; greater remainders come first** (promises 90, 91). -/
theorem rem_law {V : Int → Int} {lots : List Int} {S T : Int} (hn : lots.Nodup) (h0 : lots ≠ []) (hTp : 0 < T) {L : Nat} (hL : totI (lots.map fun z => overI (V z) S T) = (L : Int) * T) (hS : totI (lots.map fun z => lowI (V z) S T) + (L : Int) = S) :
    totI (lots.map (remF V lots S T L)) = S ∧ (∀ z, lowI (V z) S T ≤ remF V lots S T L z ∧ remF V lots S T L z ≤ highI (V z) S T) ∧
    (∀ i ∈ lots, ∀ k ∈ lots, lowI (V i) S T < remF V lots S T L i → remF V lots S T L k = lowI (V k) S T → IsTopR (fun z => overI (V z) S T) lots i k) := by
  have hI := remInv (R := fun z => overI (V z) S T) (T := T) hn h0 (fun z => (over_range hTp).1) (fun z => (over_range hTp).2) hL L (Nat.le_refl _)
  refine ⟨?_, fun z => ?_, fun i hi k hk h1 h2 => ?_⟩
  · unfold remF
    rw [tot_sum, hI.tot]; exact hS
  · have hb := hI.bit z
    have hp := hI.pos z
    have hh := high_eq (v := V z) (S := S) hTp
    have ho := (over_range (v := V z) (S := S) hTp).1
    unfold remF
    rcases hb with h | h
    · rw [h]; split at hh <;> omega
    · have := hp h
      rw [if_neg (by omega)] at hh
      rw [h]; omega
  · unfold remF at h1 h2
    have hb := hI.bit i
    exact hI.first i hi k hk (by omega) (by omega)
/-- **More votes do not have fewer seats** (promise 92). -/
theorem rem_votes {V : Int → Int} {lots : List Int} {S T : Int} (hn : lots.Nodup) (h0 : lots ≠ []) (hTp : 0 < T) (hSn : 0 ≤ S) {L : Nat} (hL : totI (lots.map fun z => overI (V z) S T) = (L : Int) * T) (hS : totI (lots.map fun z => lowI (V z) S T) + (L : Int) = S)
    {i k : Int} (hi : i ∈ lots) (hk : k ∈ lots) (hv : V k < V i) : remF V lots S T L k ≤ remF V lots S T L i := by
  have hI := remInv (R := fun z => overI (V z) S T) (T := T) hn h0 (fun z => (over_range hTp).1) (fun z => (over_range hTp).2) hL L (Nat.le_refl _)
  have h1 := low_over (V i) S T
  have h2 := low_over (V k) S T
  have o1 := over_range (v := V i) (S := S) hTp
  have o2 := over_range (v := V k) (S := S) hTp
  have hm : V k * S ≤ V i * S := Int.mul_le_mul_of_nonneg_right (Int.le_of_lt hv) hSn
  have hlow : lowI (V k) S T ≤ lowI (V i) S T := by
    unfold lowI; exact Int.ediv_le_ediv hTp hm
  have b1 := hI.bit i
  have b2 := hI.bit k
  unfold remF
  rcases Int.lt_or_le (lowI (V k) S T) (lowI (V i) S T) with hlt | hle
  · omega
  · have he : lowI (V k) S T = lowI (V i) S T := by omega
    rw [he] at h2 ⊢
    rcases b2 with h | h
    · rcases b1 with g | g <;> omega
    · rcases b1 with g | g
      · exfalso
        have hf := hI.first k hk i hi h g
        have hpos := hI.pos k h
        unfold IsTopR at hf
        have hSp : 0 < S := by
          rcases Int.lt_or_le 0 S with hp | hp
          · exact hp
          · have e0 : S = 0 := by omega
            exfalso
            have : overI (V k) S T = 0 := by unfold overI; rw [e0, Int.mul_zero]; exact Int.zero_emod _
            omega
        have hm2 : V k * S < V i * S := Int.mul_lt_mul_of_pos_right hv hSp
        simp only at hf
        omega
      · omega
/-- **Whole shares need no remainders** (promise 93). -/
theorem rem_whole {V : Int → Int} {lots : List Int} {S T : Int} (hTp : 0 < T) {L : Nat} (hL : totI (lots.map fun z => overI (V z) S T) = (L : Int) * T) (hz : ∀ z ∈ lots, overI (V z) S T = 0) : L = 0 := by
  have e : (lots.map fun z => overI (V z) S T) = lots.map fun _ => (0 : Int) := List.map_congr_left hz
  rw [e, totS_zero] at hL
  have := Int.mul_eq_zero.1 hL.symm
  omega
/-- **Shares are together all seats** (promise 95). -/
theorem quota_sum {V : Int → Int} {l : List Int} {S T : Int} (hT : totI (l.map V) = T) (hTp : 0 < T) : totI (l.map fun z => lowI (V z) S T) ≤ S ∧ S ≤ totI (l.map fun z => highI (V z) S T) := by
  have hall : ∀ (l : List Int), totI (l.map fun z => lowI (V z) S T) * T ≤ totI (l.map V) * S ∧ totI (l.map V) * S ≤ totI (l.map fun z => highI (V z) S T) * T := fun l => by
    induction l with
    | nil => simp [totI_nil]
    | cons k t ih =>
      have h1 := quota_law (v := V k) (S := S) hTp
      rw [List.map_cons, List.map_cons, List.map_cons, totI_cons, totI_cons, totI_cons, Int.add_mul, Int.add_mul, Int.add_mul]
      omega
  obtain ⟨h1, h2⟩ := hall l
  rw [hT, Int.mul_comm T] at h1 h2
  exact ⟨Int.le_of_mul_le_mul_right h1 hTp, Int.le_of_mul_le_mul_right h2 hTp⟩

end Go.Proofs.Yteomnjakcnfchaa
