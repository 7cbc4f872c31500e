/-
  Transfers with reduced fractions: nothing leaves the range, and what they are worth is what exact weights give. Of no memory.
  Transfers with reduced fractions are transfers with exact weights, step by step. Of no memory.
-/
import Derived.Test.YtafnmongglhlaaaGrp12
namespace Go.Proofs.Ytafnmongglhlaaa

theorem val_low {c : Fr} (h : 0 < c.2) : 0 ≤ valR c ↔ 0 ≤ c.1 := by
  have h1 := val_less (a := c) (b := (0, 1)) h (by decide)
  have h2 : valR (0, 1) = (0 : Rat) := val_int 0
  rw [h2] at h1
  unfold lessF at h1
  rw [decide_eq_true_iff] at h1
  constructor
  · intro h3
    by_cases g : 0 ≤ c.1
    · exact g
    · have := h1.1 (by show c.1 * 1 < 0 * c.2; omega)
      grind
  · intro h3
    by_cases g : valR c < 0
    · have g2 := h1.2 g
      have g3 : c.1 * 1 < 0 * c.2 := g2
      omega
    · grind
theorem val_high {c : Fr} (h : 0 < c.2) (m : Int) : valR c ≤ (m : Rat) ↔ c.1 ≤ m * c.2 := by
  have h1 := val_less (a := (m, 1)) (b := c) (by show (0 : Int) < 1; decide) h
  rw [val_int m] at h1
  unfold lessF at h1
  rw [decide_eq_true_iff] at h1
  constructor
  · intro h3
    by_cases g : c.1 ≤ m * c.2
    · exact g
    · have := h1.1 (by show m * c.2 < c.1 * 1; omega)
      grind
  · intro h3
    by_cases g : (m : Rat) < valR c
    · have g2 := h1.2 g
      have g3 : m * c.2 < c.1 * 1 := g2
      omega
    · grind

/-- A weight: its denominator divides D, it is not negative and at most 1. -/
structure TfOkW (D : Int) (w : Fr) : Prop where
  red : Red w
  dvd : w.2 ∣ D
  low : 0 ≤ w.1
  high : w.1 ≤ w.2
/-- A count: its denominator divides D, it is not negative and at most m. -/
structure TfOkC (D m : Int) (c : Fr) : Prop where
  red : Red c
  dvd : c.2 ∣ D
  low : 0 ≤ c.1
  high : c.1 ≤ m * c.2
theorem TfOkW.pos {D : Int} {w : Fr} (h : TfOkW D w) : 0 < w.2 := h.red.1
theorem TfOkC.pos {D m : Int} {c : Fr} (h : TfOkC D m c) : 0 < c.2 := h.red.1
theorem TfOkW.vals {D : Int} {w : Fr} (h : TfOkW D w) : 0 ≤ valR w ∧ valR w ≤ 1 := by
  refine ⟨(val_low h.pos).2 h.low, ?_⟩
  have := (val_high h.pos 1).2 (by have := h.high; omega)
  exact this
theorem TfOkC.zero (D : Int) : TfOkC D 0 (0, 1) := ⟨⟨by decide, by decide⟩, Int.one_dvd D, Int.le_refl _, by decide⟩
theorem tfAdd_val {a w : Fr} (ha : 0 < a.2) (hw : 0 < w.2) (n : Int) : valR (tfAdd a w n) = valR a + (n : Rat) * valR w := by
  unfold tfAdd
  rw [val_sum ha (ofF_red hw).1, val_of hw]
  have hn := cast_ne hw
  unfold valR
  rw [Rat.intCast_mul]; grind
theorem tfAdd_ok {D m n : Int} {a w : Fr} (ha : TfOkC D m a) (hw : TfOkW D w) (hn : 0 ≤ n) : TfOkC D (m + n) (tfAdd a w n) := by
  have hr : Red (tfAdd a w n) := ofF_red (sumF_pos ha.pos (ofF_red hw.pos).1)
  have hv := tfAdd_val ha.pos hw.pos n
  have v1 := hw.vals
  have v2 := (val_low ha.pos).2 ha.low
  have v3 := (val_high ha.pos m).2 ha.high
  have hnr : (0 : Rat) ≤ (n : Rat) := by exact_mod_cast hn
  have p1 : 0 ≤ (n : Rat) * valR w := Rat.mul_nonneg hnr v1.1
  have p2 : (n : Rat) * valR w ≤ (n : Rat) := by
    have := Rat.mul_le_mul_of_nonneg_left v1.2 hnr
    rw [Rat.mul_one] at this; exact this
  refine ⟨hr, sum_dvd ha.pos (ofF_red hw.pos).1 ha.dvd (of_dvd hw.dvd), ?_, ?_⟩
  · refine (val_low hr.1).1 ?_
    rw [hv]; grind
  · refine (val_high hr.1 (m + n)).1 ?_
    rw [hv, Rat.intCast_add]; grind
/-- All ballots of the first i piles. -/
def tfM (ps : List Pl) : Nat → Int
  | 0 => 0
  | i + 1 => tfM ps i + mAt ps i
theorem sumL_snoc (a : List Pl) (p : Pl) : sumL (a ++ [p]) = sumL a + p.2 := by
  induction a with
  | nil => simp [sumL]
  | cons b a ih => rw [List.cons_append, sumL_cons, ih, sumL_cons]; omega
theorem tfM_take (ps : List Pl) : ∀ i, i ≤ ps.length → tfM ps i = sumL (ps.take i)
  | 0, _ => by simp [tfM, sumL]
  | i + 1, h => by
    have hi : i < ps.length := by omega
    rw [List.take_succ_eq_append_getElem hi, sumL_snoc, tfM, tfM_take ps i (by omega)]
    simp [mAt, hi]
theorem tfM_all (ps : List Pl) : tfM ps ps.length = sumL ps := by rw [tfM_take ps _ (Nat.le_refl _), List.take_length]
theorem mAt_pos {ps : List Pl} (hp : ∀ p ∈ ps, 1 ≤ p.2) (i : Nat) : 0 ≤ mAt ps i := by
  unfold mAt
  by_cases h : i < ps.length
  · have : ps[i]?.getD (ByteArray.empty, 0) = ps[i] := by simp [h]
    rw [this]
    have := hp _ (List.getElem_mem h); omega
  · simp [h]
theorem tfM_mono {ps : List Pl} (hp : ∀ p ∈ ps, 1 ≤ p.2) : ∀ (j i : Nat), i ≤ j → tfM ps i ≤ tfM ps j
  | 0, i, h => by obtain rfl : i = 0 := by omega
                  exact Int.le_refl _
  | j + 1, i, h => by
    by_cases e : i = j + 1
    · subst e; exact Int.le_refl _
    · have h1 := tfM_mono hp j i (by omega)
      have h2 := mAt_pos hp j
      show tfM ps i ≤ tfM ps j + mAt ps j
      omega
theorem mAt_most {ps : List Pl} (hp : ∀ p ∈ ps, 1 ≤ p.2) {i : Nat} (h : i < ps.length) : mAt ps i ≤ sumL ps := by
  have h1 := tfM_mono hp ps.length (i + 1) h
  have h2 := tfM_mono hp i 0 (Nat.zero_le _)
  rw [tfM_all] at h1
  have h3 : tfM ps (i + 1) = tfM ps i + mAt ps i := rfl
  have h4 : tfM ps 0 = 0 := rfl
  omega
theorem tfCnt_ok {D : Int} {ps : List Pl} {ws : List Fr} (gs : List Bool) (k : Nat) (hp : ∀ p ∈ ps, 1 ≤ p.2) (hw : ∀ i, i < ps.length → TfOkW D (tfW ws i)) : ∀ i, i ≤ ps.length → TfOkC D (tfM ps i) (tfCnt ps ws gs k i)
  | 0, _ => TfOkC.zero D
  | i + 1, h => by
    have ih := tfCnt_ok gs k hp hw i (by omega)
    have hm := mAt_pos hp i
    by_cases e : tfFst ps gs i = (k : Int)
    · rw [tfCnt_hit e]; exact tfAdd_ok ih (hw i (by omega)) hm
    · rw [tfCnt_miss e]
      refine ⟨ih.red, ih.dvd, ih.low, ?_⟩
      have := ih.high
      have h2 : 0 ≤ mAt ps i * (tfCnt ps ws gs k i).2 := Int.mul_nonneg hm (by have := ih.pos; omega)
      show _ ≤ (tfM ps i + mAt ps i) * _
      rw [Int.add_mul]; omega
theorem okc_bound {D m : Int} {c : Fr} (h : TfOkC D m c) (hD : 1 ≤ D ∧ D ≤ 60) (hm : m ≤ 60) : (0 ≤ c.1 ∧ c.1 ≤ 3600) ∧ (1 ≤ c.2 ∧ c.2 ≤ 60) ∧ c.1 ≤ 60 * c.2 := by
  have h1 := dvd_le (by omega) h.dvd
  have h2 := h.pos
  have h3 := h.high
  have h4 : m * c.2 ≤ 60 * c.2 := Int.mul_le_mul_of_nonneg_right hm (by omega)
  have h5 := h.low
  refine ⟨⟨h5, by omega⟩, ⟨by omega, by omega⟩, by omega⟩
theorem okc_valid {D m : Int} {c : Fr} (h : TfOkC D m c) (hD : 1 ≤ D ∧ D ≤ 60) (hm : m ≤ 60) : fracB c = true := by
  obtain ⟨h1, h2, _⟩ := okc_bound h hD hm
  exact fracB_of (by omega) (by omega) h.red.2
theorem okw_bound {D : Int} {w : Fr} (h : TfOkW D w) (hD : 1 ≤ D ∧ D ≤ 60) : (0 ≤ w.1 ∧ w.1 ≤ 60) ∧ (1 ≤ w.2 ∧ w.2 ≤ 60) := by
  have h1 := dvd_le (by omega) h.dvd
  have h2 := h.pos
  have h3 := h.high
  have h4 := h.low
  omega
theorem okw_valid {D : Int} {w : Fr} (h : TfOkW D w) (hD : 1 ≤ D ∧ D ≤ 60) : fracB w = true := by
  obtain ⟨h1, h2⟩ := okw_bound h hD
  exact fracB_of (by omega) (by omega) h.red.2
theorem ofF_valid {n d : Int} (hn : -9999999 ≤ n ∧ n ≤ 9999999) (hd : 1 ≤ d ∧ d ≤ 9999999) : fracB (ofF n d) = true := by
  have h := ofF_bound (n := n) (d := d) (by omega)
  refine fracB_of (by omega) (by omega) (ofF_red (by omega)).2

/-- What a transfer is made of. -/
structure TfArg (ps : List Pl) (lots : List Int) (q : Int) : Prop where
  lots : lotsB lots = true
  piles : pilesB ps = true
  sum : sumL ps ≤ 60
  qpos : 1 ≤ q
  qtop : q ≤ 61
/-- What a state keeps. -/
structure TfGood (ps : List Pl) (lots : List Int) (S : TfS) : Prop where
  lg : S.gs.length = lots.length
  lw : S.ws.length = ps.length
  fit : S.s ≤ (thereL lots (tfG S.gs)).length
  two : S.s ≤ 2
  ok : 1 ≤ S.s → ∃ D, (1 ≤ D ∧ D ≤ 60) ∧ (S.s = 2 → D = 1) ∧ ∀ i, i < ps.length → TfOkW D (tfW S.ws i)
theorem TfArg.ones {ps : List Pl} {lots : List Int} {q : Int} (h : TfArg ps lots q) : ∀ p ∈ ps, 1 ≤ p.2 := (pilesB_pos h.piles).2.1
theorem TfArg.nodup {ps : List Pl} {lots : List Int} {q : Int} (h : TfArg ps lots q) : lots.Nodup := vB_nodup h.lots
theorem TfArg.mem {ps : List Pl} {lots : List Int} {q : Int} (h : TfArg ps lots q) : ∀ z ∈ lots, 0 ≤ z ∧ z < (lots.length : Int) := (vB_mem h.lots).2.2
theorem TfGood.cnt {ps : List Pl} {lots : List Int} {q : Int} {S : TfS} (A : TfArg ps lots q) (h : TfGood ps lots S) (hs : 1 ≤ S.s) : ∃ D, (1 ≤ D ∧ D ≤ 60) ∧ (S.s = 2 → D = 1) ∧ (∀ i, i < ps.length → TfOkW D (tfW S.ws i)) ∧ ∀ k i, i ≤ ps.length → TfOkC D (tfM ps i) (tfCnt ps S.ws S.gs k i) ∧ tfM ps i ≤ 60 := by
  obtain ⟨D, hD, h2, hw⟩ := h.ok hs
  refine ⟨D, hD, h2, hw, fun k i hi => ⟨tfCnt_ok S.gs k A.ones hw i hi, ?_⟩⟩
  have := tfM_mono A.ones ps.length i hi
  rw [tfM_all] at this
  have := A.sum
  omega
theorem TfGood.ne {ps : List Pl} {lots : List Int} {S : TfS} (h : TfGood ps lots S) (hs : 1 ≤ S.s) : thereL lots (tfG S.gs) ≠ [] := fun e => by have := h.fit; rw [e] at this; simp at this; omega
theorem TfGood.who_mem {ps : List Pl} {lots : List Int} {q : Int} {S : TfS} (h : TfGood ps lots S) (hs : 1 ≤ S.s) : S.who ps lots q ∈ thereL lots (tfG S.gs) := by
  unfold TfS.who tfWho
  split
  · exact tfBest_mem (h.ne hs)
  · exact tfBest_mem (h.ne hs)
theorem tfC_at {ps : List Pl} {S : TfS} {z : Int} (hz : 0 ≤ z) (h : z < (S.gs.length : Int)) : tfC (S.cs ps) z = tfCnt ps S.ws S.gs z.toNat ps.length := by
  unfold tfC TfS.cs
  rw [tfCnts_at (show z.toNat < S.gs.length by omega)]; rfl
/-- The count of somebody. -/
theorem TfGood.count {ps : List Pl} {lots : List Int} {q : Int} {S : TfS} (A : TfArg ps lots q) (h : TfGood ps lots S) (hs : 1 ≤ S.s) {z : Int} (hz : z ∈ lots) :
    ∃ D, (1 ≤ D ∧ D ≤ 60) ∧ (S.s = 2 → D = 1) ∧ (∀ i, i < ps.length → TfOkW D (tfW S.ws i)) ∧ TfOkC D 60 (tfC (S.cs ps) z) := by
  obtain ⟨D, hD, h2, hw, hc⟩ := h.cnt A hs
  obtain ⟨hz0, hz1⟩ := A.mem z hz
  refine ⟨D, hD, h2, hw, ?_⟩
  rw [tfC_at hz0 (by rw [h.lg]; exact hz1)]
  obtain ⟨g1, g2⟩ := hc z.toNat ps.length (Nat.le_refl _)
  refine ⟨g1.red, g1.dvd, g1.low, ?_⟩
  have := g1.high
  have := Int.mul_le_mul_of_nonneg_right g2 (Int.le_of_lt g1.pos)
  omega
theorem TfGood.valid {ps : List Pl} {lots : List Int} {q : Int} {S : TfS} (A : TfArg ps lots q) (h : TfGood ps lots S) (hs : 1 ≤ S.s) {z : Int} (hz : z ∈ lots) : fracB (tfC (S.cs ps) z) = true := by
  obtain ⟨D, hD, _, _, hc⟩ := h.count A hs hz
  exact okc_valid hc hD (by omega)
/-- Who reaches the quota. -/
theorem tfKind_one {q : Int} {lots : List Int} {cs : List Fr} {gs : List Bool} {s : Nat} (h : tfKind q lots cs gs s = 1) : lessF (tfC cs (tfWho q lots cs gs s)) (q, 1) = false := by
  have hw : tfWho q lots cs gs s = tfBest false cs gs lots := by unfold tfWho; rw [h, if_neg (by omega)]
  rw [hw]
  unfold tfKind at h
  cases e : lessF (tfC cs (tfBest false cs gs lots)) (q, 1)
  · rfl
  · rw [e] at h; simp at h; split at h <;> omega
theorem TfGood.next {ps : List Pl} {lots : List Int} {q : Int} {S : TfS} (A : TfArg ps lots q) (h : TfGood ps lots S) (hs : 1 ≤ S.s) :
    TfGood ps lots (tfNext ps lots q S) ∧ tfG (tfNext ps lots q S).gs = goneP (tfG S.gs) (S.who ps lots q) ∧ (thereL lots (tfG (tfNext ps lots q S).gs)).length + 1 = (thereL lots (tfG S.gs)).length := by
  have hm := h.who_mem (q := q) hs
  obtain ⟨hz0, hz1⟩ := A.mem _ (there_mem.1 hm).1
  obtain ⟨x, hx⟩ := Int.eq_ofNat_of_zero_le hz0
  have hxl : x < S.gs.length := by rw [h.lg]; omega
  have hg : tfG (tfNext ps lots q S).gs = goneP (tfG S.gs) (S.who ps lots q) := by
    show tfG (S.gs.set (S.who ps lots q).toNat true) = _
    rw [hx, Int.toNat_natCast]; exact tfG_set hxl
  have hl := there_less A.nodup hm
  rw [← hg] at hl
  obtain ⟨D, hD, h2, hw, hc⟩ := h.count A hs (there_mem.1 hm).1
  refine ⟨⟨?_, ?_, ?_, ?_, ?_⟩, hg, hl⟩
  · show (S.gs.set _ true).length = _; rw [List.length_set]; exact h.lg
  · show (if _ then _ else _ : List Fr).length = _
    split
    · exact tfWeigh_length _ _ _ _ _ _
    · exact h.lw
  · show (if S.kind ps lots q = 2 then S.s else S.s - 1) ≤ _
    have := h.fit
    by_cases hk : S.kind ps lots q = 2
    · rw [if_pos hk]
      have : S.s < (thereL lots (tfG S.gs)).length := by
        unfold TfS.kind tfKind at hk
        split at hk
        · split at hk
          · omega
          · omega
        · omega
      omega
    · rw [if_neg hk]; omega
  · show (if S.kind ps lots q = 2 then S.s else S.s - 1) ≤ 2
    have := h.two
    split <;> omega
  · intro h1
    have h1' : 1 ≤ (if S.kind ps lots q = 2 then S.s else S.s - 1) := h1
    show ∃ D, (1 ≤ D ∧ D ≤ 60) ∧ ((if S.kind ps lots q = 2 then S.s else S.s - 1) = 2 → D = 1) ∧ ∀ i, i < ps.length → TfOkW D (tfW (if S.kind ps lots q = 1 then tfWeigh ps S.ws S.gs (S.who ps lots q) (tfC (S.cs ps) (S.who ps lots q)) q else S.ws) i)
    have htwo := h.two
    by_cases hk : S.kind ps lots q = 1
    · rw [if_neg (by omega)] at h1'
      have hs2 : S.s = 2 := by omega
      have hD1 := h2 hs2
      subst hD1
      rw [if_neg (by omega), if_pos hk]
      have hq := tfKind_one hk
      have hq' : ¬ ((tfC (S.cs ps) (S.who ps lots q)).1 * 1 < q * (tfC (S.cs ps) (S.who ps lots q)).2) := by
        have : lessF (tfC (S.cs ps) (S.who ps lots q)) (q, 1) = false := hq
        unfold lessF at this
        simpa using this
      obtain ⟨c, hce⟩ : ∃ c, tfC (S.cs ps) (S.who ps lots q) = c := ⟨_, rfl⟩
      rw [hce] at hc hq' ⊢
      have hc2 : c.2 = 1 := by have := dvd_le (by decide) hc.dvd; have := hc.pos; omega
      have hc60 := hc.high
      have hqp := A.qpos
      rw [hc2] at hq' hc60
      refine ⟨c.1, ⟨by omega, by omega⟩, fun e => by omega, fun i hi => ?_⟩
      rw [tfWeigh_at hi]
      have hwi := hw i hi
      have hw2 : (tfW S.ws i).2 = 1 := by have := dvd_le (by decide) hwi.dvd; have := hwi.pos; omega
      unfold tfWgh
      split
      · unfold tfCut
        rw [hc2, hw2, Int.mul_one, Int.one_mul]
        have hw1 := hwi.low
        have hw3 := hwi.high
        rw [hw2] at hw3
        have hr : Red (ofF ((tfW S.ws i).1 * (c.1 - q)) c.1) := ofF_red (by omega)
        have hv : valR (ofF ((tfW S.ws i).1 * (c.1 - q)) c.1) = (((tfW S.ws i).1 * (c.1 - q) : Int) : Rat) / (c.1 : Rat) := val_of (by omega)
        have e0 : valR ((tfW S.ws i).1 * (c.1 - q), c.1) = (((tfW S.ws i).1 * (c.1 - q) : Int) : Rat) / (c.1 : Rat) := rfl
        have hp : 0 ≤ (tfW S.ws i).1 * (c.1 - q) := Int.mul_nonneg hw1 (by omega)
        have hp2 : (tfW S.ws i).1 * (c.1 - q) ≤ 1 * (c.1 - q) := Int.mul_le_mul_of_nonneg_right hw3 (by omega)
        have hb := (val_low (c := ((tfW S.ws i).1 * (c.1 - q), c.1)) (by show 0 < c.1; omega)).2 hp
        have hb2 := (val_high (c := ((tfW S.ws i).1 * (c.1 - q), c.1)) (by show 0 < c.1; omega) 1).2 (by show (tfW S.ws i).1 * (c.1 - q) ≤ 1 * c.1; omega)
        rw [e0, ← hv] at hb hb2
        refine ⟨hr, of_dvd (Int.dvd_refl _), (val_low hr.1).1 hb, ?_⟩
        have := (val_high hr.1 1).1 hb2
        omega
      · exact ⟨hwi.red, by rw [hw2]; exact Int.one_dvd _, hwi.low, hwi.high⟩
    · rw [if_neg hk]
      refine ⟨D, hD, fun e => ?_, hw⟩
      by_cases hk2 : S.kind ps lots q = 2
      · rw [if_pos hk2] at e; exact h2 e
      · rw [if_neg hk2] at e; omega
theorem tf_start {ps : List Pl} {lots : List Int} {q : Int} (A : TfArg ps lots q) {s : Nat} (h1 : s ≤ 2) (h2 : s ≤ lots.length) : TfGood ps lots (tfStart ps lots.length s) := by
  have hgs : ∀ z ∈ lots, tfG (List.replicate lots.length false) z = false := fun z hz => by
    rw [tfG_nn (A.mem z hz).1, List.getElem?_replicate]; split <;> rfl
  refine ⟨by simp [tfStart], by simp [tfStart], ?_, h1, fun _ => ⟨1, by decide, fun _ => rfl, fun i hi => ?_⟩⟩
  · show s ≤ (thereL lots (tfG (List.replicate lots.length false))).length
    have : thereL lots (tfG (List.replicate lots.length false)) = lots := by
      unfold thereL
      rw [List.filter_eq_self]
      intro z hz
      rw [hgs z hz]; rfl
    rw [this]; exact h2
  · have : tfW (tfStart ps lots.length s).ws i = (1, 1) := by simp [tfStart, tfW, hi]
    rw [this]
    exact ⟨⟨by decide, by decide⟩, Int.dvd_refl _, by decide, by decide⟩
/-- A state that is reached, and what stands there. -/
theorem tf_at {ps : List Pl} {lots : List Int} {q : Int} (A : TfArg ps lots q) : ∀ (f : Nat) (S : TfS), TfGood ps lots S → ∀ i, i < (tfRun ps lots q f S).length → (tfRun ps lots q f S)[i]? = some (tfStep ps lots q (tfAt ps lots q S i)) ∧ TfGood ps lots (tfAt ps lots q S i) ∧ 1 ≤ (tfAt ps lots q S i).s
  | 0, S, _, i, h => by simp [tfRun] at h
  | f + 1, S, hG, i, h => by
    by_cases hs : S.s = 0
    · rw [tfRun_zero _ _ _ _ hs] at h; simp at h
    · rw [tfRun_step _ _ _ _ hs] at h ⊢
      cases i with
      | zero => exact ⟨rfl, hG, by show 1 ≤ S.s; omega⟩
      | succ i =>
        obtain ⟨a, b, c⟩ := tf_at A f _ (hG.next A (by omega)).1 i (by simpa using h)
        exact ⟨by rw [List.getElem?_cons_succ]; exact a, b, c⟩
theorem tf_length {ps : List Pl} {lots : List Int} {q : Int} : ∀ (f : Nat) (S : TfS), (tfRun ps lots q f S).length ≤ f
  | 0, S => by simp [tfRun]
  | f + 1, S => by
    by_cases hs : S.s = 0
    · rw [tfRun_zero _ _ _ _ hs]; simp
    · rw [tfRun_step _ _ _ _ hs, List.length_cons]
      have := tf_length (ps := ps) (lots := lots) (q := q) f (tfNext ps lots q S)
      omega

end Go.Proofs.Ytafnmongglhlaaa

namespace Go.Proofs.Ytafnmongglhlaaa

/-- The ballots and what they are worth together. -/
def tfBal (ps : List Pl) (ws : List Fr) : List Bal := (List.range ps.length).map fun i => (parseL (tAt ps i), (mAt ps i : Rat) * valR (tfW ws i))
theorem sumR_snoc {α : Type} (l : List α) (a : α) (F : α → Rat) : sumR ((l ++ [a]).map F) = sumR (l.map F) + F a := by
  induction l with
  | nil => simp [sumR]; grind
  | cons b l ih => simp only [List.cons_append, List.map_cons, sumR_cons]; rw [ih]; grind
/-- What counts for somebody over the first i piles. -/
theorem tfCnt_val {D : Int} {ps : List Pl} {ws : List Fr} (gs : List Bool) (k : Nat) (hp : ∀ p ∈ ps, 1 ≤ p.2) (hw : ∀ i, i < ps.length → TfOkW D (tfW ws i)) : ∀ i, i ≤ ps.length →
    valR (tfCnt ps ws gs k i) = sumR ((List.range i).map fun j => if tfFst ps gs j = (k : Int) then (mAt ps j : Rat) * valR (tfW ws j) else 0)
  | 0, _ => by show valR (0, 1) = sumR []; rw [val_int]; rfl
  | i + 1, h => by
    have ih := tfCnt_val gs k hp hw i (by omega)
    have ho := tfCnt_ok gs k hp hw i (by omega)
    rw [List.range_succ, sumR_snoc, ← ih]
    by_cases e : tfFst ps gs i = (k : Int)
    · rw [tfCnt_hit e, if_pos e, tfAdd_val ho.pos (hw i (by omega)).pos]
    · rw [tfCnt_miss e, if_neg e]; grind
theorem tfCnt_cntR {D : Int} {ps : List Pl} {ws : List Fr} (gs : List Bool) (k : Nat) (hp : ∀ p ∈ ps, 1 ≤ p.2) (hw : ∀ i, i < ps.length → TfOkW D (tfW ws i)) : valR (tfCnt ps ws gs k ps.length) = cntR (tfBal ps ws) (tfG gs) (k : Int) := by
  rw [tfCnt_val gs k hp hw _ (Nat.le_refl _)]
  unfold cntR tfBal
  rw [List.map_map]
  refine sumR_congr _ _ _ (fun i _ => ?_)
  show _ = if fstC (parseL (tAt ps i)) (tfG gs) = (k : Int) then _ else _
  rw [tfFst_same]
theorem tf_cntR {ps : List Pl} {lots : List Int} {q : Int} {S : TfS} (A : TfArg ps lots q) (h : TfGood ps lots S) (hs : 1 ≤ S.s) {z : Int} (hz : z ∈ lots) : valR (tfC (S.cs ps) z) = cntR (tfBal ps S.ws) (tfG S.gs) z := by
  obtain ⟨D, hD, _, hw, _⟩ := h.count A hs hz
  obtain ⟨hz0, hz1⟩ := A.mem z hz
  rw [tfC_at hz0 (by rw [h.lg]; exact hz1), tfCnt_cntR S.gs z.toNat A.ones hw, Int.toNat_of_nonneg hz0]
/-- Who has most. -/
theorem tfFold_most {cs : List Fr} {R : Int → Rat} : ∀ (l : List Int) (b : Int), (∀ z ∈ b :: l, 0 < (tfC cs z).2 ∧ valR (tfC cs z) = R z) → tfFold false cs b l = topQ R b l
  | [], _, _ => rfl
  | k :: t, b, h => by
    unfold tfFold topQ
    have hb := h b (by simp)
    have hk := h k (by simp)
    have hl := val_less hb.1 hk.1
    rw [hb.2, hk.2] at hl
    have e : tfPick false cs b k = if R b < R k then k else b := by
      have e0 : tfAhead false cs b k = lessF (tfC cs b) (tfC cs k) := rfl
      unfold tfPick
      rw [e0]
      by_cases g : R b < R k
      · rw [if_pos (hl.2 g), if_pos g]
      · rw [if_neg (fun g2 => g (hl.1 g2)), if_neg g]
    rw [e]
    refine tfFold_most t _ (fun z hz => ?_)
    rcases List.mem_cons.1 hz with rfl | hz
    · by_cases g : R b < R k
      · rw [if_pos g]; exact hk
      · rw [if_neg g]; exact hb
    · exact h z (by simp [hz])
/-- The last one of those who have least, from the front. -/
def lowF (R : Int → Rat) : Int → List Int → Int
  | b, [] => b
  | b, k :: t => lowF R (if R k ≤ R b then k else b) t
theorem tfFold_least {cs : List Fr} {R : Int → Rat} : ∀ (l : List Int) (b : Int), (∀ z ∈ b :: l, 0 < (tfC cs z).2 ∧ valR (tfC cs z) = R z) → tfFold true cs b l = lowF R b l
  | [], _, _ => rfl
  | k :: t, b, h => by
    unfold tfFold lowF
    have hb := h b (by simp)
    have hk := h k (by simp)
    have hl := val_less hb.1 hk.1
    rw [hb.2, hk.2] at hl
    have e : tfPick true cs b k = if R k ≤ R b then k else b := by
      have e0 : tfAhead true cs b k = !lessF (tfC cs b) (tfC cs k) := rfl
      unfold tfPick
      rw [e0]
      by_cases g : R b < R k
      · rw [hl.2 g, if_neg (by decide), if_neg (by grind)]
      · have g2 : lessF (tfC cs b) (tfC cs k) = false := by
          cases e : lessF (tfC cs b) (tfC cs k)
          · rfl
          · exact absurd (hl.1 e) g
        rw [g2, if_pos (by decide), if_pos (by grind)]
    rw [e]
    refine tfFold_least t _ (fun z hz => ?_)
    rcases List.mem_cons.1 hz with rfl | hz
    · by_cases g : R k ≤ R b
      · rw [if_pos g]; exact hk
      · rw [if_neg g]; exact hb
    · exact h z (by simp [hz])
theorem topQ_snoc (R : Int → Rat) (x : Int) : ∀ (l : List Int) (b : Int), topQ R b (l ++ [x]) = if R (topQ R b l) < R x then x else topQ R b l
  | [], _ => rfl
  | k :: t, b => by show topQ R _ (t ++ [x]) = _; rw [topQ_snoc R x t]; rfl
/-- From behind. -/
def backF (R : Int → Rat) (l : List Int) : Int := topQ (fun z => 0 - R z) (l.reverse[0]?.getD (-1)) (l.reverse.drop 1)
theorem backF_cons (R : Int → Rat) (x : Int) {t : List Int} (h : t ≠ []) : backF R (x :: t) = if R x < R (backF R t) then x else backF R t := by
  have hr : t.reverse ≠ [] := fun e => h (List.reverse_eq_nil_iff.1 e)
  unfold backF
  rw [List.reverse_cons]
  match ht : t.reverse, hr with
  | a :: u, _ =>
    show topQ _ a (u ++ [x]) = _
    rw [topQ_snoc]
    show (if 0 - R (topQ _ a u) < 0 - R x then x else topQ _ a u) = if R x < R (topQ _ a u) then x else topQ _ a u
    by_cases g : R x < R (topQ (fun z => 0 - R z) a u)
    · rw [if_pos g, if_pos (by grind)]
    · rw [if_neg g, if_neg (by grind)]
theorem lowF_back (R : Int → Rat) : ∀ (t : List Int) (x : Int), lowF R x t = backF R (x :: t)
  | [], _ => rfl
  | y :: t, x => by
    rw [backF_cons R x (by simp)]
    show lowF R (if R y ≤ R x then y else x) t = _
    rw [lowF_back R t]
    cases t with
    | nil =>
      show (if R y ≤ R x then y else x) = if R x < R y then x else y
      by_cases g : R y ≤ R x
      · rw [if_pos g, if_neg (by grind)]
      · rw [if_neg g, if_pos (by grind)]
    | cons z u =>
      rw [backF_cons R _ (by simp), backF_cons R y (by simp)]
      obtain ⟨m, hm⟩ : ∃ m, backF R (z :: u) = m := ⟨_, rfl⟩
      rw [hm]
      by_cases g : R y ≤ R x
      · rw [if_pos g]
        by_cases g2 : R y < R m
        · rw [if_pos g2, if_neg (by grind)]
        · rw [if_neg g2, if_neg (by grind)]
      · rw [if_neg g]
        by_cases g2 : R y < R m
        · rw [if_pos g2, if_pos (by grind), if_pos (by grind)]
        · rw [if_neg g2]
section
variable {ps : List Pl} {lots : List Int} {q : Int} {S : TfS}
theorem tf_list {l : List Int} (h : l ≠ []) : l[0]?.getD (-1) ∈ l ∧ ∀ z ∈ l[0]?.getD (-1) :: l.drop 1, z ∈ l := by
  match l, h with
  | a :: t, _ => exact ⟨by simp, fun z hz => by simpa using hz⟩
theorem tf_vals (A : TfArg ps lots q) (h : TfGood ps lots S) (hs : 1 ≤ S.s) : ∀ z ∈ (thereL lots (tfG S.gs))[0]?.getD (-1) :: (thereL lots (tfG S.gs)).drop 1, 0 < (tfC (S.cs ps) z).2 ∧ valR (tfC (S.cs ps) z) = cntR (tfBal ps S.ws) (tfG S.gs) z := by
  intro z hz
  have hm := there_mem.1 ((tf_list (h.ne hs)).2 z hz)
  obtain ⟨_, _, _, _, hc⟩ := h.count A hs hm.1
  exact ⟨hc.pos, tf_cntR A h hs hm.1⟩
theorem tf_most (A : TfArg ps lots q) (h : TfGood ps lots S) (hs : 1 ≤ S.s) : tfBest false (S.cs ps) S.gs lots = mostQ lots (tfG S.gs) (cntR (tfBal ps S.ws) (tfG S.gs)) := tfFold_most _ _ (tf_vals A h hs)
theorem tf_least (A : TfArg ps lots q) (h : TfGood ps lots S) (hs : 1 ≤ S.s) : tfBest true (S.cs ps) S.gs lots = leastQ lots (tfG S.gs) (cntR (tfBal ps S.ws) (tfG S.gs)) := by
  refine (tfFold_least (R := cntR (tfBal ps S.ws) (tfG S.gs)) _ _ (tf_vals A h hs)).trans ?_
  rw [lowF_back]
  unfold leastQ backF
  match hl : thereL lots (tfG S.gs), h.ne hs with
  | a :: t, _ => rfl
theorem tf_kind (A : TfArg ps lots q) (h : TfGood ps lots S) (hs : 1 ≤ S.s) : S.kind ps lots q = kindT lots (q : Rat) (tfG S.gs) (tfBal ps S.ws) S.s := by
  have hm := tfBest_mem (least := false) (cs := S.cs ps) (h.ne hs)
  obtain ⟨_, _, _, _, hc⟩ := h.count A hs (there_mem.1 hm).1
  have hl := val_less (b := (q, 1)) hc.pos (by show (0 : Int) < 1; decide)
  rw [val_int, tf_cntR A h hs (there_mem.1 hm).1] at hl
  unfold TfS.kind tfKind kindT
  rw [← tf_most A h hs]
  by_cases g : cntR (tfBal ps S.ws) (tfG S.gs) (tfBest false (S.cs ps) S.gs lots) < (q : Rat)
  · rw [if_pos (hl.2 g), if_neg (Rat.not_le.2 g)]
  · rw [if_neg (fun g2 => g (hl.1 g2)), if_pos (Rat.not_lt.1 g)]
theorem tf_who (A : TfArg ps lots q) (h : TfGood ps lots S) (hs : 1 ≤ S.s) : S.who ps lots q = whoT lots (q : Rat) (tfG S.gs) (tfBal ps S.ws) S.s := by
  have hk := tf_kind A h hs
  unfold TfS.kind at hk
  unfold TfS.who tfWho whoT
  rw [hk, tf_most A h hs, tf_least A h hs]
theorem tfCut_val {w c : Fr} {q : Int} (hw : 0 < w.2) (hc : 0 < c.2) (hc1 : 0 < c.1) : valR (tfCut w c q) = valR w * ((valR c - (q : Rat)) / valR c) := by
  unfold tfCut
  rw [val_of (Int.mul_pos hw hc1)]
  have h1 := cast_ne hw
  have h2 := cast_ne hc
  have h3 := cast_ne hc1
  unfold valR
  rw [Rat.intCast_mul, Rat.intCast_mul, Rat.intCast_sub, Rat.intCast_mul]
  grind
theorem tf_next (A : TfArg ps lots q) (h : TfGood ps lots S) (hs : 1 ≤ S.s) : tfBal ps (tfNext ps lots q S).ws = nextB lots (q : Rat) (tfG S.gs) (tfBal ps S.ws) S.s ∧ tfG (tfNext ps lots q S).gs = nextG lots (q : Rat) (tfG S.gs) (tfBal ps S.ws) S.s ∧ (tfNext ps lots q S).s = nextS lots (q : Rat) (tfG S.gs) (tfBal ps S.ws) S.s := by
  have hk := tf_kind A h hs
  have hw := tf_who A h hs
  refine ⟨?_, ?_, ?_⟩
  · unfold nextB
    rw [← hk, ← hw]
    show tfBal ps (if S.kind ps lots q = 1 then _ else _) = _
    by_cases e : S.kind ps lots q = 1
    · rw [if_pos e, if_pos e]
      have hm := (there_mem.1 (h.who_mem (q := q) hs)).1
      obtain ⟨D, hD, _, hwt, hc⟩ := h.count A hs hm
      have hv := tf_cntR A h hs hm
      have hq := tfKind_one e
      have hq' : ¬ ((tfC (S.cs ps) (S.who ps lots q)).1 * 1 < q * (tfC (S.cs ps) (S.who ps lots q)).2) := by
        have : lessF (tfC (S.cs ps) (S.who ps lots q)) (q, 1) = false := hq
        unfold lessF at this
        simpa using this
      have hc1 : 0 < (tfC (S.cs ps) (S.who ps lots q)).1 := by
        have := Int.mul_pos (show 0 < q by have := A.qpos; omega) hc.pos
        omega
      rw [← hv]
      unfold weighR tfBal
      rw [List.map_map]
      refine List.map_congr_left (fun i hi => ?_)
      have hi := List.mem_range.1 hi
      rw [tfWeigh_at hi]
      show _ = if fstC (parseL (tAt ps i)) (tfG S.gs) = _ then _ else _
      rw [tfFst_same]
      unfold tfWgh
      by_cases g : tfFst ps S.gs i = S.who ps lots q
      · rw [if_pos g, if_pos g, tfCut_val (hwt i hi).pos hc.pos hc1]
        show (_, _) = (_, _)
        rw [Prod.mk.injEq]
        exact ⟨rfl, by grind⟩
      · rw [if_neg g, if_neg g]
    · rw [if_neg e, if_neg e]
  · rw [(h.next A hs).2.1]
    unfold nextG; rw [hw]
  · unfold nextS
    rw [← hk]; rfl
/-- **The steps are those of exact weights.** -/
theorem tf_run (A : TfArg ps lots q) : ∀ (f : Nat) (S : TfS), TfGood ps lots S → (tfRun ps lots q f S).map (fun t => (t.2.1, t.2.2)) = runT lots (q : Rat) f (tfG S.gs) (tfBal ps S.ws) S.s
  | 0, _, _ => rfl
  | f + 1, S, h => by
    rw [runT_step]
    by_cases hs : S.s = 0
    · rw [if_pos hs, tfRun_zero _ _ _ _ hs]; rfl
    · rw [if_neg hs, tfRun_step _ _ _ _ hs, List.map_cons, tf_run A f _ (h.next A (by omega)).1]
      obtain ⟨e1, e2, e3⟩ := tf_next A h (by omega)
      rw [e1, e2, e3, ← tf_kind A h (by omega), ← tf_who A h (by omega)]; rfl
end
/-- Those who get seats. -/
def tfWin (l : List TfStp) : List Int := winT (l.map fun t => (t.2.1, t.2.2))
theorem tfWin_cons (t : TfStp) (l : List TfStp) : tfWin (t :: l) = if t.2.2 = 2 then tfWin l else t.2.1 :: tfWin l := winT_cons _ _
theorem tfWin_app (a b : List TfStp) : tfWin (a ++ b) = tfWin a ++ tfWin b := by simp [tfWin, winT]

end Go.Proofs.Ytafnmongglhlaaa
