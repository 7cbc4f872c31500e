/-
  What the steps of a transfer keep, told from the first step on: who is taken, how many are left, what counts are, and how their sum goes down. Of no memory.
-/
import Derived.Test.YtafnmongglhlaaaGrp13
import Derived.Test.YtafnmongglhlaaaGrp14
namespace Go.Proofs.Ytafnmongglhlaaa

section
variable {ps : List Pl} {lots : List Int} {q : Int} {S : TfS}

/-- The count of somebody, as it is weighed. -/
theorem tf_val (A : TfArg ps lots q) (h : TfGood ps lots S) (hs : 1 ≤ S.s) {z : Int} (hz : z ∈ lots) : 0 < (tfC (S.cs ps) z).2 ∧ valR (tfC (S.cs ps) z) = cntR (tfBal ps S.ws) (tfG S.gs) z ∧ 0 ≤ valR (tfC (S.cs ps) z) := by
  obtain ⟨D, hD, _, _, hc⟩ := h.count A hs hz
  exact ⟨hc.pos, tf_cntR A h hs hz, (val_low hc.pos).2 hc.low⟩
theorem less_no {a b : Fr} (ha : 0 < a.2) (hb : 0 < b.2) (h : valR b ≤ valR a) : lessF a b = false := by
  cases e : lessF a b
  · rfl
  · have := (val_less ha hb).1 e
    exact absurd h (Rat.not_le.2 this)
theorem less_le {a b : Fr} (ha : 0 < a.2) (hb : 0 < b.2) : lessF a b = false ↔ valR b ≤ valR a := by
  refine ⟨fun e => ?_, less_no ha hb⟩
  apply Rat.not_lt.1
  intro hlt
  rw [(val_less ha hb).2 hlt] at e
  cases e
theorem cs_length (ps : List Pl) (S : TfS) : (S.cs ps).length = S.gs.length := by simp [TfS.cs, tfCnts]
theorem tfC_nat (cs : List Fr) (k : Nat) : tfC cs (k : Int) = fAt cs k := by unfold tfC fAt; rw [Int.toNat_natCast]

/-- A step: n counts that are fractions; who reaches the quota gets a seat; a seat goes to the greatest count; who leaves, leaves where nobody reaches it. -/
structure InOk (q : Int) (n : Nat) (t : TfStp) : Prop where
  len : t.1.length = n
  who : 0 ≤ t.2.1 ∧ t.2.1 < (n : Int)
  kind : t.2.2 = 1 ∨ t.2.2 = 2 ∨ t.2.2 = 3
  fr : ∀ k, k < n → fracB (fAt t.1 k) = true
  one : t.2.2 = 1 ↔ lessF (tfC t.1 t.2.1) (q, 1) = false
  most : t.2.2 ≠ 2 → ∀ k, k < n → lessF (tfC t.1 t.2.1) (fAt t.1 k) = false
  out : t.2.2 = 2 → ∀ k, k < n → lessF (fAt t.1 k) (q, 1) = true
theorem in_step (A : TfArg ps lots q) (h : TfGood ps lots S) (hs : 1 ≤ S.s) : InOk q lots.length (tfStep ps lots q S) := by
  have hne := h.ne hs
  have hm := h.who_mem (q := q) hs
  have hml := (there_mem.1 hm).1
  obtain ⟨w1, w2, w3⟩ := tf_val A h hs hml
  have hkT := tf_kind A h hs
  have hwT := tf_who A h hs
  have hq1 : (0 : Int) < ((q, 1) : Fr).2 := by show (0 : Int) < 1; omega
  have hqv : valR (q, 1) = (q : Rat) := val_int q
  have hk : ∀ k, k < lots.length → (0 < (fAt (S.cs ps) k).2 ∧ valR (fAt (S.cs ps) k) = cntR (tfBal ps S.ws) (tfG S.gs) (k : Int)) ∧ ((tfG S.gs (k : Int) = false ∧ (k : Int) ∈ thereL lots (tfG S.gs)) ∨ (tfG S.gs (k : Int) = true ∧ cntR (tfBal ps S.ws) (tfG S.gs) (k : Int) = 0)) := fun k hk => by
    have hz := lots_mem A.lots hk
    obtain ⟨v1, v2, v3⟩ := tf_val A h hs hz
    rw [tfC_nat] at v1 v2
    refine ⟨⟨v1, v2⟩, ?_⟩
    cases hg : tfG S.gs (k : Int)
    · exact .inl ⟨rfl, there_mem.2 ⟨hz, hg⟩⟩
    · exact .inr ⟨rfl, cnt_gone hg (by omega) _⟩
  refine ⟨?_, A.mem _ hml, ?_, fun k hkn => ?_, ?_, fun hk2 k hkn => ?_, fun hk2 k hkn => ?_⟩
  · show (S.cs ps).length = lots.length
    rw [cs_length, h.lg]
  · show S.kind ps lots q = 1 ∨ _
    rw [show (tfStep ps lots q S).2.2 = S.kind ps lots q from rfl, hkT]
    exact kind_cases _ _ _ _ _
  · have := h.valid A hs (lots_mem A.lots hkn)
    rw [tfC_nat] at this
    exact this
  · show S.kind ps lots q = 1 ↔ lessF (tfC (S.cs ps) (S.who ps lots q)) (q, 1) = false
    rw [less_le w1 hq1, hqv, w2, hkT, hwT]
    exact kind_quota hne
  · show lessF (tfC (S.cs ps) (S.who ps lots q)) (fAt (S.cs ps) k) = false
    have hk2' : kindT lots (q : Rat) (tfG S.gs) (tfBal ps S.ws) S.s ≠ 2 := by rw [← hkT]; exact hk2
    obtain ⟨⟨v1, v2⟩, hc⟩ := hk k hkn
    rw [less_le w1 v1, v2]
    rcases hc with ⟨_, hin⟩ | ⟨_, h0⟩
    · rw [w2, hwT]
      exact seat_most hne hk2' _ hin
    · rw [h0]; exact w3
  · show lessF (fAt (S.cs ps) k) (q, 1) = true
    have hk2' : kindT lots (q : Rat) (tfG S.gs) (tfBal ps S.ws) S.s = 2 := by rw [← hkT]; exact hk2
    obtain ⟨⟨v1, v2⟩, hc⟩ := hk k hkn
    rw [val_less v1 hq1, hqv, v2]
    rcases hc with ⟨_, hin⟩ | ⟨_, h0⟩
    · exact out_all hne hk2' _ hin
    · rw [h0]
      have := A.qpos
      exact_mod_cast (show (0 : Int) < q by omega)
theorem in_run (A : TfArg ps lots q) : ∀ (f : Nat) (S : TfS), TfGood ps lots S → ∀ t ∈ tfRun ps lots q f S, InOk q lots.length t := by
  intro f S h t ht
  obtain ⟨i, hi, rfl⟩ := List.mem_iff_getElem.1 ht
  obtain ⟨a, b, c⟩ := tf_at A f S h i hi
  have e : (tfRun ps lots q f S)[i] = tfStep ps lots q (tfAt ps lots q S i) := by
    rw [List.getElem?_eq_getElem hi] at a
    injection a
  rw [e]
  exact in_step A b c

/-- How many are left, and how many seats. -/
def RestOk : List TfStp → Nat → Nat → Prop
  | [], _, rest => rest = 0
  | t :: l, left, rest => (1 ≤ left ∧ 1 ≤ rest) ∧ (t.2.2 = 3 → left ≤ rest) ∧ (t.2.2 = 2 → rest < left) ∧ RestOk l (left - 1) (if t.2.2 = 2 then rest else rest - 1)
theorem rest_run (A : TfArg ps lots q) : ∀ (f : Nat) (S : TfS), TfGood ps lots S → (thereL lots (tfG S.gs)).length ≤ f → RestOk (tfRun ps lots q f S) (thereL lots (tfG S.gs)).length S.s
  | 0, S, h, hf => by
    have := h.fit
    show S.s = 0
    omega
  | f + 1, S, h, hf => by
    by_cases hs : S.s = 0
    · rw [tfRun_zero _ _ _ _ hs]; exact hs
    · rw [tfRun_step _ _ _ _ hs]
      obtain ⟨h1, _, h3⟩ := h.next A (by omega)
      have hkT := tf_kind A h (by omega)
      have hk := rest_kind (lots := lots) (q := (q : Rat)) (g := tfG S.gs) (B := tfBal ps S.ws) (s := S.s)
      rw [← hkT] at hk
      have ih := rest_run A f _ h1 (by omega)
      have e1 : (thereL lots (tfG (tfNext ps lots q S).gs)).length = (thereL lots (tfG S.gs)).length - 1 := by omega
      rw [e1] at ih
      exact ⟨⟨by omega, by omega⟩, hk.1, hk.2, ih⟩

/-- Who is gone counts nothing; who leaves has least of those who are there. -/
def OutOk (n : Nat) : List TfStp → List Int → Prop
  | [], _ => True
  | t :: l, gone => (∀ k, k < n → ((k : Int) ∈ gone → fAt t.1 k = (0, 1)) ∧ ((k : Int) ∉ gone → t.2.2 = 2 → lessF (fAt t.1 k) (tfC t.1 t.2.1) = false)) ∧ t.2.1 ∉ gone ∧ OutOk n l (gone ++ [t.2.1])
theorem out_run (A : TfArg ps lots q) : ∀ (f : Nat) (S : TfS) (gone : List Int), TfGood ps lots S → (∀ z ∈ lots, z ∈ gone ↔ tfG S.gs z = true) → OutOk lots.length (tfRun ps lots q f S) gone
  | 0, _, _, _, _ => True.intro
  | f + 1, S, gone, h, hg => by
    by_cases hs : S.s = 0
    · rw [tfRun_zero _ _ _ _ hs]; exact True.intro
    · rw [tfRun_step _ _ _ _ hs]
      have hs1 : 1 ≤ S.s := by omega
      have hne := h.ne hs1
      have hm := h.who_mem (q := q) hs1
      have hml := there_mem.1 hm
      obtain ⟨w1, w2, w3⟩ := tf_val A h hs1 hml.1
      have hkT := tf_kind A h hs1
      have hwT := tf_who A h hs1
      obtain ⟨h1, h2, h3⟩ := h.next A hs1
      refine ⟨fun k hk => ?_, fun hx => ?_, out_run A f _ _ h1 (fun z hz => ?_)⟩
      · have hz := lots_mem A.lots hk
        obtain ⟨v1, v2, v3⟩ := tf_val A h hs1 hz
        obtain ⟨D, hD, _, _, hc⟩ := h.count A hs1 hz
        rw [tfC_nat] at v1 v2 hc
        refine ⟨fun hx => ?_, fun hx hk2 => ?_⟩
        · have h0 := cnt_gone ((hg _ hz).1 hx) (by omega) (tfBal ps S.ws)
          rw [h0] at v2
          refine val_inj hc.red ⟨by decide, by decide⟩ ?_
          show valR (fAt (S.cs ps) k) = valR (0, 1)
          rw [v2, val_int]; rfl
        · show lessF (fAt (S.cs ps) k) (tfC (S.cs ps) (S.who ps lots q)) = false
          have hgf : tfG S.gs (k : Int) = false := by
            cases e : tfG S.gs (k : Int)
            · rfl
            · exact absurd ((hg _ hz).2 e) hx
          rw [less_le v1 w1, v2, w2, hwT]
          exact out_least hne (by rw [← hkT]; exact hk2) _ (there_mem.2 ⟨hz, hgf⟩)
      · have := (hg _ hml.1).1 hx
        rw [hml.2] at this; cases this
      · rw [h2, List.mem_append, hg z hz]
        unfold goneP
        rw [Bool.or_eq_true, decide_eq_true_iff, List.mem_singleton]; rfl

/-- Who gets a seat comes in the order of the winners, and nobody comes twice. -/
def SeatOk (n : Nat) : List TfStp → List Int → List Int → Prop
  | [], _, win => win = []
  | t :: l, seen, win => (0 ≤ t.2.1 ∧ t.2.1 < (n : Int)) ∧ t.2.1 ∉ seen ∧ (if t.2.2 = 2 then SeatOk n l (seen ++ [t.2.1]) win else ∃ win', win = t.2.1 :: win' ∧ SeatOk n l (seen ++ [t.2.1]) win')
theorem seat_of {n : Nat} : ∀ (l : List TfStp) (seen : List Int), (∀ t ∈ l, InOk q n t) → OutOk n l seen → SeatOk n l seen (tfWin l)
  | [], _, _, _ => rfl
  | t :: l, seen, hi, ho => by
    obtain ⟨_, h2, h3⟩ := ho
    have ih := seat_of l (seen ++ [t.2.1]) (fun u hu => hi u (by simp [hu])) h3
    refine ⟨(hi t (by simp)).who, h2, ?_⟩
    rw [tfWin_cons]
    split
    · exact ih
    · exact ⟨_, rfl, ih⟩
theorem win_count (A : TfArg ps lots q) : ∀ (f : Nat) (S : TfS), TfGood ps lots S → (thereL lots (tfG S.gs)).length ≤ f → (tfWin (tfRun ps lots q f S)).length = S.s := by
  intro f S h hf
  unfold tfWin
  rw [tf_run A f S h]
  exact run_seats A.nodup f _ _ _ h.fit hf
end

/-- The sum of fractions, as the statement makes it: what does not fit is left out. -/
def fsStep (o c : Fr) : Fr := if addOk o c = true then addR o c else o
def fsF (cs : List Fr) : Fr := cs.foldl fsStep (0, 1)
theorem fsF_nil : fsF [] = (0, 1) := rfl
theorem fsF_snoc (cs : List Fr) (c : Fr) : fsF (cs ++ [c]) = fsStep (fsF cs) c := by simp [fsF]
theorem fsF_take {cs : List Fr} {k : Nat} (h : k < cs.length) : fsF (cs.take (k + 1)) = fsStep (fsF (cs.take k)) (fAt cs k) := by
  have e : cs[k] = fAt cs k := by simp [fAt, h]
  rw [List.take_succ_eq_append_getElem h, fsF_snoc, e]
theorem okc_wide {D m : Int} {c : Fr} (h : TfOkC D m c) (hD : 1 ≤ D ∧ D ≤ 60) (hm : m ≤ 1000) : fracB c = true := by
  have h1 := dvd_le (by omega) h.dvd
  have h2 := h.pos
  have h3 := h.high
  have h4 : m * c.2 ≤ 1000 * c.2 := Int.mul_le_mul_of_nonneg_right hm (by omega)
  have h5 := h.low
  exact fracB_of (by omega) (by omega) h.red.2
theorem okc_add {D m n : Int} {a b : Fr} (ha : TfOkC D m a) (hb : TfOkC D n b) : TfOkC D (m + n) (ofF (sumF a b).1 (sumF a b).2) ∧ valR (ofF (sumF a b).1 (sumF a b).2) = valR a + valR b := by
  have hr : Red (ofF (sumF a b).1 (sumF a b).2) := ofF_red (sumF_pos ha.pos hb.pos)
  have hv := val_sum ha.pos hb.pos
  have v1 := (val_low hb.pos).2 hb.low
  have v2 := (val_low ha.pos).2 ha.low
  have v3 := (val_high ha.pos m).2 ha.high
  have v4 := (val_high hb.pos n).2 hb.high
  refine ⟨⟨hr, sum_dvd ha.pos hb.pos ha.dvd hb.dvd, ?_, ?_⟩, hv⟩
  · refine (val_low hr.1).1 ?_
    rw [hv]; grind
  · refine (val_high hr.1 (m + n)).1 ?_
    rw [hv, Rat.intCast_add]; grind
theorem fs_ok {D : Int} (hD : 1 ≤ D ∧ D ≤ 60) {cs : List Fr} (h : ∀ k, k < cs.length → TfOkC D 60 (fAt cs k)) (h5 : cs.length ≤ 5) : ∀ k, k ≤ cs.length → TfOkC D (60 * (k : Int)) (fsF (cs.take k)) ∧ valR (fsF (cs.take k)) = sumR ((List.range k).map fun i => valR (fAt cs i))
  | 0, _ => ⟨TfOkC.zero D, by rw [List.take_zero, fsF_nil, val_int]; rfl⟩
  | k + 1, hk => by
    obtain ⟨ih1, ih2⟩ := fs_ok hD h h5 k (by omega)
    have hc := h k (by omega)
    obtain ⟨a1, a2⟩ := okc_add ih1 hc
    have hok : addOk (fsF (cs.take k)) (fAt cs k) = true := (addOk_iff _ _).2 ⟨okc_wide ih1 hD (by omega), okc_wide hc hD (by omega), okc_wide a1 hD (by omega)⟩
    have e : fsF (cs.take (k + 1)) = ofF (sumF (fsF (cs.take k)) (fAt cs k)).1 (sumF (fsF (cs.take k)) (fAt cs k)).2 := by
      rw [fsF_take (by omega), fsStep, if_pos hok, addR_yes hok]
    rw [e]
    refine ⟨?_, ?_⟩
    · have : 60 * ((k + 1 : Nat) : Int) = 60 * (k : Int) + 60 := by omega
      rw [this]; exact a1
    · rw [a2, ih2, List.range_succ, sumR_snoc]
theorem fs_all {D : Int} (hD : 1 ≤ D ∧ D ≤ 60) {cs : List Fr} (h : ∀ k, k < cs.length → TfOkC D 60 (fAt cs k)) (h5 : cs.length ≤ 5) : TfOkC D 300 (fsF cs) ∧ valR (fsF cs) = sumR ((List.range cs.length).map fun i => valR (fAt cs i)) := by
  obtain ⟨a, b⟩ := fs_ok hD h h5 cs.length (Nat.le_refl _)
  rw [List.take_length] at a b
  refine ⟨⟨a.red, a.dvd, a.low, ?_⟩, b⟩
  have := a.high
  have h2 : 60 * (cs.length : Int) * (fsF cs).2 ≤ 300 * (fsF cs).2 := Int.mul_le_mul_of_nonneg_right (by omega) (Int.le_of_lt a.pos)
  omega

/-- All who may be named. -/
def allK (n : Nat) : List Int := (List.range n).map fun (k : Nat) => (k : Int)
theorem allK_mem {n : Nat} {z : Int} : z ∈ allK n ↔ 0 ≤ z ∧ z < (n : Int) := by
  unfold allK
  rw [List.mem_map]
  constructor
  · rintro ⟨k, hk, rfl⟩
    have := List.mem_range.1 hk
    omega
  · intro h
    exact ⟨z.toNat, List.mem_range.2 (by omega), by omega⟩
theorem allK_nodup (n : Nat) : (allK n).Nodup := by
  unfold allK List.Nodup
  rw [List.pairwise_map]
  refine List.Pairwise.imp ?_ List.nodup_range
  intro a b hab e
  exact hab (by omega)
/-- The sum of the counts of a step goes down, by the quota where it takes a seat. -/
def SumOk (q : Int) : List TfStp → Fr → Prop
  | [], _ => True
  | t :: l, sum => (fracB sum = true ∧ fracB (fsF t.1) = true) ∧ lessF sum (fsF t.1) = false ∧ (t.2.2 = 1 → addOk (fsF t.1) (0 - q, 1) = true) ∧ SumOk q l (if t.2.2 = 1 then addR (fsF t.1) (0 - q, 1) else fsF t.1)
theorem bal_val {D : Int} {ps : List Pl} {ws : List Fr} (hp : ∀ p ∈ ps, 1 ≤ p.2) (hw : ∀ i, i < ps.length → TfOkW D (tfW ws i)) : ValR (tfBal ps ws) := by
  intro b hb
  unfold tfBal at hb
  obtain ⟨i, hi, rfl⟩ := List.mem_map.1 hb
  have := (hw i (List.mem_range.1 hi)).vals.1
  have hm : (0 : Rat) ≤ (mAt ps i : Rat) := by exact_mod_cast mAt_pos hp i
  exact Rat.mul_nonneg hm this
theorem bal_names {ps : List Pl} {n : Nat} (hf : ∀ i, i < ps.length → ∀ z ∈ parseL (tAt ps i), 0 ≤ z ∧ z < (n : Int)) (ws : List Fr) : Names (tfBal ps ws) (allK n) := by
  intro b hb z hz
  unfold tfBal at hb
  obtain ⟨i, hi, rfl⟩ := List.mem_map.1 hb
  exact allK_mem.2 (hf i (List.mem_range.1 hi) z hz)
section
variable {ps : List Pl} {lots : List Int} {q : Int} {S : TfS}
theorem sum_val (A : TfArg ps lots q) (h : TfGood ps lots S) (hs : 1 ≤ S.s) : (∃ D, (1 ≤ D ∧ D ≤ 60) ∧ TfOkC D 300 (fsF (S.cs ps))) ∧ valR (fsF (S.cs ps)) = liveR (tfBal ps S.ws) (allK lots.length) (tfG S.gs) := by
  have hlen : (S.cs ps).length = lots.length := by rw [cs_length, h.lg]
  have h5 := (lotsB_len A.lots).2
  obtain ⟨D, hD, _, hw, hc⟩ := h.cnt A hs
  have hcs : ∀ k, k < (S.cs ps).length → TfOkC D 60 (fAt (S.cs ps) k) := fun k hk => by
    obtain ⟨D', hD', _, _, _⟩ := h.count A hs (lots_mem A.lots (show k < lots.length by omega))
    have e : fAt (S.cs ps) k = tfCnt ps S.ws S.gs k ps.length := by
      rw [← tfC_nat, tfC_at (by omega) (by rw [h.lg]; omega), Int.toNat_natCast]
    rw [e]
    obtain ⟨g1, g2⟩ := hc k ps.length (Nat.le_refl _)
    refine ⟨g1.red, g1.dvd, g1.low, ?_⟩
    have := g1.high
    have := Int.mul_le_mul_of_nonneg_right g2 (Int.le_of_lt g1.pos)
    omega
  obtain ⟨a, b⟩ := fs_all hD hcs (by omega)
  refine ⟨⟨D, hD, a⟩, ?_⟩
  rw [b, hlen, ← sum_cnt (allK_nodup _)]
  unfold allK
  rw [List.map_map]
  refine sumR_congr _ _ _ (fun k hk => ?_)
  have hz := lots_mem A.lots (List.mem_range.1 hk)
  have := (tf_val A h hs hz).2.1
  rw [tfC_nat] at this
  exact this
theorem sum_run (A : TfArg ps lots q) (hf : ∀ i, i < ps.length → ∀ z ∈ parseL (tAt ps i), 0 ≤ z ∧ z < (lots.length : Int)) : ∀ (f : Nat) (S : TfS) (sum : Fr), TfGood ps lots S → fracB sum = true → (1 ≤ S.s → liveR (tfBal ps S.ws) (allK lots.length) (tfG S.gs) ≤ valR sum) → SumOk q (tfRun ps lots q f S) sum
  | 0, _, _, _, _, _ => True.intro
  | f + 1, S, sum, h, hv, hle => by
    by_cases hs : S.s = 0
    · rw [tfRun_zero _ _ _ _ hs]; exact True.intro
    · rw [tfRun_step _ _ _ _ hs]
      have hs1 : 1 ≤ S.s := by omega
      obtain ⟨⟨D, hD, hc⟩, hx⟩ := sum_val A h hs1
      have hcv := okc_wide hc hD (by omega)
      have hne := h.ne hs1
      obtain ⟨_, _, _, hw, _⟩ := h.cnt A hs1
      have hq0 : (0 : Rat) < (q : Rat) := by
        have := A.qpos
        exact_mod_cast (show (0 : Int) < q by omega)
      have hss := step_sum (K := allK lots.length) (s := S.s) hq0 hne (bal_val A.ones hw) (bal_names hf S.ws) (fun e => by have := allK_mem.1 e; omega) (fun z hz => allK_mem.2 (A.mem z hz))
      rw [← tf_kind A h hs1] at hss
      obtain ⟨e1, e2, e3⟩ := tf_next A h hs1
      rw [← e1, ← e2] at hss
      have hq := A.qpos
      have hq2 := A.qtop
      have hqf : fracB (0 - q, 1) = true := fracB_of (by show -9999999 ≤ 0 - q ∧ 0 - q ≤ 9999999; omega) (by show 1 ≤ (1 : Int) ∧ (1 : Int) ≤ 9999999; omega) (by unfold gcdI; simp)
      have hk1 : S.kind ps lots q = 1 → addOk (fsF (S.cs ps)) (0 - q, 1) = true := fun _ => by
        refine (addOk_iff _ _).2 ⟨hcv, hqf, ?_⟩
        have h2 := dvd_le (by omega) hc.dvd
        have h3 := hc.pos
        have h4 := hc.high
        have h5 := hc.low
        have h6 : 300 * (fsF (S.cs ps)).2 ≤ 300 * 60 := Int.mul_le_mul_of_nonneg_left (by omega) (by omega)
        have h7 : 61 * (fsF (S.cs ps)).2 ≤ 61 * 60 := Int.mul_le_mul_of_nonneg_left (by omega) (by omega)
        have h8 : q * (fsF (S.cs ps)).2 ≤ 61 * (fsF (S.cs ps)).2 := Int.mul_le_mul_of_nonneg_right (by omega) (by omega)
        have h9 : 0 ≤ q * (fsF (S.cs ps)).2 := Int.mul_nonneg (by omega) (by omega)
        have e0 : (0 - q) * (fsF (S.cs ps)).2 = 0 - q * (fsF (S.cs ps)).2 := by rw [Int.sub_mul, Int.zero_mul]
        refine ofF_valid ?_ ?_
        · show -9999999 ≤ (fsF (S.cs ps)).1 * 1 + (0 - q) * (fsF (S.cs ps)).2 ∧ (fsF (S.cs ps)).1 * 1 + (0 - q) * (fsF (S.cs ps)).2 ≤ 9999999
          rw [e0]; omega
        · show 1 ≤ (fsF (S.cs ps)).2 * 1 ∧ (fsF (S.cs ps)).2 * 1 ≤ 9999999
          omega
      refine ⟨⟨hv, hcv⟩, ?_, hk1, ?_⟩
      · show lessF sum (fsF (S.cs ps)) = false
        rw [less_le (fracB_red hv).1 hc.pos, hx]
        exact hle hs1
      · refine sum_run A hf f _ _ (h.next A hs1).1 ?_ (fun hs2 => ?_)
        · show fracB (if S.kind ps lots q = 1 then addR (fsF (S.cs ps)) (0 - q, 1) else fsF (S.cs ps)) = true
          split
          · exact addR_valid (hk1 (by assumption))
          · exact hcv
        · show _ ≤ valR (if S.kind ps lots q = 1 then addR (fsF (S.cs ps)) (0 - q, 1) else fsF (S.cs ps))
          by_cases hk : S.kind ps lots q = 1
          · rw [if_pos hk] at hss ⊢
            have hok := hk1 hk
            rw [addR_yes hok, val_sum hc.pos (show (0 : Int) < ((0 - q, 1) : Fr).2 by show (0 : Int) < 1; omega), hx, val_int]
            have e0 : (((0 - q : Int)) : Rat) = 0 - (q : Rat) := by rw [Rat.intCast_sub]; rfl
            rw [e0]
            grind
          · rw [if_neg hk] at hss ⊢
            rw [hx]
            grind
theorem all_start (ps : List Pl) (n s : Nat) : allR (tfBal ps (tfStart ps n s).ws) = (sumL ps : Rat) := by
  have key : ∀ k, k ≤ ps.length → sumR ((List.range k).map fun i => ((mAt ps i : Rat) * valR (tfW (tfStart ps n s).ws i))) = (tfM ps k : Rat) := by
    intro k
    induction k with
    | zero => intro _; rfl
    | succ k ih =>
      intro hk
      rw [List.range_succ, sumR_snoc, ih (by omega)]
      have e : tfW (tfStart ps n s).ws k = (1, 1) := by
        have : k < ps.length := by omega
        simp [tfStart, tfW, this]
      have e2 : tfM ps (k + 1) = tfM ps k + mAt ps k := rfl
      rw [e, e2, val_int, Rat.intCast_add]; grind
  unfold allR tfBal
  rw [List.map_map]
  have := key ps.length (Nat.le_refl _)
  rw [tfM_all] at this
  exact this
theorem sum_start (A : TfArg ps lots q) (hf : ∀ i, i < ps.length → ∀ z ∈ parseL (tAt ps i), 0 ≤ z ∧ z < (lots.length : Int)) {s : Nat} (h1 : s ≤ 2) (h2 : s ≤ lots.length) (f : Nat) : SumOk q (tfRun ps lots q f (tfStart ps lots.length s)) (sumL ps, 1) := by
  have hS := tf_start A h1 h2
  have h0 : 0 ≤ sumL ps := by
    have := tfM_mono A.ones ps.length 0 (Nat.zero_le _)
    rw [tfM_all] at this
    exact this
  have h60 := A.sum
  refine sum_run A hf f _ _ hS (fracB_of (by show -9999999 ≤ sumL ps ∧ sumL ps ≤ 9999999; omega) (by show 1 ≤ (1 : Int) ∧ (1 : Int) ≤ 9999999; omega) (by unfold gcdI; simp)) (fun hs => ?_)
  obtain ⟨_, _, _, hw, _⟩ := hS.cnt A hs
  have := live_first (B := tfBal ps (tfStart ps lots.length s).ws) (K := allK lots.length) (tfG (tfStart ps lots.length s).gs) (bal_val A.ones hw)
  rw [all_start ps] at this
  rw [val_int]
  exact this
end

/-- The ballots that begin with both of a pair. -/
def solM (ps : List Pl) (x y : Int) : Nat → Int
  | 0 => 0
  | k + 1 => solM ps x y k + (if pairB x y (parseL (tAt ps k)) = true then mAt ps k else 0)
section
variable {ps : List Pl} {lots : List Int} {q : Int}
theorem sol_pair (n s : Nat) (x y : Int) : pairR (tfBal ps (tfStart ps n s).ws) x y = (solM ps x y ps.length : Rat) := by
  have key : ∀ k, k ≤ ps.length → sumR ((List.range k).map fun i => if pairB x y (parseL (tAt ps i)) = true then ((mAt ps i : Rat) * valR (tfW (tfStart ps n s).ws i)) else 0) = (solM ps x y k : Rat) := by
    intro k
    induction k with
    | zero => intro _; rfl
    | succ k ih =>
      intro hk
      rw [List.range_succ, sumR_snoc, ih (by omega)]
      have e : tfW (tfStart ps n s).ws k = (1, 1) := by
        have : k < ps.length := by omega
        simp [tfStart, tfW, this]
      rw [e, solM, val_int, Rat.intCast_add]
      split <;> grind
  unfold pairR tfBal
  rw [List.map_map]
  exact key ps.length (Nat.le_refl _)
theorem sol_wins (A : TfArg ps lots q) {s : Nat} (h1 : s ≤ 2) (h2 : s ≤ lots.length) (hq : sumL ps < (((s : Int)) + 1) * q) {x y : Nat} (hx : x < lots.length) (hy : y < lots.length) (hs : 1 ≤ s) (hm : q ≤ solM ps (x : Int) (y : Int) ps.length) :
    (x : Int) ∈ tfWin (tfRun ps lots q lots.length (tfStart ps lots.length s)) ∨ (y : Int) ∈ tfWin (tfRun ps lots q lots.length (tfStart ps lots.length s)) := by
  have hS := tf_start A h1 h2
  have hG : ∀ z ∈ lots, tfG (tfStart ps lots.length s).gs z = false := fun z hz => by
    show tfG (List.replicate lots.length false) z = false
    rw [tfG_nn (A.mem z hz).1, List.getElem?_replicate]; split <;> rfl
  have hT : thereL lots (tfG (tfStart ps lots.length s).gs) = lots := by
    unfold thereL
    rw [List.filter_eq_self]
    intro z hz
    rw [hG z hz]; rfl
  obtain ⟨_, _, _, hw, _⟩ := hS.cnt A hs
  have hq0 : (0 : Rat) < (q : Rat) := by
    have := A.qpos
    exact_mod_cast (show (0 : Int) < q by omega)
  unfold tfWin
  rw [tf_run A _ _ hS]
  refine solid A.nodup hq0 (lots_mem A.lots hx) (lots_mem A.lots hy) _ _ _ _ (by rw [hT]; exact Nat.le_refl _) (bal_val A.ones hw) ?_ ?_ (.inl (hG _ (lots_mem A.lots hx)))
  · rw [sol_pair]; exact_mod_cast hm
  · rw [all_start ps]
    have e : ((((s : Int)) + 1) * q : Int) = (((s : Int) + 1) * q) := rfl
    have : ((sumL ps : Int) : Rat) < (((((s : Int)) + 1) * q : Int) : Rat) := by exact_mod_cast hq
    rw [Rat.intCast_mul, Rat.intCast_add] at this
    exact this
end

end Go.Proofs.Ytafnmongglhlaaa
