/-
  Steps of any kind in memory, and l15Same and TransferCheck of spec: whether these are the steps. They write into no memory that was there.
  impl.TransferCheck and what it calls: slices.Equal at fractions, Step.equal. They write into no memory that was there.
  impl.TransferCheck: whether these are the steps. It writes into no memory that was there.
-/
import Derived.Test.YtafnmongglhlaaaGrp20
import Derived.Test.YtafnmongglhlaaaGrp16
import Derived.Test.YtafnmongglhlaaaGrp24
namespace Go.Proofs.Ytafnmongglhlaaa
open Go.RowKit

attribute [local go_sem] Oper.semAt_some

abbrev GSt := List Fr × Int × Int
def toG (s : TfStp) : GSt := (s.1, s.2.1, (s.2.2 : Int))
/-- The slice value reads as these steps, of any kind. -/
def IsG (w : World) (a : Option Addr) (len cap : Nat) (ss : List GSt) : Prop :=
  ss.length = len ∧ len ≤ cap ∧ len ≤ 1048600 ∧ (0 < len → ∃ b off, a = some ⟨b, off, none⟩ ∧ b < w.heap.size ∧
    ∀ j s, ss[j]? = some s → ∃ aj lj cj, w.cell? ⟨b, off + j * 3, none⟩ = some (.slice aj lj cj) ∧ w.cell? ⟨b, off + j * 3 + 1, none⟩ = some (.int .i64 s.2.1) ∧ w.cell? ⟨b, off + j * 3 + 2, none⟩ = some (.int .i64 s.2.2) ∧ IsFr w aj lj cj s.1)
theorem IsG.below {w w' : World} {a : Option Addr} {len cap : Nat} {ss : List GSt} (h : IsG w a len cap ss) (hb : Below w.heap.size w w') : IsG w' a len cap ss := by
  obtain ⟨h1, h2, h3, h4⟩ := h
  refine ⟨h1, h2, h3, fun hl => ?_⟩
  obtain ⟨b, off, e, hlt, hc⟩ := h4 hl
  refine ⟨b, off, e, Nat.lt_of_lt_of_le hlt hb.size, fun j s hs => ?_⟩
  obtain ⟨aj, lj, cj, k1, k2, k3, k4⟩ := hc j s hs
  exact ⟨aj, lj, cj, (hb.cell (p := ⟨b, off + j * 3, none⟩) hlt).trans k1, (hb.cell (p := ⟨b, off + j * 3 + 1, none⟩) hlt).trans k2, (hb.cell (p := ⟨b, off + j * 3 + 2, none⟩) hlt).trans k3, k4.below hb⟩
theorem IsG.at {w : World} {a : Option Addr} {len cap : Nat} {ss : List GSt} (h : IsG w a len cap ss) {j : Nat} {s : GSt} (hs : ss[j]? = some s) : ∃ b off aj lj cj, a = some ⟨b, off, none⟩ ∧ b < w.heap.size ∧ w.cell? ⟨b, off + j * 3, none⟩ = some (.slice aj lj cj) ∧ w.cell? ⟨b, off + j * 3 + 1, none⟩ = some (.int .i64 s.2.1) ∧ w.cell? ⟨b, off + j * 3 + 2, none⟩ = some (.int .i64 s.2.2) ∧ IsFr w aj lj cj s.1 := by
  have hj : j < ss.length := by
    by_cases g : j < ss.length
    · exact g
    · rw [List.getElem?_eq_none (by omega)] at hs; cases hs
  obtain ⟨b, off, e, hlt, hc⟩ := h.2.2.2 (by have := h.1; omega)
  obtain ⟨aj, lj, cj, k1, k2, k3, k4⟩ := hc j s hs
  exact ⟨b, off, aj, lj, cj, e, hlt, k1, k2, k3, k4⟩
theorem IsSt.g {w : World} {a : Option Addr} {len cap : Nat} {ss : List TfStp} (h : IsSt w a len cap ss) : IsG w a len cap (ss.map toG) := by
  obtain ⟨h1, h2, h3, h4⟩ := h
  refine ⟨by simpa using h1, h2, h3, fun hl => ?_⟩
  obtain ⟨b, off, e, hlt, hc⟩ := h4 hl
  refine ⟨b, off, e, hlt, fun j s hs => ?_⟩
  rw [List.getElem?_map] at hs
  cases hq : ss[j]? with
  | none => rw [hq] at hs; cases hs
  | some t =>
    rw [hq] at hs
    injection hs with hs
    subst hs
    exact hc j t hq
/-- One more of two lists. -/
theorem take_more {α : Type} {a b : List α} {j : Nat} {x y : α} (ha : a[j]? = some x) (hb : b[j]? = some y) : a.take (j + 1) = b.take (j + 1) ↔ a.take j = b.take j ∧ x = y := by
  obtain ⟨h1, e1⟩ := List.getElem?_eq_some_iff.1 ha
  obtain ⟨h2, e2⟩ := List.getElem?_eq_some_iff.1 hb
  rw [List.take_succ_eq_append_getElem h1, List.take_succ_eq_append_getElem h2, e1, e2]
  constructor
  · intro h
    have hl : (a.take j).length = (b.take j).length := by rw [List.length_take, List.length_take]; omega
    have := List.append_inj h hl
    exact ⟨this.1, by simpa using this.2⟩
  · rintro ⟨h3, rfl⟩
    rw [h3]
theorem take_differ {α : Type} {a b : List α} {j : Nat} (h : a.take j ≠ b.take j) : a ≠ b := fun e => h (by rw [e])
theorem fr_at {cs : List Fr} {j : Nat} (h : j < cs.length) : cs[j]? = some (fAt cs j) := by simp [fAt, h]
theorem eqF_eq (x y p q : Int) : eqF x y p q = true ↔ (x, y) = (p, q) := by simp [eqF]
/-- Whether these are the steps. -/
def chkT (ps : List Pl) (lots : List Int) (s : Int) (ys : List GSt) : Bool := transB ps lots s && decide ((tfAll ps lots s).map toG = ys)

set_option maxRecDepth 100000 in
set_option maxHeartbeats 2000000 in
/-- **l15Same**. -/
theorem l15Same_as (a : Option Addr) (len cap : Nat) (cs : List Fr) (b : Option Addr) (len' cap' : Nat) (ds : List Fr) (v : Bool) (w : World) (h : IsFr w a len cap cs) (h' : IsFr w b len' cap' ds) (hv : decide (cs = ds) = v) :
    Calls Try.prog 61 #[.slice a len cap, .slice b len' cap'] w fun e w' => e = .returned (.bool v) ∧ Dr w w' := by
  by_cases hl : len = len'
  · subst hl
    have H1 := Lib.hid h
    have H2 := Lib.hid h'
    have L1 := Lib.hid h.1
    have L2 := Lib.hid h'.1
    have HV := Lib.hid hv
    have hlm := h.2.2.1
    have hnn : ((len : Int) != (len : Int)) = false := by simp
    have hgd := run_guardF
    clear h h' hv
    go_enter Try.func61, Try.ntmps61
    go_wp2
    go_loopw [5] (fun iv wr => ∃ j : Nat, j ≤ len ∧ iv = .int .i64 (j : Int) ∧ Hid (cs.take j = ds.take j) ∧ Dr w wr) (fun iv _ => len - (intOf iv).toNat)
    case atStart => exact ⟨0, Nat.zero_le _, rfl, rfl, Dr.refl _⟩
    case round =>
      obtain ⟨j, hj, rfl, hT, hd⟩ := hrel
      by_cases hlt : j < len
      · obtain ⟨b1, o1, rfl, hl1, hc1⟩ := (H1.out.below (hd.below _)).2.2.2 (by omega)
        obtain ⟨b2, o2, rfl, hl2, hc2⟩ := (H2.out.below (hd.below _)).2.2.2 (by omega)
        obtain ⟨x, y, hxy⟩ : ∃ x y, fAt cs j = (x, y) := ⟨_, _, rfl⟩
        obtain ⟨p, q, hpq⟩ : ∃ p q, fAt ds j = (p, q) := ⟨_, _, rfl⟩
        have k1 := (hc1 j hlt).1
        have k2 := (hc1 j hlt).2
        have k3 := (hc2 j hlt).1
        have k4 := (hc2 j hlt).2
        rw [hxy] at k1 k2
        rw [hpq] at k3 k4
        have hji : (j : Int) < (len : Int) := by omega
        have hmore := take_more (fr_at (cs := cs) (j := j) (by rw [L1.out]; exact hlt)) (fr_at (cs := ds) (j := j) (by rw [L2.out]; exact hlt))
        rw [hxy, hpq] at hmore
        obtain ⟨t, ht⟩ : ∃ t, (!eqF x y p q) = t := ⟨_, rfl⟩
        have hq1 := run_neqF x y p q t ht
        clear hc1 hc2 hxy hpq
        cases t
        · have HT : Hid (cs.take (j + 1) = ds.take (j + 1)) := hmore.2 ⟨hT.out, (eqF_eq x y p q).1 (by simpa using ht)⟩
          clear hmore ht
          go_wp2_with fail
          go_quiet (fail)
          go_wp2
          go_roundw
          case rel => exact ⟨j + 1, by omega, by go_num, HT.out, hd.drewN _⟩
          case measure => simp [intOf]; omega
        · have HE : Hid (false = v) := by
            rw [Hid, ← HV.out]
            refine (decide_eq_false (take_differ (j := j + 1) fun e => ?_)).symm
            have := (eqF_eq x y p q).2 (hmore.1 e).2
            rw [this] at ht; cases ht
          clear hmore ht
          go_wp2_with fail
          go_quiet (fail)
          go_wp2
          go_ret
          exact ⟨ret_bool HE.out, hd.drewN _⟩
      · obtain rfl : j = len := by omega
        have HE : Hid (true = v) := by
          have h1 := hT.out
          rw [List.take_of_length_le (by rw [L1.out]; exact Nat.le_refl _), List.take_of_length_le (by rw [L2.out]; exact Nat.le_refl _)] at h1
          rw [Hid, ← HV.out]; exact (decide_eq_true h1).symm
        go_wp2
        go_ret
        exact ⟨ret_bool HE.out, hd⟩
  · have hnn : ((len : Int) != (len' : Int)) = true := by simp; omega
    obtain rfl : false = v := by rw [← hv]; exact (decide_eq_false (fun e => hl (by rw [← h.1, ← h'.1, e]))).symm
    clear h h' hv hl
    go_enter Try.func61, Try.ntmps61
    go_wp2
    go_ret
    exact ⟨rfl, Dr.refl _⟩

end Go.Proofs.Ytafnmongglhlaaa

namespace Go.Proofs.Ytafnmongglhlaaa
open Go.RowKit

attribute [local go_sem] Oper.semAt_some

set_option maxRecDepth 100000 in
set_option maxHeartbeats 2000000 in
/-- **slices.Equal** at fractions. -/
theorem eqFr_as (a : Option Addr) (len cap : Nat) (cs : List Fr) (b : Option Addr) (len' cap' : Nat) (ds : List Fr) (v : Bool) (w : World) (h : IsFr w a len cap cs) (h' : IsFr w b len' cap' ds) (hv : decide (cs = ds) = v) :
    Calls Try.prog 97 #[.slice a len cap, .slice b len' cap'] w fun e w' => e = .returned (.bool v) ∧ Dr w w' := by
  by_cases hl : len = len'
  · subst hl
    have H1 := Lib.hid h
    have H2 := Lib.hid h'
    have L1 := Lib.hid h.1
    have L2 := Lib.hid h'.1
    have HV := Lib.hid hv
    have hlm := h.2.2.1
    have hnn : ((len : Int) != (len : Int)) = false := by simp
    have hgd := run_guardF
    clear h h' hv
    go_enter Try.func97, Try.ntmps97
    go_wp2
    go_loopw [5, 13] (fun _ iv wr => ∃ j : Nat, j ≤ len ∧ iv = .int .i64 (j : Int) ∧ Hid (cs.take j = ds.take j) ∧ Dr w wr) (fun _ iv _ => len - (intOf iv).toNat)
    case atStart => exact ⟨0, Nat.zero_le _, rfl, rfl, Dr.refl _⟩
    case round =>
      obtain ⟨j, hj, rfl, hT, hd⟩ := hrel
      by_cases hlt : j < len
      · obtain ⟨b1, o1, rfl, hl1, hc1⟩ := (H1.out.below (hd.below _)).2.2.2 (by omega)
        obtain ⟨b2, o2, rfl, hl2, hc2⟩ := (H2.out.below (hd.below _)).2.2.2 (by omega)
        obtain ⟨x, y, hxy⟩ : ∃ x y, fAt cs j = (x, y) := ⟨_, _, rfl⟩
        obtain ⟨p, q, hpq⟩ : ∃ p q, fAt ds j = (p, q) := ⟨_, _, rfl⟩
        have k1 := (hc1 j hlt).1
        have k2 := (hc1 j hlt).2
        have k3 := (hc2 j hlt).1
        have k4 := (hc2 j hlt).2
        rw [hxy] at k1 k2
        rw [hpq] at k3 k4
        have hji : (j : Int) < (len : Int) := by omega
        have hmore := take_more (fr_at (cs := cs) (j := j) (by rw [L1.out]; exact hlt)) (fr_at (cs := ds) (j := j) (by rw [L2.out]; exact hlt))
        rw [hxy, hpq] at hmore
        obtain ⟨t, ht⟩ : ∃ t, (!eqF x y p q) = t := ⟨_, rfl⟩
        have hq1 := run_neqF x y p q t ht
        clear hc1 hc2 hxy hpq
        cases t
        · have HT : Hid (cs.take (j + 1) = ds.take (j + 1)) := hmore.2 ⟨hT.out, (eqF_eq x y p q).1 (by simpa using ht)⟩
          clear hmore ht
          go_wp2_with fail
          go_quiet (fail)
          go_wp2
          go_roundw
          case rel => exact ⟨j + 1, by omega, by go_num, HT.out, hd.drewN _⟩
          case measure => simp [intOf]; omega
        · have HE : Hid (false = v) := by
            rw [Hid, ← HV.out]
            refine (decide_eq_false (take_differ (j := j + 1) fun e => ?_)).symm
            have := (eqF_eq x y p q).2 (hmore.1 e).2
            rw [this] at ht; cases ht
          clear hmore ht
          go_wp2_with fail
          go_quiet (fail)
          go_wp2
          go_ret
          exact ⟨ret_bool HE.out, hd.drewN _⟩
      · obtain rfl : j = len := by omega
        have HE : Hid (true = v) := by
          have h1 := hT.out
          rw [List.take_of_length_le (by rw [L1.out]; exact Nat.le_refl _), List.take_of_length_le (by rw [L2.out]; exact Nat.le_refl _)] at h1
          rw [Hid, ← HV.out]; exact (decide_eq_true h1).symm
        go_wp2
        go_ret
        exact ⟨ret_bool HE.out, hd⟩
  · have hnn : ((len : Int) != (len' : Int)) = true := by simp; omega
    obtain rfl : false = v := by rw [← hv]; exact (decide_eq_false (fun e => hl (by rw [← h.1, ← h'.1, e]))).symm
    clear h h' hv hl
    go_enter Try.func97, Try.ntmps97
    go_wp2
    go_ret
    exact ⟨rfl, Dr.refl _⟩

set_option maxRecDepth 100000 in
set_option maxHeartbeats 4000000 in
/-- **Step.equal**. -/
theorem stepEqual_as (a : Option Addr) (len cap : Nat) (cs : List Fr) (x k : Int) (b : Option Addr) (len' cap' : Nat) (ds : List Fr) (p q : Int) (v : Bool) (w : World) (h : IsFr w a len cap cs) (h' : IsFr w b len' cap' ds) (hv : decide (((cs, x, k) : GSt) = (ds, p, q)) = v) :
    Calls Try.prog 60 #[.agg #[.slice a len cap, .int .i64 x, .int .i64 k], .agg #[.slice b len' cap', .int .i64 p, .int .i64 q]] w fun e w' => e = .returned (.bool v) ∧ Below w.heap.size w w' := by
  obtain ⟨w1, hw1⟩ : ∃ w1, w.alloc (.cells #[.slice a len cap, .int .i64 x, .int .i64 k] 35) = w1 := ⟨_, rfl⟩
  obtain ⟨w2, hw2⟩ : ∃ w2, w1.alloc (.cells #[.slice b len' cap', .int .i64 p, .int .i64 q] 35) = w2 := ⟨_, rfl⟩
  have b1 : Below w.heap.size w w1 := by rw [← hw1]; exact (Below.refl _ _).alloc (Nat.le_refl _) _
  have b12 : Below w1.heap.size w1 w2 := by rw [← hw2]; exact (Below.refl _ _).alloc (Nat.le_refl _) _
  have hsz : w.heap.size < w1.heap.size := by rw [← hw1]; simp
  have hsz2 : w1.heap.size < w2.heap.size := by rw [← hw2]; simp
  have s0 : w2.cell? ⟨w.heap.size, 0, none⟩ = some (.slice a len cap) := (b12.cell (p := ⟨w.heap.size, 0, none⟩) hsz).trans (by rw [← hw1]; exact World.cell?_alloc_new w _ _ 0)
  have s1 : w2.cell? ⟨w.heap.size, 1, none⟩ = some (.int .i64 x) := (b12.cell (p := ⟨w.heap.size, 1, none⟩) hsz).trans (by rw [← hw1]; exact World.cell?_alloc_new w _ _ 1)
  have s2 : w2.cell? ⟨w.heap.size, 2, none⟩ = some (.int .i64 k) := (b12.cell (p := ⟨w.heap.size, 2, none⟩) hsz).trans (by rw [← hw1]; exact World.cell?_alloc_new w _ _ 2)
  have t0 : w2.cell? ⟨w1.heap.size, 0, none⟩ = some (.slice b len' cap') := by rw [← hw2]; exact World.cell?_alloc_new w1 _ _ 0
  have t1 : w2.cell? ⟨w1.heap.size, 1, none⟩ = some (.int .i64 p) := by rw [← hw2]; exact World.cell?_alloc_new w1 _ _ 1
  have t2 : w2.cell? ⟨w1.heap.size, 2, none⟩ = some (.int .i64 q) := by rw [← hw2]; exact World.cell?_alloc_new w1 _ _ 2
  have B2 := Lib.hid (below_on b1 b12)
  have H1 := Lib.hid (h.below B2.out)
  have H2 := Lib.hid (h'.below B2.out)
  clear h h' b1 b12
  by_cases hx : x = p
  · have e1 : (x == p) = true := by rw [hx]; simp
    by_cases hk : k = q
    · have e2 : (k == q) = true := by rw [hk]; simp
      have HD : Hid (decide (cs = ds) = v) := by rw [Hid, ← hv, hx, hk]; simp
      clear hx hk hv
      go_enter Try.func60, Try.ntmps60
      go_wp2_with fail
      refine (eqFr_as a len cap cs b len' cap' ds v _ H1.out H2.out HD.out).mono ?_
      rintro e w3 ⟨rfl, hd⟩
      have B3 := Lib.hid (below_on B2.out (hd.below _))
      go_wp2
      go_ret
      exact ⟨rfl, B3.out⟩
    · have e2 : (k == q) = false := beq_eq_false_iff_ne.2 hk
      obtain rfl : false = v := by rw [← hv]; exact (decide_eq_false fun e => hk (by injection e with _ e; injection e)).symm
      clear hx hk hv
      go_enter Try.func60, Try.ntmps60
      go_wp2
      go_ret
      exact ⟨rfl, B2.out⟩
  · have e1 : (x == p) = false := beq_eq_false_iff_ne.2 hx
    obtain rfl : false = v := by rw [← hv]; exact (decide_eq_false fun e => hx (by injection e with _ e; injection e)).symm
    clear hx hv
    go_enter Try.func60, Try.ntmps60
    go_wp2
    go_ret
    exact ⟨rfl, B2.out⟩

end Go.Proofs.Ytafnmongglhlaaa

namespace Go.Proofs.Ytafnmongglhlaaa
open Go.RowKit

theorem drop_one {α : Type} {l : List α} {i : Nat} {t : α} (h : l[i]? = some t) : l.drop i = t :: l.drop (i + 1) := by
  obtain ⟨hi, e⟩ := List.getElem?_eq_some_iff.1 h
  rw [List.drop_eq_getElem_cons hi, e]
theorem QS.cons {w : World} {base n Q : Nat} {L : Value} {nb : List Nat} {gl : List (Nat × Nat)} {s : TfStp} {ss : List TfStp} (h : QS w base n Q L nb gl (s :: ss)) : ∃ b0 nb' g c gl', nb = b0 :: nb' ∧ gl = (g, c) :: gl' := by
  cases nb with
  | nil => have := h.ln; simp at this
  | cons b0 nb =>
    cases gl with
    | nil => have := h.lg; simp at this
    | cons g gl => exact ⟨b0, nb, g.1, g.2, gl, rfl, rfl⟩
theorem QS.nil {w : World} {base n Q : Nat} {L : Value} {nb : List Nat} {gl : List (Nat × Nat)} (h : QS w base n Q L nb gl []) : nb = [] ∧ gl = [] :=
  ⟨List.length_eq_zero_iff.1 (by rw [h.ln]; rfl), List.length_eq_zero_iff.1 (by rw [h.lg]; rfl)⟩

set_option maxRecDepth 100000 in
set_option maxHeartbeats 8000000 in
/-- **impl.TransferCheck**. -/
theorem implCheckT_as (a : Option Addr) (len cap : Nat) (ps : List Pl) (al : Option Addr) (n cl : Nat) (lots : List Int) (s : Int) (a4 : Option Addr) (l4 c4 : Nat) (ys : List GSt) (v : Bool) (w : World) (h : IsPiles w a len cap ps) (hs : Small ps) (hl : IsInts w al n cl lots) (hy : IsG w a4 l4 c4 ys) (hv : chkT ps lots s ys = v) :
    Calls Try.prog 29 #[.slice a len cap, .slice al n cl, .int .i64 s, .slice a4 l4 c4] w fun e w' => e = .returned (.bool v) ∧ Below w.heap.size w w' := by
  have HY := Lib.hid hy
  have HYL := Lib.hid hy.1
  have hl4 := hy.2.2.1
  have hnm := hl.2.2.1
  obtain ⟨all, hall⟩ : ∃ all, tfAll ps lots s = all := ⟨_, rfl⟩
  have ha5 : all.length ≤ 5 := by rw [← hall]; exact tfAll_short _ _ _
  cases ht : transB ps lots s
  · obtain rfl : false = v := by rw [← hv, chkT, ht]; rfl
    have HI := Lib.hid h
    have HS := Lib.hid hs
    have HL := Lib.hid hl
    have HT := Lib.hid ht
    clear h hs hl hy hv hall ht
    go_enter Try.func29, Try.ntmps29
    go_wp2_with fail
    refine (queue_no a len cap ps al n cl lots s _ HI.out HS.out HL.out HT.out).mono ?_
    rintro e w1 ⟨rfl, hb⟩
    go_wp2
    go_ret
    exact ⟨rfl, hb⟩
  · have HV : Hid (decide (all.map toG = ys) = v) := by rw [Hid, ← hv, chkT, ht, hall]; rfl
    obtain ⟨-, -, h3, -, -⟩ := (transB_iff ps lots s).1 ht
    obtain ⟨S, rfl⟩ := Int.eq_ofNat_of_zero_le (show 0 ≤ s by omega)
    obtain ⟨G, hG⟩ : ∃ G, w.heap.size = G := ⟨_, rfl⟩
    have HG := Lib.hid hG
    have HI := Lib.hid h
    have HS := Lib.hid hs
    have HL := Lib.hid hl
    have HT := Lib.hid ht
    have HA := Lib.hid hall
    clear h hs hl hy hv hall ht h3
    go_enter Try.func29, Try.ntmps29
    go_wp2_with fail
    refine (queue_yes a len cap ps al n cl lots S all _ HI.out HS.out HL.out HT.out HA.out).mono ?_
    rintro e w1 ⟨Q, L, nb0, gl0, rfl, hq, hb⟩
    have hq : QS w1 G n Q L nb0 gl0 all := hG ▸ hq
    have HQ0 : Hid (QS w1 G n Q L nb0 gl0 (all.drop 0)) := hq
    have HB0 : Hid (Below G w w1) := hG ▸ hb
    clear hq hb HA HT HI HS HL hG
    go_wp2
    go_loopw [12, 13, 14, 28] (fun _ _ _ iv wr => ∃ (i : Nat) (nb : List Nat) (gl : List (Nat × Nat)), i ≤ l4 ∧ i ≤ all.length ∧ iv = .int .i64 (i : Int) ∧ Hid ((all.map toG).take i = ys.take i) ∧ Hid (QS wr G n Q L nb gl (all.drop i)) ∧ Hid (Below G w wr)) (fun _ _ _ iv _ => l4 - (intOf iv).toNat)
    case atStart => exact ⟨0, nb0, gl0, Nat.zero_le _, Nat.zero_le _, rfl, rfl, HQ0.out, HB0.out⟩
    case round =>
      clear HQ0 HB0
      obtain ⟨i, nb, gl, hi, hia, rfl, hE, hq, hB⟩ := hrel
      rename World => wx
      have hGx : G ≤ wx.heap.size := by have := hB.out.size; have := HG.out; omega
      have hBw : Below w.heap.size w wx := HG.out.symm ▸ hB.out
      by_cases hlt : i < l4
      · have hji : (i : Int) < (l4 : Int) := by omega
        obtain ⟨⟨ds, p, q⟩, hyt⟩ : ∃ st, ys[i]? = some st := ⟨_, List.getElem?_eq_getElem (by rw [HYL.out]; exact hlt)⟩
        obtain ⟨b2, o2, a6, l6, c6, rfl, hl2, y0, y1, y2, f2⟩ := HY.out.at hyt
        have m0 := (hBw.cell (p := ⟨b2, o2 + i * 3, none⟩) hl2).trans y0
        have m1 : wx.cell? ⟨b2, o2 + i * 3 + 1, none⟩ = some (.int .i64 p) := (hBw.cell (p := ⟨b2, o2 + i * 3 + 1, none⟩) hl2).trans y1
        have m2 : wx.cell? ⟨b2, o2 + i * 3 + 2, none⟩ = some (.int .i64 q) := (hBw.cell (p := ⟨b2, o2 + i * 3 + 2, none⟩) hl2).trans y2
        have F2 := Lib.hid f2
        obtain ⟨wa, hwa⟩ : ∃ wa, wx.alloc (.cells #[.slice a6 l6 c6, .int .i64 p, .int .i64 q] 35) = wa := ⟨_, rfl⟩
        have ba : Below wx.heap.size wx wa := by rw [← hwa]; exact (Below.refl _ _).alloc (Nat.le_refl _) _
        have sa : wx.heap.size < wa.heap.size := by rw [← hwa]; simp
        have ka : wa.heap[wx.heap.size]? = some (.cells #[.slice a6 l6 c6, .int .i64 p, .int .i64 q] 35 (0, 0)) := by rw [← hwa]; exact blk_new _ _
        have QA := Lib.hid (hq.out.under ba)
        have BA : Hid (Below G w wa) := hB.out.trans (ba.mono hGx)
        have KA := Lib.hid ka
        obtain ⟨tb, htb⟩ : ∃ tb, wx.heap.size = tb := ⟨_, rfl⟩
        rw [htb] at KA sa
        clear ba f2 ka y0 y1 y2
        by_cases hal : i < all.length
        · obtain ⟨⟨cs, x, k⟩, hst⟩ : ∃ st, all[i]? = some st := ⟨_, List.getElem?_eq_getElem hal⟩
          have hst2 : (all.map toG)[i]? = some (cs, x, (k : Int)) := by rw [List.getElem?_map, hst]; rfl
          have HMO := Lib.hid (take_more hst2 hyt)
          have qa := QA.out
          rw [drop_one hst] at qa
          obtain ⟨b0, nb', g, c, gl', rfl, rfl⟩ := qa.cons
          have QA2 := Lib.hid qa
          have hga : G ≤ wa.heap.size := by omega
          clear qa hst hst2 hyt QA
          go_wp2_with fail
          refine (take_yes G n Q L b0 nb' g c gl' cs x k (all.drop (i + 1)) _ QA2.out hga).mono ?_
          rintro e w5 ⟨rfl, hq5, hc5⟩
          have hrow := owns_chg (QA2.out.row 0 (g, c) (cs, x, k) rfl rfl) hc5 (by unfold queP; decide)
          have F5 := Lib.hid (IsFr.of_owned hrow hnm)
          have K5 := blk_chg KA.out hc5 (by unfold queP; decide)
          have b5 := hc5.below hga
          have B5 : Hid (Below G w w5) := BA.out.trans b5
          obtain ⟨wb, hwb⟩ : ∃ wb, w5.alloc (.cells #[.slice (some ⟨g, 0, none⟩) n c, .int .i64 x, .int .i64 (k : Int)] 35) = wb := ⟨_, rfl⟩
          have bb : Below w5.heap.size w5 wb := by rw [← hwb]; exact (Below.refl _ _).alloc (Nat.le_refl _) _
          have kb : wb.heap[w5.heap.size]? = some (.cells #[.slice (some ⟨g, 0, none⟩) n c, .int .i64 x, .int .i64 (k : Int)] 35 (0, 0)) := by rw [← hwb]; exact blk_new _ _
          have kt := blk_under K5 bb
          have s0 := blk_cell kt 0
          have s1 := blk_cell kt 1
          have s2 := blk_cell kt 2
          have t0 := blk_cell kb 0
          have t1 := blk_cell kb 1
          have t2 := blk_cell kb 2
          have s0 : wb.cell? ⟨tb, 0, none⟩ = some (.slice a6 l6 c6) := s0
          have s1 : wb.cell? ⟨tb, 1, none⟩ = some (.int .i64 p) := s1
          have s2 : wb.cell? ⟨tb, 2, none⟩ = some (.int .i64 q) := s2
          have t0 : wb.cell? ⟨w5.heap.size, 0, none⟩ = some (.slice (some ⟨g, 0, none⟩) n c) := t0
          have t1 : wb.cell? ⟨w5.heap.size, 1, none⟩ = some (.int .i64 x) := t1
          have t2 : wb.cell? ⟨w5.heap.size, 2, none⟩ = some (.int .i64 (k : Int)) := t2
          have Q6 := Lib.hid (hq5.under bb)
          have F6 := Lib.hid (F5.out.below bb)
          have hg5 : G ≤ w5.heap.size := by have := b5.size; omega
          have B6 : Hid (Below G w wb) := B5.out.trans (bb.mono hg5)
          have hg6 : G ≤ wb.heap.size := by have := bb.size; omega
          have FY6 : Hid (IsFr wb a6 l6 c6 ds) := F2.out.below (HG.out.symm ▸ B6.out)
          obtain ⟨t, htt⟩ : ∃ t, decide (((cs, x, (k : Int)) : GSt) = (ds, p, q)) = t := ⟨_, rfl⟩
          have HD := Lib.hid htt
          clear hrow K5 b5 kb kt bb hq5 hc5 htt KA QA2 F5 BA
          go_wp2_with fail
          refine (stepEqual_as _ n c cs x (k : Int) a6 l6 c6 ds p q t _ F6.out FY6.out HD.out).mono ?_
          rintro e w7 ⟨rfl, hb7⟩
          have Q7 := Lib.hid (Q6.out.under hb7)
          have B7 : Hid (Below G w w7) := B6.out.trans (hb7.mono hg6)
          clear hb7
          cases t
          · have HE : Hid (false = v) := by
              rw [Hid, ← HV.out]
              exact (decide_eq_false (take_differ (j := i + 1) fun e => of_decide_eq_false HD.out (HMO.out.1 e).2)).symm
            go_wp2
            go_ret
            exact ⟨ret_bool HE.out, HG.out ▸ B7.out⟩
          · have HE2 : Hid ((all.map toG).take (i + 1) = ys.take (i + 1)) := HMO.out.2 ⟨hE.out, of_decide_eq_true HD.out⟩
            go_wp2
            go_roundw
            case rel => exact ⟨i + 1, nb', gl', by omega, hal, by go_num, HE2.out, Q7.out, B7.out⟩
            case measure => simp [intOf]; omega
        · have hd : all.drop i = [] := List.drop_eq_nil_of_le (by omega)
          have qa := QA.out
          rw [hd] at qa
          obtain ⟨rfl, rfl⟩ := qa.nil
          have QA2 := Lib.hid qa
          have HE : Hid (false = v) := by
            rw [Hid, ← HV.out]
            refine (decide_eq_false fun e => ?_).symm
            have h1 := congrArg List.length e
            rw [List.length_map, HYL.out] at h1; omega
          have hga : G ≤ wa.heap.size := by omega
          clear qa hyt hd QA
          go_wp2_with fail
          refine (take_no G n Q L _ QA2.out).mono ?_
          rintro e w5 ⟨rfl, hb5⟩
          have B5 : Hid (Below G w (w5.alloc (.cells #[.slice none 0 0, .int .i64 0, .int .i64 0] 35))) := (BA.out.trans (hb5.mono hga)).alloc (by have := hb5.size; omega) _
          clear hb5
          go_wp2
          go_ret
          exact ⟨ret_bool HE.out, HG.out ▸ B5.out⟩
      · obtain rfl : i = l4 := by omega
        by_cases hal : i < all.length
        · obtain ⟨⟨cs, x, k⟩, hst⟩ : ∃ st, all[i]? = some st := ⟨_, List.getElem?_eq_getElem hal⟩
          have qa := hq.out
          rw [drop_one hst] at qa
          obtain ⟨b0, nb', g, c, gl', rfl, rfl⟩ := qa.cons
          have QA2 := Lib.hid qa
          have HE : Hid (false = v) := by
            rw [Hid, ← HV.out]
            refine (decide_eq_false fun e => ?_).symm
            have h1 := congrArg List.length e
            rw [List.length_map, HYL.out] at h1; omega
          clear qa hst hq
          go_wp2_with fail
          refine (take_yes G n Q L b0 nb' g c gl' cs x k (all.drop (i + 1)) _ QA2.out hGx).mono ?_
          rintro e w5 ⟨rfl, hq5, hc5⟩
          have b5 := hc5.below hGx
          have B5 : Hid (Below G w (w5.alloc (.cells #[.slice (some ⟨g, 0, none⟩) n c, .int .i64 x, .int .i64 (k : Int)] 35))) := (hB.out.trans b5).alloc (by have := b5.size; omega) _
          clear hq5 hc5 b5
          go_wp2
          go_ret
          exact ⟨ret_bool HE.out, HG.out ▸ B5.out⟩
        · have hd : all.drop i = [] := List.drop_eq_nil_of_le (by omega)
          have qa := hq.out
          rw [hd] at qa
          obtain ⟨rfl, rfl⟩ := qa.nil
          have QA2 := Lib.hid qa
          have HE : Hid (true = v) := by
            have h1 := hE.out
            rw [List.take_of_length_le (by rw [List.length_map]; omega), List.take_of_length_le (by rw [HYL.out]; exact Nat.le_refl _)] at h1
            rw [Hid, ← HV.out]; exact (decide_eq_true h1).symm
          clear qa hd hq
          go_wp2_with fail
          refine (take_no G n Q L _ QA2.out).mono ?_
          rintro e w5 ⟨rfl, hb5⟩
          have B5 : Hid (Below G w (w5.alloc (.cells #[.slice none 0 0, .int .i64 0, .int .i64 0] 35))) := (hB.out.trans (hb5.mono hGx)).alloc (by have := hb5.size; omega) _
          clear hb5
          go_wp2
          go_ret
          exact ⟨ret_bool HE.out, HG.out ▸ B5.out⟩

end Go.Proofs.Ytafnmongglhlaaa
