/-
  firstGreatest: of an order of indices the first one that has the greatest fraction; it writes into no memory that was there.
  The program's way over all quotients is the way of the model, which multiplies crosswise. Of no memory.
  slices.Max at ints: the greatest of some numbers; it is above 0 if and only if their sum is, where none is below 0.
  impl's votes, seats and lots: contracts. They write into no memory that was there.
  laws.toFrac: a fraction that came in as one of the program. No condition.
  laws.eqFrac: two fractions compared. No condition.
  Two fractions compared with == and !=. Of no function.
  A drawing region that calls, lays a block and stores a pair of ints into it: what stands behind it. Of no function.
  impl's methods of divisors, votes, seats and lots, and newSeating: contracts. They write into no memory that was there.
-/
import Derived.Test.YtgcocdacofpglaaGrp8
import Derived.Test.YtgcocdacofpglaaGrp4
import Derived.Test.YtgcocdacofpglaaGrp5
import Derived.Laws.StructEq
import Derived.Deep.RegionLaw
import Derived.Deep.Cut
import Derived.Deep.CutRange
namespace Go.Proofs.Ytgcocdacofpglaa
open Go.RowKit

attribute [local go_sem] Oper.semAt_some

/-- Over an order, the first one of the greatest. -/
def grF (cs : List Fr) : Int → List Int → Int
  | b, [] => b
  | b, k :: t => grF cs (if lessF (fAt cs b.toNat) (fAt cs k.toNat) = true then k else b) t
theorem grF_snoc (cs : List Fr) (z : Int) : ∀ (l : List Int) (b : Int), grF cs b (l ++ [z]) = if lessF (fAt cs (grF cs b l).toNat) (fAt cs z.toNat) = true then z else grF cs b l
  | [], _ => rfl
  | k :: t, b => by rw [List.cons_append, grF, grF_snoc cs z t, grF]
theorem grF_next {cs : List Fr} {b0 b z : Int} {l : List Int} {k : Nat} {v : Bool} (h : k < l.length) (hz : l[k]?.getD 0 = z) (hb : grF cs b0 (l.take k) = b) (hv : lessF (fAt cs b.toNat) (fAt cs z.toNat) = v) :
    grF cs b0 (l.take (k + 1)) = if v = true then z else b := by
  have e : l[k] = z := by rw [← hz]; simp [h]
  rw [List.take_succ_eq_append_getElem h, grF_snoc, hb, e, hv]

set_option maxRecDepth 100000 in
set_option maxHeartbeats 4000000 in
/-- **firstGreatest**. -/
theorem firstG_as (a : Option Addr) (cap n : Nat) (cs : List Fr) (a' : Option Addr) (L cap' : Nat) (st : List Int) (r : Int) (w : World) (h : IsFr w a n cap cs) (h' : IsInts w a' L cap' st)
    (hm : ∀ z ∈ st, 0 ≤ z ∧ z < (n : Int)) (hp : 0 < L) (hv : ∀ j, j < n → fracB (fAt cs j) = true) (hr : grF cs (st[0]?.getD 0) st = r) :
    Calls Try.prog 43 #[.slice a n cap, .slice a' L cap'] w fun e w' => e = .returned (.int .i64 r) ∧ Below w.heap.size w w' := by
  have HR : Hid (grF cs (st[0]?.getD 0) st = r) := hr
  have hL := h'.1
  have HL := Lib.hid hL
  have HI := Lib.hid h
  have HM := Lib.hid hm
  have HV := Lib.hid hv
  have hnm := h.2.2.1
  have hlm := h'.2.2.1
  obtain ⟨b0, hb0⟩ : ∃ b0, st[0]?.getD 0 = b0 := ⟨_, rfl⟩
  obtain ⟨sb, so, rfl, hsb, hsc⟩ := h'.2.2.2 hp
  have s0 := hsc 0 hp
  rw [hb0] at s0
  simp only [Nat.add_zero] at s0
  have HSC := Lib.hid hsc
  have hb0r := HM.out b0 (by rw [← hb0]; simp [show 0 < st.length by omega])
  rw [hb0] at HR
  clear h hm hv hr h' hL hsc hb0
  go_enter Try.func43, Try.ntmps43
  go_wp2
  go_loopw [5, 7, 13] (fun bv _ iv wr => ∃ (k : Nat) (b : Int), k ≤ L ∧ iv = .int .i64 (k : Int) ∧ bv = .int .i64 b ∧ (0 ≤ b ∧ b < (n : Int)) ∧ Hid (grF cs b0 (st.take k) = b) ∧ Below w.heap.size w wr) (fun _ _ iv _ => L - (intOf iv).toNat)
  case atStart => exact ⟨0, b0, Nat.zero_le _, rfl, rfl, hb0r, rfl, Below.refl _ _⟩
  case round =>
    obtain ⟨k, b, hk, rfl, rfl, hbr, hp', hB⟩ := hrel
    by_cases hlt : k < L
    · have hz := (hB.cell (p := ⟨sb, so + k, none⟩) hsb).trans (HSC.out k hlt)
      obtain ⟨z, hzz⟩ : ∃ z, st[k]?.getD 0 = z := ⟨_, rfl⟩
      rw [hzz] at hz
      have hkl : k < st.length := by rw [HL.out]; exact hlt
      have hzr : 0 ≤ z ∧ z < (n : Int) := HM.out z (by rw [← hzz]; simp [hkl])
      obtain ⟨v, hvv⟩ : ∃ v, lessF (fAt cs b.toNat) (fAt cs z.toNat) = v := ⟨_, rfl⟩
      have HNX := Lib.hid (grF_next hkl hzz hp'.out hvv)
      obtain ⟨x, rfl⟩ := Int.eq_ofNat_of_zero_le hzr.1
      obtain ⟨y, rfl⟩ := Int.eq_ofNat_of_zero_le hbr.1
      rw [Int.toNat_natCast, Int.toNat_natCast] at hvv
      have hxn : x < n := by omega
      have hyn : y < n := by omega
      obtain ⟨fb, fo, rfl, hfb, cy0, cy1⟩ := (HI.out.below hB).at hyn
      obtain ⟨fb', fo', he, hfb', cx0, cx1⟩ := (HI.out.below hB).at hxn
      injection he with he
      injection he with he1 he2 _
      subst he1
      subst he2
      have hfy := HV.out y hyn
      have hfx := HV.out x hxn
      obtain ⟨y1, y2, hy⟩ : ∃ y1 y2, fAt cs y = (y1, y2) := ⟨_, _, rfl⟩
      obtain ⟨x1, x2, hx⟩ : ∃ x1 x2, fAt cs x = (x1, x2) := ⟨_, _, rfl⟩
      rw [hy] at hvv hfy cy0 cy1
      rw [hx] at hvv hfx cx0 cx1
      have HLV := Lib.hid hvv
      clear hy hx hvv
      have u0 : ∀ u : Beh wr, u.w.cell? ⟨fb, fo + y * 2, none⟩ = _ := Beh.cell cy0 hfb
      have u1 : ∀ u : Beh wr, u.w.cell? ⟨fb, fo + y * 2 + 1, none⟩ = _ := Beh.cell cy1 hfb
      have u2 : ∀ u : Beh wr, u.w.cell? ⟨fb, fo + x * 2, none⟩ = _ := Beh.cell cx0 hfb
      have u3 : ∀ u : Beh wr, u.w.cell? ⟨fb, fo + x * 2 + 1, none⟩ = _ := Beh.cell cx1 hfb
      have hyi : (y : Int) < (n : Int) := by omega
      have hxi : (x : Int) < (n : Int) := by omega
      clear cy0 cy1 cx0 cx1 hfb' hzz hp' hkl
      go_wp2_with fail
      refine wp_region_below (by kernel_rfl) (by kernel_rfl) ?_
      repeat (go_big_quiet_step (first | (go_at_call 37; exact Calls.beh (less_as y1 y2 x1 x2 v _ hfy hfx HLV.out))))
      refine wpQuiet_nil ?_
      rintro w8 ⟨⟨_, hb8'⟩, he⟩
      have hb8 : Below wr.heap.size wr w8 := by rw [he]; exact hb8'
      have hBw := hB.trans (hb8.mono hB.size)
      clear u0 u1 u2 u3 hb8 hb8' he
      cases v
      · go_wp2
        go_roundw
        case rel => exact ⟨k + 1, (y : Int), by omega, by go_num, rfl, by omega, HNX.out, hBw⟩
        case measure => simp [intOf]; omega
      · go_wp2
        go_roundw
        case rel => exact ⟨k + 1, (x : Int), by omega, by go_num, rfl, by omega, HNX.out, hBw⟩
        case measure => simp [intOf]; omega
    · obtain rfl : k = L := by omega
      have HX : Hid (b = r) := by
        have := hp'.out
        rw [← HL.out, List.take_length, HR.out] at this
        exact this.symm
      go_wp2
      go_ret
      exact ⟨ret_int (by rw [HX.out]), hB⟩

end Go.Proofs.Ytgcocdacofpglaa

namespace Go.Proofs.Ytgcocdacofpglaa

theorem qs_at {vs gs : List Int} {m z : Int} (hz : 0 ≤ z ∧ z < (vs.length : Int)) : fAt (qsL vs gs m) z.toNat = ofF (seV vs z) (divI m (seV gs z)) := by
  unfold fAt qsL seV
  rw [List.getElem?_map, List.getElem?_range (by omega)]; rfl
theorem qs_fr {vs gs : List Int} {m : Int} (hm : methB m = true) (hv : toB vs 99 vs.length = true) (hg : toB gs 20 gs.length = true) (hn : gs.length = vs.length) {i : Nat} (hi : i < vs.length) : fracB (fAt (qsL vs gs m) i) = true := by
  have := qs_at (vs := vs) (gs := gs) (m := m) (z := (i : Int)) (by omega)
  rw [Int.toNat_natCast, seV_nat, seV_nat] at this
  rw [this]
  exact (quot_fr (toB_at hv hi) (divI_in hm (toB_at hg (by omega)))).2
theorem qs_less {vs gs : List Int} {m : Int} (hm : methB m = true) (hg : toB gs 20 gs.length = true) {b k : Int} (hb : 0 ≤ b ∧ b < (vs.length : Int)) (hk : 0 ≤ k ∧ k < (vs.length : Int)) :
    lessF (fAt (qsL vs gs m) b.toNat) (fAt (qsL vs gs m) k.toNat) = decide (seV vs b * divI m (seV gs k) < seV vs k * divI m (seV gs b)) := by
  have h0 := Int.le_of_lt (meth_nn hm).1
  rw [qs_at hb, qs_at hk, less_of (divI_pos h0 (seV_nn hg b)) (divI_pos h0 (seV_nn hg k))]
theorem grF_is {vs gs : List Int} {m : Int} (hm : methB m = true) (hg : toB gs 20 gs.length = true) : ∀ (t : List Int) (b : Int), (∀ z ∈ b :: t, 0 ≤ z ∧ z < (vs.length : Int)) → grF (qsL vs gs m) b t = nextF (seV vs) (seV gs) m b t
  | [], _, _ => rfl
  | k :: t, b, h => by
    have hb := h b (by simp)
    have hk := h k (by simp)
    unfold grF nextF
    rw [qs_less hm hg hb hk]
    by_cases e : seV vs b * divI m (seV gs k) < seV vs k * divI m (seV gs b)
    · rw [decide_eq_true e, if_pos rfl, if_pos e]
      exact grF_is hm hg t k (fun z hz => h z (by rcases List.mem_cons.1 hz with e | e <;> simp [e]))
    · rw [decide_eq_false e, if_neg (by simp), if_neg e]
      exact grF_is hm hg t b (fun z hz => h z (by rcases List.mem_cons.1 hz with e | e <;> simp [e]))
theorem grF_all {vs gs lots : List Int} {m : Int} (hm : methB m = true) (hg : toB gs 20 gs.length = true) (h0 : lots ≠ []) (h : ∀ z ∈ lots, 0 ≤ z ∧ z < (vs.length : Int)) : grF (qsL vs gs m) (lots[0]?.getD 0) lots = nextL (seV vs) (seV gs) m lots := by
  match lots, h0, h with
  | b :: t, _, h =>
    show grF (qsL vs gs m) b (b :: t) = nextF (seV vs) (seV gs) m b t
    unfold grF
    rw [ite_self]
    exact grF_is hm hg t b h

end Go.Proofs.Ytgcocdacofpglaa

namespace Go.Proofs.Ytgcocdacofpglaa
open Go.RowKit

attribute [local go_sem] Oper.semAt_some

/-- The greatest of the first k + 1 numbers. -/
def mxTo (c : List Int) : Nat → Int
  | 0 => c[0]?.getD 0
  | k + 1 => max (mxTo c k) (c[k + 1]?.getD 0)
theorem mxTo_succ (c : List Int) (k : Nat) : mxTo c (k + 1) = max (mxTo c k) (c[k + 1]?.getD 0) := rfl
theorem mxTo_ge {c : List Int} : ∀ {k i : Nat}, i ≤ k → c[i]?.getD 0 ≤ mxTo c k
  | 0, i, h => by rw [Nat.le_zero.1 h]; exact Int.le_refl _
  | k + 1, i, h => by
    rw [mxTo_succ]
    by_cases e : i = k + 1
    · subst e; exact Int.le_max_right _ _
    · exact Int.le_trans (mxTo_ge (by omega : i ≤ k)) (Int.le_max_left _ _)
theorem mxTo_hit (c : List Int) : ∀ k, ∃ i, i ≤ k ∧ c[i]?.getD 0 = mxTo c k
  | 0 => ⟨0, Nat.le_refl _, rfl⟩
  | k + 1 => by
    obtain ⟨i, hi, he⟩ := mxTo_hit c k
    rw [mxTo_succ]
    by_cases g : c[k + 1]?.getD 0 ≤ mxTo c k
    · exact ⟨i, by omega, by omega⟩
    · exact ⟨k + 1, Nat.le_refl _, by omega⟩
theorem max_sum {c : List Int} (h0 : ∀ i, i < c.length → 0 ≤ c[i]?.getD 0) (hp : 0 < c.length) : decide (0 < mxTo c (c.length - 1)) = decide (0 < totI c) := by
  obtain ⟨i, hi, he⟩ := mxTo_hit c (c.length - 1)
  obtain ⟨t0, ht⟩ := le_totI h0
  have h1 := ht i (by omega)
  rw [he] at h1
  by_cases g : 0 < mxTo c (c.length - 1)
  · rw [decide_eq_true g, decide_eq_true (by omega)]
  · rw [decide_eq_false g]
    have hz : totI c ≤ totI (List.replicate c.length 0) := totI_le (by simp) (fun j hj => by
      have := mxTo_ge (c := c) (k := c.length - 1) (i := j) (by omega)
      rw [List.getElem?_replicate, if_pos hj]
      show c[j]?.getD 0 ≤ 0
      omega)
    rw [totI_repl] at hz
    rw [decide_eq_false (by omega)]

set_option maxRecDepth 100000 in
set_option maxHeartbeats 2000000 in
/-- **slices.Max**. -/
theorem slMax_as (a : Option Addr) (len cap : Nat) (zs : List Int) (w : World) (h : IsInts w a len cap zs) (hp : 0 < len) (m : Int) (hm : mxTo zs (len - 1) = m) :
    Calls Try.prog 52 #[.slice a len cap] w fun e w' => e = .returned (.int .i64 m) ∧ w = w' := by
  obtain ⟨h1, h2, h3, h4⟩ := h
  obtain ⟨b, off, rfl, hb, hc⟩ := h4 hp
  have HC := Lib.hid hc
  have HM := Lib.hid hm
  have c0 := hc 0 hp
  rw [Nat.add_zero] at c0
  obtain ⟨z0, hz0⟩ : ∃ z0, zs[0]?.getD 0 = z0 := ⟨_, rfl⟩
  rw [hz0] at c0
  have HZ0 : Hid (mxTo zs 0 = z0) := hz0
  have hlt1 : decide ((len : Int) < 1) = false := decide_eq_false (by omega)
  have hlt2 : decide (len = 0) = false := decide_eq_false (by omega)
  have hlt3 : ¬ len = 0 := by omega
  have hpi : (0 : Int) < (len : Int) := by omega
  clear hc h4 hm hz0 h1
  go_enter Try.func52, Try.ntmps52
  go_wp2
  go_loop [3, 4] (fun mv iv => ∃ (i : Nat) (x : Int), 1 ≤ i ∧ i ≤ len ∧ iv = .int .i64 (i : Int) ∧ mv = .int .i64 x ∧ Hid (mxTo zs (i - 1) = x)) (fun _ iv => len - (intOf iv).toNat)
  case atStart => exact ⟨1, z0, Nat.le_refl _, hp, rfl, rfl, HZ0⟩
  case round =>
    clear HZ0 c0
    obtain ⟨i, x, hi1, hil, rfl, rfl, hx⟩ := hrel
    by_cases hlt : i < len
    · have ci := HC.out i hlt
      obtain ⟨z, hz⟩ : ∃ z, zs[i]?.getD 0 = z := ⟨_, rfl⟩
      rw [hz] at ci
      have HX : Hid (mxTo zs i = max x z) := by
        obtain ⟨k, rfl⟩ : ∃ k, i = k + 1 := ⟨i - 1, by omega⟩
        have := hx.out
        rw [Nat.add_sub_cancel] at this
        rw [Hid, mxTo_succ, this, hz]
      clear hz
      by_cases hxz : x < z
      · have HX2 : Hid (mxTo zs (i + 1 - 1) = z) := by rw [Nat.add_sub_cancel, Hid, HX.out]; omega
        go_wp2
        go_round
        case rel => exact ⟨i + 1, z, by omega, by omega, by go_num, by first | rfl | (congr 1; omega), HX2⟩
        case measure => simp [intOf]; omega
      · have HX2 : Hid (mxTo zs (i + 1 - 1) = x) := by rw [Nat.add_sub_cancel, Hid, HX.out]; omega
        go_wp2
        go_round
        case rel => exact ⟨i + 1, x, by omega, by omega, by go_num, by first | rfl | (congr 1; omega), HX2⟩
        case measure => simp [intOf]; omega
    · obtain rfl : i = len := by omega
      go_wp2
      go_ret
      exact ⟨ret_int (by rw [← HM.out, hx.out]), rfl⟩

end Go.Proofs.Ytgcocdacofpglaa

namespace Go.Proofs.Ytgcocdacofpglaa
open Go.RowKit

attribute [local go_sem] Oper.semAt_some

set_option maxHeartbeats 1000000 in
/-- **seatsInRange**. -/
theorem inRange_as (s : Int) (v : Bool) (w : World) (hv : inB s 0 20 = v) :
    Calls Try.prog 25 #[.int .i64 s] w fun e w' => e = .returned (.bool v) ∧ w = w' := by
  by_cases h0 : s < 0
  · have e : v = false := by rw [← hv]; simp [inB]; omega
    subst e
    clear hv
    go_enter Try.func25, Try.ntmps25
    go_wp2
    go_ret
    exact ⟨rfl, rfl⟩
  · by_cases h1 : 20 < s
    · have e : v = false := by rw [← hv]; simp [inB]; omega
      subst e
      clear hv
      go_enter Try.func25, Try.ntmps25
      go_wp2
      go_ret
      exact ⟨by first | rfl | exact ret_bool (decide_eq_false (by omega)), rfl⟩
    · have e : v = true := by rw [← hv]; simp [inB]; omega
      subst e
      clear hv
      go_enter Try.func25, Try.ntmps25
      go_wp2
      go_ret
      exact ⟨by first | rfl | exact ret_bool (decide_eq_true (by omega)), rfl⟩

set_option maxHeartbeats 1000000 in
/-- **votesValid**. -/
theorem votes_as (a : Option Addr) (len cap : Nat) (zs : List Int) (v : Bool) (w : World) (h : IsInts w a len cap zs) (hv : voteB zs = v) :
    Calls Try.prog 41 #[.slice a len cap] w fun e w' => e = .returned (.bool v) ∧ w = w' := by
  have HI := Lib.hid h
  obtain ⟨v1, h1⟩ : ∃ v1, choB zs 99 = v1 := ⟨_, rfl⟩
  have HC := Lib.hid h1
  have HL := Lib.hid h.1
  have HV : Hid (v = (v1 && decide (0 < totI zs))) := by unfold Hid; rw [← hv, ← h1]; rfl
  clear h hv h1
  go_enter Try.func41, Try.ntmps41
  go_wp2_with fail
  refine (choices_as _ _ _ zs 99 v1 _ HI.out HC.out).mono ?_
  rintro e w1 ⟨rfl, rfl⟩
  cases v1
  · go_wp2
    go_ret
    exact ⟨ret_bool HV.out.symm, rfl⟩
  · obtain ⟨c1, c2, c3⟩ := (choB_iff zs 99).1 HC.out
    obtain ⟨m, hm⟩ : ∃ m, mxTo zs (len - 1) = m := ⟨_, rfl⟩
    have HM := Lib.hid hm
    have HX : Hid (v = decide (0 < m)) := by
      have := max_sum (c := zs) (fun i hi => (toB_at c1 hi).1) (by omega)
      rw [HL.out, hm] at this
      rw [Hid, HV.out, this]; rfl
    rw [HL.out] at c2
    clear hm c1 c3
    go_wp2_with fail
    refine (slMax_as _ _ _ zs _ HI.out (by omega) m HM.out).mono ?_
    rintro e w2 ⟨rfl, rfl⟩
    go_wp2
    go_ret
    exact ⟨ret_bool HX.out.symm, rfl⟩

set_option maxHeartbeats 1000000 in
/-- **givenValid**, for one to five parties. -/
theorem given_as (a : Option Addr) (len cap : Nat) (zs : List Int) (n : Nat) (v : Bool) (w : World) (h : IsInts w a len cap zs) (hn : 1 ≤ n ∧ n ≤ 5) (hv : giveB zs n = v) :
    Calls Try.prog 42 #[.slice a len cap, .int .i64 (n : Int)] w fun e w' => e = .returned (.bool v) ∧ w = w' := by
  have HI := Lib.hid h
  have HL := Lib.hid h.1
  have hlm := h.2.2.1
  have HV := Lib.hid hv
  by_cases hl : len = n
  · subst hl
    have he : ((len : Int) == (len : Int)) = true := by simp
    obtain ⟨v1, h1⟩ : ∃ v1, choB zs 20 = v1 := ⟨_, rfl⟩
    have HC := Lib.hid h1
    have HV2 : Hid (v = (v1 && decide (totI zs ≤ 20))) := by
      unfold Hid; rw [← hv, ← h1]; unfold giveB choB
      have e5 : inB (zs.length : Int) 1 5 = true := by rw [HL.out]; simp [inB]; omega
      rw [decide_eq_true HL.out, e5, Bool.true_and, Bool.and_true]
    clear h hv h1
    go_enter Try.func42, Try.ntmps42
    go_wp2_with fail
    refine (choices_as _ _ _ zs 20 v1 _ HI.out HC.out).mono ?_
    rintro e w1 ⟨rfl, rfl⟩
    cases v1
    · go_wp2
      go_ret
      exact ⟨ret_bool HV2.out.symm, rfl⟩
    · obtain ⟨c1, c2, c3⟩ := (choB_iff zs 20).1 HC.out
      rw [HL.out] at c1
      have HB : Hid (∀ x : Nat, x < len → 0 ≤ zs[x]?.getD 0 ∧ zs[x]?.getD 0 ≤ 100000) := fun x hx => by have := toB_at c1 hx; omega
      obtain ⟨t, ht⟩ : ∃ t, totI zs = t := ⟨_, rfl⟩
      rw [ht] at HV2
      have HT := Lib.hid ht
      clear c1 c2 c3 ht
      go_wp2_with fail
      refine (implSum_as _ _ _ zs t _ HI.out (by omega) HB.out HT.out).mono ?_
      rintro e w2 ⟨rfl, rfl⟩
      go_wp2
      go_ret
      exact ⟨ret_bool HV2.out.symm, rfl⟩
  · have he : ((len : Int) == (n : Int)) = false := by simp; omega
    have HF : Hid (v = false) := by
      rw [Hid, ← hv]; unfold giveB
      rw [HL.out, decide_eq_false hl]; simp
    clear h hv hl
    go_enter Try.func42, Try.ntmps42
    go_wp2
    go_ret
    exact ⟨ret_bool HF.out.symm, rfl⟩

set_option maxHeartbeats 1000000 in
/-- **lotsOfParties**. -/
theorem lotsOf_as (a : Option Addr) (len cap : Nat) (zs : List Int) (n : Nat) (v : Bool) (w : World) (h : IsInts w a len cap zs) (hv : (lotsB zs && decide (len = n)) = v) :
    Calls Try.prog 26 #[.slice a len cap, .int .i64 (n : Int)] w fun e w' => e = .returned (.bool v) ∧ Below w.heap.size w w' := by
  have HI := Lib.hid h
  obtain ⟨v1, h1⟩ : ∃ v1, lotsB zs = v1 := ⟨_, rfl⟩
  have HC := Lib.hid h1
  rw [h1] at hv
  have HV := Lib.hid hv
  clear h hv h1
  go_enter Try.func26, Try.ntmps26
  go_wp2_with fail
  refine (implLots_as _ _ _ zs v1 _ HI.out HC.out).mono ?_
  rintro e w1 ⟨rfl, hd⟩
  cases v1
  · go_wp2
    go_ret
    exact ⟨ret_bool HV.out, hd⟩
  · by_cases hl : len = n
    · have he : ((len : Int) == (n : Int)) = true := by simp; omega
      have HT : Hid (v = true) := by rw [Hid, ← HV.out, decide_eq_true hl]; rfl
      clear hl
      go_wp2
      go_ret
      exact ⟨ret_bool HT.out.symm, hd⟩
    · have he : ((len : Int) == (n : Int)) = false := by simp; omega
      have HT : Hid (v = false) := by rw [Hid, ← HV.out, decide_eq_false hl]; rfl
      clear hl
      go_wp2
      go_ret
      exact ⟨ret_bool HT.out.symm, hd⟩

end Go.Proofs.Ytgcocdacofpglaa

namespace Go.Proofs.Ytgcocdacofpglaa
open Go.RowKit

end Go.Proofs.Ytgcocdacofpglaa

namespace Go.Proofs.Ytgcocdacofpglaa
open Go.RowKit

def eqF (a1 a2 b1 b2 : Int) : Bool := decide (a1 = b1) && decide (a2 = b2)
end Go.Proofs.Ytgcocdacofpglaa

namespace Go.Proofs.Ytgcocdacofpglaa
open Go.RowKit

theorem frac_under : Try.prog.underlying 56 = some (.struct (Try.prog.fieldsOf 56)) := by kernel_rfl
theorem frac_stood : Try.prog.stoodInHeld 56 = false := by kernel_rfl
theorem frac_guard : Try.prog.eqGuardType Try.prog.depth 56 = false := by kernel_rfl

theorem run_neqF (a1 a2 b1 b2 : Int) (v : Bool) (hv : (!eqF a1 a2 b1 b2) = v) (w : World) : (binOp .neq 56 (.agg #[.int .i64 a1, .int .i64 a2]) (.agg #[.int .i64 b1, .int .i64 b2])).run Try.prog w = .ok (.bool v) w := by
  subst hv
  rw [run_neq_struct, run_equalIn_agg _ _ _ _ _ frac_under frac_stood]
  simp [go_sem, Program.fieldsOf, Try.underlying56, Try.underlying3, Op.eqFields, eqF]
  by_cases h : a1 = b1
  · subst h
    by_cases h2 : a2 = b2 <;> simp [h2]
  · simp [h]
theorem run_eqF (a1 a2 b1 b2 : Int) (v : Bool) (hv : eqF a1 a2 b1 b2 = v) (w : World) : (binOp .eql 56 (.agg #[.int .i64 a1, .int .i64 a2]) (.agg #[.int .i64 b1, .int .i64 b2])).run Try.prog w = .ok (.bool v) w := by
  subst hv
  rw [run_eql_struct, run_equalIn_agg _ _ _ _ _ frac_under frac_stood]
  simp [go_sem, Program.fieldsOf, Try.underlying56, Try.underlying3, Op.eqFields, eqF]
  by_cases h : a1 = b1
  · subst h
    by_cases h2 : a2 = b2 <;> simp [h2]
  · simp [h]
theorem run_guardF (op : BinOp) (x y : Operand) (xs ys : Array Value) (w : World) : (eqGuard op 56 x y (.agg xs) (.agg ys)).run Try.prog w = .ok () w := run_eqGuard_agg w op _ x y xs ys frac_guard
theorem eqF_self (x y : Int) : eqF x y x y = true := by simp [eqF]
theorem eqF_of {a b : Fr} (h : a = b) : eqF a.1 a.2 b.1 b.2 = true := by subst h; simp [eqF]
theorem eqF_iff (a1 a2 b1 b2 : Int) : eqF a1 a2 b1 b2 = decide ((a1, a2) = (b1, b2)) := by
  rw [Bool.eq_iff_iff]; simp [eqF]
end Go.Proofs.Ytgcocdacofpglaa

namespace Go.Proofs.Ytgcocdacofpglaa
open Go.RowKit

/-- Behind the region: a block of the region's own holds the pair, nothing that was there has turned. -/
def MadeB (W0 : World) (x y : Int) (ok : Bool) (s5 s6 : Value) (wx : World) : Prop := ∃ p, s5 = .pointer (some ⟨p, 0, none⟩) ∧ s6 = .bool ok ∧ Two wx p x y ∧ Below W0.heap.size W0 wx
theorem made_old {W0 w3 : World} {x y u v : Int} {ok : Bool} {p : Nat} (hN : Two w3 p u v) (hC : Below W0.heap.size W0 w3) (hp : W0.heap.size ≤ p) :
    MadeB W0 x y ok (.pointer (some ⟨p, 0, none⟩)) (.bool ok) ((w3.setCell ⟨p, 0, none⟩ (.int .i64 x)).setCell ⟨p, 1, none⟩ (.int .i64 y)) :=
  ⟨p, rfl, rfl, ⟨by simpa [World.setCell] using hN.lt, by rw [World.cell?_setCell_other _ _ _ _ (by intro e; injection e with _ e2; exact absurd e2 (by decide))]; exact hN.set0 _, hN.set1 _ _, by simpa using hN.f0, by simpa using hN.f1⟩, below_set2 hC hp _ _⟩
theorem made_new {W0 w3 : World} {x y : Int} {ok : Bool} {t : TypeId} (hC : Below W0.heap.size W0 w3) :
    MadeB W0 x y ok (.pointer (some ⟨w3.heap.size, 0, none⟩)) (.bool ok) (w3.alloc (.cells #[.int .i64 x, .int .i64 y] t)) :=
  ⟨_, rfl, rfl, Two.new _ _ _ _, below_more hC _⟩

end Go.Proofs.Ytgcocdacofpglaa

namespace Go.Proofs.Ytgcocdacofpglaa
open Go.RowKit

attribute [local go_sem] Oper.semAt_some

/-- The method with a number, as a value. -/
def methV (m : Int) : Value := if m = 1 then .iface 72 (.agg #[]) else if m = 2 then .iface 73 (.agg #[]) else .nilIface

theorem asr_ww (w : World) : (Instr.typeAssert (.iface 72 (.agg #[])) 47 72 true).run Try.prog w = .ok (.tuple #[.agg #[], .bool true]) w := by kernel_rfl
theorem asr_wo (w : World) : (Instr.typeAssert (.iface 72 (.agg #[])) 47 73 true).run Try.prog w = .ok (.tuple #[.agg #[], .bool false]) w := by kernel_rfl
theorem asr_ow (w : World) : (Instr.typeAssert (.iface 73 (.agg #[])) 47 72 true).run Try.prog w = .ok (.tuple #[.agg #[], .bool false]) w := by kernel_rfl
theorem asr_oo (w : World) : (Instr.typeAssert (.iface 73 (.agg #[])) 47 73 true).run Try.prog w = .ok (.tuple #[.agg #[], .bool true]) w := by kernel_rfl
attribute [local go_sem] asr_ww asr_wo asr_ow asr_oo
set_option maxHeartbeats 1000000 in
/-- **methodNumber**. -/
theorem methNum_one (w : World) : Calls Try.prog 50 #[.iface 72 (.agg #[])] w fun e w' => e = .returned (.int .i64 1) ∧ w = w' := by
  go_enter Try.func50, Try.ntmps50
  go_wp2
  go_ret
  exact ⟨rfl, rfl⟩
set_option maxHeartbeats 1000000 in
theorem methNum_two (w : World) : Calls Try.prog 50 #[.iface 73 (.agg #[])] w fun e w' => e = .returned (.int .i64 2) ∧ w = w' := by
  go_enter Try.func50, Try.ntmps50
  go_wp2
  go_ret
  exact ⟨rfl, rfl⟩

set_option maxRecDepth 100000 in
set_option maxHeartbeats 2000000 in
/-- **methodOf**. -/
theorem methOf_as (m : Int) (v : Bool) (w : World) (hv : methB m = v) :
    Calls Try.prog 40 #[.int .i64 m] w fun e w' => e = .returned (.tuple #[methV m, .bool v]) ∧ Below w.heap.size w w' := by
  have HV := Lib.hid hv; clear hv
  have HB : Hid (∀ o, Below w.heap.size w (w.alloc o)) := fun o => (Below.refl _ _).alloc (Nat.le_refl _) _
  by_cases h1 : m = 1
  · subst h1
    obtain rfl : v = true := HV.out.symm
    go_enter Try.func40, Try.ntmps40
    go_wp2
    go_rounds 2
    go_ret2
    exact ⟨rfl, HB.out _⟩
  · have e1 : ((1 : Int) == m) = false := by simp; omega
    by_cases h2 : m = 2
    · subst h2
      obtain rfl : v = true := HV.out.symm
      go_enter Try.func40, Try.ntmps40
      go_wp2
      go_rounds 2
      go_ret2
      exact ⟨rfl, HB.out _⟩
    · have e2 : ((2 : Int) == m) = false := by simp; omega
      have hf : v = false := by rw [← HV.out]; unfold methB; rw [decide_eq_false h1, decide_eq_false h2]; rfl
      subst hf
      have HM : Hid (methV m = .nilIface) := by unfold Hid methV; rw [if_neg h1, if_neg h2]
      rw [HM.out]
      clear h1 h2
      go_enter Try.func40, Try.ntmps40
      go_wp2
      go_rounds 3
      go_ret2
      exact ⟨rfl, HB.out _⟩

set_option maxHeartbeats 1000000 in
/-- **divisor**, by whole numbers. -/
theorem divOne_as (g d : Int) (w : World) (hg : 0 ≤ g ∧ g ≤ 20) (hd : divI 1 g = d) :
    Calls Try.prog 76 #[.agg #[], .int .i64 g] w fun e w' => e = .returned (.int .i64 d) ∧ Below w.heap.size w w' := by
  have HD : Hid (g + 1 = d) := by unfold Hid; rw [← hd]; unfold divI; omega
  clear hd
  go_enter Try.func76, Try.ntmps76
  go_wp2
  go_ret
  exact ⟨ret_int HD.out, (Below.refl _ _).alloc (Nat.le_refl _) _⟩

set_option maxHeartbeats 1000000 in
/-- **divisor**, by odd numbers. -/
theorem divTwo_as (g d : Int) (w : World) (hg : 0 ≤ g ∧ g ≤ 20) (hd : divI 2 g = d) :
    Calls Try.prog 77 #[.agg #[], .int .i64 g] w fun e w' => e = .returned (.int .i64 d) ∧ Below w.heap.size w w' := by
  have HD : Hid (2 * g + 1 = d) := by unfold Hid; rw [← hd]; rfl
  clear hd
  go_enter Try.func77, Try.ntmps77
  go_wp2
  go_ret
  exact ⟨ret_int HD.out, (Below.refl _ _).alloc (Nat.le_refl _) _⟩

end Go.Proofs.Ytgcocdacofpglaa
