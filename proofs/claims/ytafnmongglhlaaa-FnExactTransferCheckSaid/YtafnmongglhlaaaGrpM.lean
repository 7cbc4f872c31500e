/-
  spec.TransferCheck: whether these are the steps. It writes into no memory that was there.
  The statements' own sameFracs and sameSteps, at all rows. They write into no memory that was there.
-/
import Derived.Test.YtafnmongglhlaaaGrpK
import Derived.Test.YtafnmongglhlaaaGrpQ
namespace Go.Proofs.Ytafnmongglhlaaa
open Go.RowKit

attribute [local go_sem] Oper.semAt_some

set_option maxRecDepth 100000 in
set_option maxHeartbeats 8000000 in
/-- **spec.TransferCheck**. -/
theorem specCheckT_as (a : Option Addr) (len cap : Nat) (ps : List Pl) (al : Option Addr) (n cl : Nat) (lots : List Int) (s : Int) (a4 : Option Addr) (l4 c4 : Nat) (ys : List GSt) (v : Bool) (w : World) (h : IsPiles w a len cap ps) (hs : Small ps) (hl : IsInts w al n cl lots) (hy : IsG w a4 l4 c4 ys) (hv : chkT ps lots s ys = v) :
    Calls Try.prog 30 #[.slice a len cap, .slice al n cl, .int .i64 s, .slice a4 l4 c4] w fun e w' => e = .returned (.bool v) ∧ Below w.heap.size w w' := by
  have HI := Lib.hid h
  have HS := Lib.hid hs
  have HL := Lib.hid hl
  have HY := Lib.hid hy
  have HYL := Lib.hid hy.1
  have hl4 := hy.2.2.1
  have hnm := hl.2.2.1
  obtain ⟨all, hall⟩ : ∃ all, tfAll ps lots s = all := ⟨_, rfl⟩
  have ha5 : all.length ≤ 5 := by rw [← hall]; exact tfAll_short _ _ _
  have HA := Lib.hid hall
  cases ht : transB ps lots s
  · obtain rfl : false = v := by rw [← hv, chkT, ht]; rfl
    have HT := Lib.hid ht
    clear h hs hl hy hv hall ht
    go_enter Try.func30, Try.ntmps30
    go_wp2_with fail
    refine (specSteps_as a len cap ps al n cl lots s all false _ HI.out HS.out HL.out HT.out HA.out).mono ?_
    rintro e w1 ⟨a2, c2, gs2, rfl, ho, hb⟩
    go_wp2
    go_ret
    exact ⟨rfl, hb⟩
  · have HV : Hid (decide (all.map toG = ys) = v) := by rw [Hid, ← hv, chkT, ht, hall]; rfl
    have HT := Lib.hid ht
    clear h hs hl hy hv hall ht
    go_enter Try.func30, Try.ntmps30
    go_wp2_with fail
    refine (specSteps_as a len cap ps al n cl lots s all true _ HI.out HS.out HL.out HT.out HA.out).mono ?_
    rintro e w1 ⟨a2, c2, gs2, rfl, ho, hb⟩
    have I2 := Lib.hid (ho.is (by omega) (by omega)).g
    have HY := Lib.hid (HY.out.below hb)
    have B := Lib.hid hb
    clear ho hb HA HT HI HS HL
    by_cases hlen : all.length = l4
    · have hnn : ((all.length : Int) != (l4 : Int)) = false := by rw [hlen]; simp
      have HLL := Lib.hid hlen
      clear hlen
      go_wp2
      go_loopw [11] (fun iv wr => ∃ j : Nat, j ≤ l4 ∧ iv = .int .i64 (j : Int) ∧ Hid ((all.map toG).take j = ys.take j) ∧ Hid (Below w1.heap.size w1 wr)) (fun iv _ => l4 - (intOf iv).toNat)
      case atStart => exact ⟨0, Nat.zero_le _, rfl, rfl, Below.refl _ _⟩
      case round =>
        obtain ⟨j, hj, rfl, hE, hB⟩ := hrel
        by_cases hlt : j < l4
        · have hji : (j : Int) < (l4 : Int) := by omega
          have hja : (j : Int) < (all.length : Int) := by have := HLL.out; omega
          obtain ⟨⟨cs, x, k⟩, hst⟩ : ∃ st, (all.map toG)[j]? = some st := ⟨_, List.getElem?_eq_getElem (by rw [List.length_map]; omega)⟩
          obtain ⟨⟨ds, p, q⟩, hyt⟩ : ∃ st, ys[j]? = some st := ⟨_, List.getElem?_eq_getElem (by rw [HYL.out]; exact hlt)⟩
          have hmore := take_more hst hyt
          obtain ⟨b1, o1, a5, l5, c5, rfl, hl1, k0, k1, k2, f1⟩ := (I2.out.below hB.out).at hst
          obtain ⟨b2, o2, a6, l6, c6, rfl, hl2, m0, m1, m2, f2⟩ := (HY.out.below hB.out).at hyt
          have k1 : wr.cell? ⟨b1, o1 + j * 3 + 1, none⟩ = some (.int .i64 x) := k1
          have k2 : wr.cell? ⟨b1, o1 + j * 3 + 2, none⟩ = some (.int .i64 k) := k2
          have m1 : wr.cell? ⟨b2, o2 + j * 3 + 1, none⟩ = some (.int .i64 p) := m1
          have m2 : wr.cell? ⟨b2, o2 + j * 3 + 2, none⟩ = some (.int .i64 q) := m2
          have F1 := Lib.hid f1
          have F2 := Lib.hid f2
          have HMO := Lib.hid hmore
          have u0 : ∀ u : Beh wr, u.w.cell? ⟨b1, o1 + j * 3, none⟩ = _ := Beh.cell k0 hl1
          have u1 : ∀ u : Beh wr, u.w.cell? ⟨b1, o1 + j * 3 + 1, none⟩ = _ := Beh.cell k1 hl1
          have u2 : ∀ u : Beh wr, u.w.cell? ⟨b1, o1 + j * 3 + 2, none⟩ = _ := Beh.cell k2 hl1
          have u3 : ∀ u : Beh wr, u.w.cell? ⟨b2, o2 + j * 3, none⟩ = _ := Beh.cell m0 hl2
          have u4 : ∀ u : Beh wr, u.w.cell? ⟨b2, o2 + j * 3 + 1, none⟩ = _ := Beh.cell m1 hl2
          have u5 : ∀ u : Beh wr, u.w.cell? ⟨b2, o2 + j * 3 + 2, none⟩ = _ := Beh.cell m2 hl2
          clear k0 k1 k2 m0 m1 m2 f1 f2 hst hyt hmore
          have NO : ∀ (w8 : World), Below wr.heap.size wr w8 → Below w.heap.size w w8 := fun w8 hb8 => (B.out.trans (hB.out.mono B.out.size)).trans (hb8.mono (by have := B.out.size; have := hB.out.size; omega))
          have NV : ¬ ((cs, x, k) = ((ds, p, q) : GSt)) → false = v := fun hne => by
            rw [← HV.out]
            exact (decide_eq_false (take_differ (j := j + 1) fun e => hne (HMO.out.1 e).2)).symm
          have NO := Lib.hid NO
          have NV := Lib.hid NV
          by_cases hx : p = x
          · have e1 : (p != x) = false := by rw [hx]; simp
            by_cases hk : q = k
            · have e2 : (q != k) = false := by rw [hk]; simp
              obtain ⟨t, htt⟩ : ∃ t, decide (ds = cs) = t := ⟨_, rfl⟩
              have HD := Lib.hid htt
              have HXK := Lib.hid (And.intro hx hk)
              clear hx hk htt
              go_wp2_with fail
              refine wp_region_below (by kernel_rfl) (by kernel_rfl) ?_
              repeat (go_big_quiet_step (first | (go_at_call 61; exact Calls.behDr (l15Same_as _ _ _ ds _ _ _ cs t _ (F2.out.below (Beh.below _)) (F1.out.below (Beh.below _)) HD.out))))
              refine wpQuiet_nil ?_
              rintro w8 ⟨⟨_, hb8'⟩, he⟩
              have hb8 : Below wr.heap.size wr w8 := by rw [he]; exact hb8'
              have B8 : Hid (Below w1.heap.size w1 w8) := hB.out.trans (hb8.mono hB.out.size)
              have N8 := Lib.hid (NO.out w8 hb8)
              clear he hb8' u0 u1 u2 u3 u4 u5 hb8
              cases t
              · have HE : Hid (false = v) := NV.out fun e => by
                  injection e with e _
                  have h1 := HD.out
                  rw [e, decide_eq_true rfl] at h1; cases h1
                go_wp2
                go_ret
                exact ⟨ret_bool HE.out, N8.out⟩
              · have HE2 : Hid ((all.map toG).take (j + 1) = ys.take (j + 1)) := HMO.out.2 ⟨hE.out, by
                  have h1 := of_decide_eq_true HD.out
                  rw [HXK.out.1, HXK.out.2, h1]⟩
                go_wp2
                go_roundw
                case rel => exact ⟨j + 1, by omega, by go_num, HE2.out, B8.out⟩
                case measure => simp [intOf]; omega
            · have e2 : (q != k) = true := by simp; omega
              have HE : Hid (false = v) := NV.out fun e => by
                injection e with _ e
                injection e with _ e
                exact hk e.symm
              clear hx hk
              go_wp2_with fail
              refine wp_region_below (by kernel_rfl) (by kernel_rfl) ?_
              repeat (go_big_quiet_step (fail))
              refine wpQuiet_nil ?_
              rintro w8 ⟨⟨_, hb8'⟩, he⟩
              have hb8 : Below wr.heap.size wr w8 := by rw [he]; exact hb8'
              have N8 := Lib.hid (NO.out w8 hb8)
              clear he hb8' u0 u1 u2 u3 u4 u5 hb8
              go_wp2
              go_ret
              exact ⟨ret_bool HE.out, N8.out⟩
          · have e1 : (p != x) = true := by simp; omega
            have HE : Hid (false = v) := NV.out fun e => by
              injection e with _ e
              injection e with e _
              exact hx e.symm
            clear hx
            go_wp2_with fail
            refine wp_region_below (by kernel_rfl) (by kernel_rfl) ?_
            repeat (go_big_quiet_step (fail))
            refine wpQuiet_nil ?_
            rintro w8 ⟨⟨_, hb8'⟩, he⟩
            have hb8 : Below wr.heap.size wr w8 := by rw [he]; exact hb8'
            have N8 := Lib.hid (NO.out w8 hb8)
            clear he hb8' u0 u1 u2 u3 u4 u5 hb8
            go_wp2
            go_ret
            exact ⟨ret_bool HE.out, N8.out⟩
        · obtain rfl : j = l4 := by omega
          have HE : Hid (true = v) := by
            have h1 := hE.out
            rw [List.take_of_length_le (by rw [List.length_map, HLL.out]; exact Nat.le_refl _), List.take_of_length_le (by rw [HYL.out]; exact Nat.le_refl _)] at h1
            rw [Hid, ← HV.out]; exact (decide_eq_true h1).symm
          have N8 : Hid (Below w.heap.size w wr) := B.out.trans (hB.out.mono B.out.size)
          go_wp2
          go_ret
          exact ⟨ret_bool HE.out, N8.out⟩
    · have hnn : ((all.length : Int) != (l4 : Int)) = true := by simp; omega
      obtain rfl : false = v := by
        rw [← HV.out]
        refine (decide_eq_false fun e => hlen ?_).symm
        have h1 := congrArg List.length e
        rw [List.length_map, HYL.out] at h1; exact h1
      clear hlen
      go_wp2
      go_ret
      exact ⟨rfl, B.out⟩

end Go.Proofs.Ytafnmongglhlaaa

namespace Go.Proofs.Ytafnmongglhlaaa
open Go.RowKit

attribute [local go_sem] Oper.semAt_some

set_option maxRecDepth 100000 in
set_option maxHeartbeats 2000000 in
/-- **sameFracs**. -/
theorem sameFracs_as (a : Option Addr) (len cap : Nat) (cs : List Fr) (b : Option Addr) (len' cap' : Nat) (ds : List Fr) (v : Bool) (w : World) (h : IsFr w a len cap cs) (h' : IsFr w b len' cap' ds) (hv : decide (cs = ds) = v) :
    Calls Try.prog 50 #[.slice a len cap, .slice b len' cap'] w fun e w' => e = .returned (.bool v) ∧ Dr w w' := by
  by_cases hl : len = len'
  · subst hl
    have H1 := Lib.hid h
    have H2 := Lib.hid h'
    have L1 := Lib.hid h.1
    have L2 := Lib.hid h'.1
    have HV := Lib.hid hv
    have hlm := h.2.2.1
    have hnn : ((len : Int) != (len : Int)) = false := by simp
    have hgd := run_guardF
    clear h h' hv
    go_enter Try.func50, Try.ntmps50
    go_wp2
    go_loopw [5] (fun iv wr => ∃ j : Nat, j ≤ len ∧ iv = .int .i64 (j : Int) ∧ Hid (cs.take j = ds.take j) ∧ Dr w wr) (fun iv _ => len - (intOf iv).toNat)
    case atStart => exact ⟨0, Nat.zero_le _, rfl, rfl, Dr.refl _⟩
    case round =>
      obtain ⟨j, hj, rfl, hT, hd⟩ := hrel
      by_cases hlt : j < len
      · obtain ⟨b1, o1, rfl, hl1, hc1⟩ := (H1.out.below (hd.below _)).2.2.2 (by omega)
        obtain ⟨b2, o2, rfl, hl2, hc2⟩ := (H2.out.below (hd.below _)).2.2.2 (by omega)
        obtain ⟨x, y, hxy⟩ : ∃ x y, fAt cs j = (x, y) := ⟨_, _, rfl⟩
        obtain ⟨p, q, hpq⟩ : ∃ p q, fAt ds j = (p, q) := ⟨_, _, rfl⟩
        have k1 := (hc1 j hlt).1
        have k2 := (hc1 j hlt).2
        have k3 := (hc2 j hlt).1
        have k4 := (hc2 j hlt).2
        rw [hxy] at k1 k2
        rw [hpq] at k3 k4
        have hji : (j : Int) < (len : Int) := by omega
        have hmore := take_more (fr_at (cs := cs) (j := j) (by rw [L1.out]; exact hlt)) (fr_at (cs := ds) (j := j) (by rw [L2.out]; exact hlt))
        rw [hxy, hpq] at hmore
        obtain ⟨t, ht⟩ : ∃ t, (!eqF x y p q) = t := ⟨_, rfl⟩
        have hq1 := run_neqF x y p q t ht
        clear hc1 hc2 hxy hpq
        cases t
        · have HT : Hid (cs.take (j + 1) = ds.take (j + 1)) := hmore.2 ⟨hT.out, (eqF_eq x y p q).1 (by simpa using ht)⟩
          clear hmore ht
          go_wp2_with fail
          go_quiet (fail)
          go_wp2
          go_roundw
          case rel => exact ⟨j + 1, by omega, by go_num, HT.out, hd.drewN _⟩
          case measure => simp [intOf]; omega
        · have HE : Hid (false = v) := by
            rw [Hid, ← HV.out]
            refine (decide_eq_false (take_differ (j := j + 1) fun e => ?_)).symm
            have := (eqF_eq x y p q).2 (hmore.1 e).2
            rw [this] at ht; cases ht
          clear hmore ht
          go_wp2_with fail
          go_quiet (fail)
          go_wp2
          go_ret
          exact ⟨ret_bool HE.out, hd.drewN _⟩
      · obtain rfl : j = len := by omega
        have HE : Hid (true = v) := by
          have h1 := hT.out
          rw [List.take_of_length_le (by rw [L1.out]; exact Nat.le_refl _), List.take_of_length_le (by rw [L2.out]; exact Nat.le_refl _)] at h1
          rw [Hid, ← HV.out]; exact (decide_eq_true h1).symm
        go_wp2
        go_ret
        exact ⟨ret_bool HE.out, hd⟩
  · have hnn : ((len : Int) != (len' : Int)) = true := by simp; omega
    obtain rfl : false = v := by rw [← hv]; exact (decide_eq_false (fun e => hl (by rw [← h.1, ← h'.1, e]))).symm
    clear h h' hv hl
    go_enter Try.func50, Try.ntmps50
    go_wp2
    go_ret
    exact ⟨rfl, Dr.refl _⟩

set_option maxRecDepth 100000 in
set_option maxHeartbeats 8000000 in
/-- **sameSteps**. -/
theorem sameSteps_as (a2 : Option Addr) (la c2 : Nat) (xs : List GSt) (a4 : Option Addr) (l4 c4 : Nat) (ys : List GSt) (v : Bool) (w : World) (hx : IsG w a2 la c2 xs) (hy : IsG w a4 l4 c4 ys) (hv : decide (xs = ys) = v) :
    Calls Try.prog 16 #[.slice a2 la c2, .slice a4 l4 c4] w fun e w' => e = .returned (.bool v) ∧ Below w.heap.size w w' := by
  have HX := Lib.hid hx
  have HXL := Lib.hid hx.1
  have HY := Lib.hid hy
  have HYL := Lib.hid hy.1
  have HV := Lib.hid hv
  have hl4 := hy.2.2.1
  clear hx hy hv
  go_enter Try.func16, Try.ntmps16
  by_cases hlen : la = l4
  · obtain rfl : l4 = la := hlen.symm
    have hnn : ((l4 : Int) != (l4 : Int)) = false := by simp
    have HLL : Hid (l4 = l4) := rfl
    clear hlen
    go_wp2
    go_loopw [5] (fun iv wr => ∃ j : Nat, j ≤ l4 ∧ iv = .int .i64 (j : Int) ∧ Hid (xs.take j = ys.take j) ∧ Hid (Below w.heap.size w wr)) (fun iv _ => l4 - (intOf iv).toNat)
    case atStart => exact ⟨0, Nat.zero_le _, rfl, rfl, Below.refl _ _⟩
    case round =>
      obtain ⟨j, hj, rfl, hE, hB⟩ := hrel
      by_cases hlt : j < l4
      · have hji : (j : Int) < (l4 : Int) := by omega
        have hja : (j : Int) < (l4 : Int) := by have := HLL.out; omega
        obtain ⟨⟨cs, x, k⟩, hst⟩ : ∃ st, xs[j]? = some st := ⟨_, List.getElem?_eq_getElem (by rw [HXL.out]; omega)⟩
        obtain ⟨⟨ds, p, q⟩, hyt⟩ : ∃ st, ys[j]? = some st := ⟨_, List.getElem?_eq_getElem (by rw [HYL.out]; exact hlt)⟩
        have hmore := take_more hst hyt
        obtain ⟨b1, o1, a5, l5, c5, rfl, hl1, k0, k1, k2, f1⟩ := (HX.out.below hB.out).at hst
        obtain ⟨b2, o2, a6, l6, c6, rfl, hl2, m0, m1, m2, f2⟩ := (HY.out.below hB.out).at hyt
        have k1 : wr.cell? ⟨b1, o1 + j * 3 + 1, none⟩ = some (.int .i64 x) := k1
        have k2 : wr.cell? ⟨b1, o1 + j * 3 + 2, none⟩ = some (.int .i64 k) := k2
        have m1 : wr.cell? ⟨b2, o2 + j * 3 + 1, none⟩ = some (.int .i64 p) := m1
        have m2 : wr.cell? ⟨b2, o2 + j * 3 + 2, none⟩ = some (.int .i64 q) := m2
        have F1 := Lib.hid f1
        have F2 := Lib.hid f2
        have HMO := Lib.hid hmore
        have u0 : ∀ u : Beh wr, u.w.cell? ⟨b1, o1 + j * 3, none⟩ = _ := Beh.cell k0 hl1
        have u1 : ∀ u : Beh wr, u.w.cell? ⟨b1, o1 + j * 3 + 1, none⟩ = _ := Beh.cell k1 hl1
        have u2 : ∀ u : Beh wr, u.w.cell? ⟨b1, o1 + j * 3 + 2, none⟩ = _ := Beh.cell k2 hl1
        have u3 : ∀ u : Beh wr, u.w.cell? ⟨b2, o2 + j * 3, none⟩ = _ := Beh.cell m0 hl2
        have u4 : ∀ u : Beh wr, u.w.cell? ⟨b2, o2 + j * 3 + 1, none⟩ = _ := Beh.cell m1 hl2
        have u5 : ∀ u : Beh wr, u.w.cell? ⟨b2, o2 + j * 3 + 2, none⟩ = _ := Beh.cell m2 hl2
        clear k0 k1 k2 m0 m1 m2 f1 f2 hst hyt hmore
        have NO : ∀ (w8 : World), Below wr.heap.size wr w8 → Below w.heap.size w w8 := fun w8 hb8 => hB.out.trans (hb8.mono hB.out.size)
        have NV : ¬ ((cs, x, k) = ((ds, p, q) : GSt)) → false = v := fun hne => by
          rw [← HV.out]
          exact (decide_eq_false (take_differ (j := j + 1) fun e => hne (HMO.out.1 e).2)).symm
        have NO := Lib.hid NO
        have NV := Lib.hid NV
        by_cases hx : p = x
        · have e1 : (x != p) = false := by rw [hx]; simp
          by_cases hk : q = k
          · have e2 : (k != q) = false := by rw [hk]; simp
            obtain ⟨t, htt⟩ : ∃ t, decide (cs = ds) = t := ⟨_, rfl⟩
            have HD := Lib.hid htt
            have HXK := Lib.hid (And.intro hx hk)
            clear hx hk htt
            go_wp2_with fail
            refine wp_region_below (by kernel_rfl) (by kernel_rfl) ?_
            repeat (go_big_quiet_step (first | (go_at_call 50; exact Calls.behDr (sameFracs_as _ _ _ cs _ _ _ ds t _ (F1.out.below (Beh.below _)) (F2.out.below (Beh.below _)) HD.out))))
            refine wpQuiet_nil ?_
            rintro w8 ⟨⟨_, hb8'⟩, he⟩
            have hb8 : Below wr.heap.size wr w8 := by rw [he]; exact hb8'
            have B8 : Hid (Below w.heap.size w w8) := hB.out.trans (hb8.mono hB.out.size)
            have N8 := Lib.hid (NO.out w8 hb8)
            clear he hb8' u0 u1 u2 u3 u4 u5 hb8
            cases t
            · have HE : Hid (false = v) := NV.out fun e => by
                injection e with e _
                have h1 := HD.out
                rw [e, decide_eq_true rfl] at h1; cases h1
              go_wp2
              go_ret
              exact ⟨ret_bool HE.out, N8.out⟩
            · have HE2 : Hid (xs.take (j + 1) = ys.take (j + 1)) := HMO.out.2 ⟨hE.out, by
                have h1 := of_decide_eq_true HD.out
                rw [HXK.out.1, HXK.out.2, h1]⟩
              go_wp2
              go_roundw
              case rel => exact ⟨j + 1, by omega, by go_num, HE2.out, B8.out⟩
              case measure => simp [intOf]; omega
          · have e2 : (k != q) = true := by simp; omega
            have HE : Hid (false = v) := NV.out fun e => by
              injection e with _ e
              injection e with _ e
              exact hk e.symm
            clear hx hk
            go_wp2_with fail
            refine wp_region_below (by kernel_rfl) (by kernel_rfl) ?_
            repeat (go_big_quiet_step (fail))
            refine wpQuiet_nil ?_
            rintro w8 ⟨⟨_, hb8'⟩, he⟩
            have hb8 : Below wr.heap.size wr w8 := by rw [he]; exact hb8'
            have N8 := Lib.hid (NO.out w8 hb8)
            clear he hb8' u0 u1 u2 u3 u4 u5 hb8
            go_wp2
            go_ret
            exact ⟨ret_bool HE.out, N8.out⟩
        · have e1 : (x != p) = true := by simp; omega
          have HE : Hid (false = v) := NV.out fun e => by
            injection e with _ e
            injection e with e _
            exact hx e.symm
          clear hx
          go_wp2_with fail
          refine wp_region_below (by kernel_rfl) (by kernel_rfl) ?_
          repeat (go_big_quiet_step (fail))
          refine wpQuiet_nil ?_
          rintro w8 ⟨⟨_, hb8'⟩, he⟩
          have hb8 : Below wr.heap.size wr w8 := by rw [he]; exact hb8'
          have N8 := Lib.hid (NO.out w8 hb8)
          clear he hb8' u0 u1 u2 u3 u4 u5 hb8
          go_wp2
          go_ret
          exact ⟨ret_bool HE.out, N8.out⟩
      · obtain rfl : j = l4 := by omega
        have HE : Hid (true = v) := by
          have h1 := hE.out
          rw [List.take_of_length_le (by rw [HXL.out]; have := HLL.out; omega), List.take_of_length_le (by rw [HYL.out]; exact Nat.le_refl _)] at h1
          rw [Hid, ← HV.out]; exact (decide_eq_true h1).symm
        have N8 : Hid (Below w.heap.size w wr) := hB.out
        go_wp2
        go_ret
        exact ⟨ret_bool HE.out, N8.out⟩
  · have hnn : ((la : Int) != (l4 : Int)) = true := by simp; omega
    obtain rfl : false = v := by
      rw [← HV.out]
      refine (decide_eq_false fun e => hlen ?_).symm
      have h1 := congrArg List.length e
      rw [HXL.out, HYL.out] at h1; exact h1
    clear hlen
    go_wp2
    go_ret
    exact ⟨rfl, Below.refl _ _⟩

end Go.Proofs.Ytafnmongglhlaaa
