/-
  firstGreatest: of an order of indices the first one that has the greatest fraction; it writes into no memory that was there.
  firstGreatest and the method least of impl's transfer: whom they take; they write into no memory that was there.
  spec.l15Weigh: the weights behind a seat, in memory of its own; it writes into no memory that was there.
  TransferQuota of both sides: what it answers at all numbers; it writes into no memory.
-/
import Derived.Test.YtafnmongglhlaaaGrp14
import Derived.Test.YtafnmongglhlaaaGrpT
import Derived.Test.YtafnmongglhlaaaGrpQ
import Derived.Test.YtafnmongglhlaaaGrp17
import Derived.Test.YtafnmongglhlaaaGrp1
import Derived.Test.YtafnmongglhlaaaGrp16
namespace Go.Proofs.Ytafnmongglhlaaa
open Go.RowKit

attribute [local go_sem] Oper.semAt_some

/-- Over an order, the first one of the greatest. -/
def grF (cs : List Fr) : Int → List Int → Int
  | b, [] => b
  | b, k :: t => grF cs (if lessF (fAt cs b.toNat) (fAt cs k.toNat) = true then k else b) t
theorem grF_snoc (cs : List Fr) (z : Int) : ∀ (l : List Int) (b : Int), grF cs b (l ++ [z]) = if lessF (fAt cs (grF cs b l).toNat) (fAt cs z.toNat) = true then z else grF cs b l
  | [], _ => rfl
  | k :: t, b => by rw [List.cons_append, grF, grF_snoc cs z t, grF]
theorem grF_next {cs : List Fr} {b0 b z : Int} {l : List Int} {k : Nat} {v : Bool} (h : k < l.length) (hz : l[k]?.getD 0 = z) (hb : grF cs b0 (l.take k) = b) (hv : lessF (fAt cs b.toNat) (fAt cs z.toNat) = v) :
    grF cs b0 (l.take (k + 1)) = if v = true then z else b := by
  have e : l[k] = z := by rw [← hz]; simp [h]
  rw [List.take_succ_eq_append_getElem h, grF_snoc, hb, e, hv]

set_option maxRecDepth 100000 in
set_option maxHeartbeats 4000000 in
/-- **firstGreatest**. -/
theorem firstG_as (a : Option Addr) (cap n : Nat) (cs : List Fr) (a' : Option Addr) (L cap' : Nat) (st : List Int) (r : Int) (w : World) (h : IsFr w a n cap cs) (h' : IsInts w a' L cap' st)
    (hm : ∀ z ∈ st, 0 ≤ z ∧ z < (n : Int)) (hp : 0 < L) (hv : ∀ j, j < n → fracB (fAt cs j) = true) (hr : grF cs (st[0]?.getD 0) st = r) :
    Calls Try.prog 128 #[.slice a n cap, .slice a' L cap'] w fun e w' => e = .returned (.int .i64 r) ∧ Below w.heap.size w w' := by
  have HR : Hid (grF cs (st[0]?.getD 0) st = r) := hr
  have hL := h'.1
  have HL := Lib.hid hL
  have HI := Lib.hid h
  have HM := Lib.hid hm
  have HV := Lib.hid hv
  have hnm := h.2.2.1
  have hlm := h'.2.2.1
  obtain ⟨b0, hb0⟩ : ∃ b0, st[0]?.getD 0 = b0 := ⟨_, rfl⟩
  obtain ⟨sb, so, rfl, hsb, hsc⟩ := h'.2.2.2 hp
  have s0 := hsc 0 hp
  rw [hb0] at s0
  simp only [Nat.add_zero] at s0
  have HSC := Lib.hid hsc
  have hb0r := HM.out b0 (by rw [← hb0]; simp [show 0 < st.length by omega])
  rw [hb0] at HR
  clear h hm hv hr h' hL hsc hb0
  go_enter Try.func128, Try.ntmps128
  go_wp2
  go_loopw [5, 7, 13] (fun bv _ iv wr => ∃ (k : Nat) (b : Int), k ≤ L ∧ iv = .int .i64 (k : Int) ∧ bv = .int .i64 b ∧ (0 ≤ b ∧ b < (n : Int)) ∧ Hid (grF cs b0 (st.take k) = b) ∧ Below w.heap.size w wr) (fun _ _ iv _ => L - (intOf iv).toNat)
  case atStart => exact ⟨0, b0, Nat.zero_le _, rfl, rfl, hb0r, rfl, Below.refl _ _⟩
  case round =>
    obtain ⟨k, b, hk, rfl, rfl, hbr, hp', hB⟩ := hrel
    by_cases hlt : k < L
    · have hz := (hB.cell (p := ⟨sb, so + k, none⟩) hsb).trans (HSC.out k hlt)
      obtain ⟨z, hzz⟩ : ∃ z, st[k]?.getD 0 = z := ⟨_, rfl⟩
      rw [hzz] at hz
      have hkl : k < st.length := by rw [HL.out]; exact hlt
      have hzr : 0 ≤ z ∧ z < (n : Int) := HM.out z (by rw [← hzz]; simp [hkl])
      obtain ⟨v, hvv⟩ : ∃ v, lessF (fAt cs b.toNat) (fAt cs z.toNat) = v := ⟨_, rfl⟩
      have HNX := Lib.hid (grF_next hkl hzz hp'.out hvv)
      obtain ⟨x, rfl⟩ := Int.eq_ofNat_of_zero_le hzr.1
      obtain ⟨y, rfl⟩ := Int.eq_ofNat_of_zero_le hbr.1
      rw [Int.toNat_natCast, Int.toNat_natCast] at hvv
      have hxn : x < n := by omega
      have hyn : y < n := by omega
      obtain ⟨fb, fo, rfl, hfb, cy0, cy1⟩ := (HI.out.below hB).at hyn
      obtain ⟨fb', fo', he, hfb', cx0, cx1⟩ := (HI.out.below hB).at hxn
      injection he with he
      injection he with he1 he2 _
      subst he1
      subst he2
      have hfy := HV.out y hyn
      have hfx := HV.out x hxn
      obtain ⟨y1, y2, hy⟩ : ∃ y1 y2, fAt cs y = (y1, y2) := ⟨_, _, rfl⟩
      obtain ⟨x1, x2, hx⟩ : ∃ x1 x2, fAt cs x = (x1, x2) := ⟨_, _, rfl⟩
      rw [hy] at hvv hfy cy0 cy1
      rw [hx] at hvv hfx cx0 cx1
      have HLV := Lib.hid hvv
      clear hy hx hvv
      have u0 : ∀ u : Beh wr, u.w.cell? ⟨fb, fo + y * 2, none⟩ = _ := Beh.cell cy0 hfb
      have u1 : ∀ u : Beh wr, u.w.cell? ⟨fb, fo + y * 2 + 1, none⟩ = _ := Beh.cell cy1 hfb
      have u2 : ∀ u : Beh wr, u.w.cell? ⟨fb, fo + x * 2, none⟩ = _ := Beh.cell cx0 hfb
      have u3 : ∀ u : Beh wr, u.w.cell? ⟨fb, fo + x * 2 + 1, none⟩ = _ := Beh.cell cx1 hfb
      have hyi : (y : Int) < (n : Int) := by omega
      have hxi : (x : Int) < (n : Int) := by omega
      clear cy0 cy1 cx0 cx1 hfb' hzz hp' hkl
      go_wp2_with fail
      refine wp_region_below (by kernel_rfl) (by kernel_rfl) ?_
      repeat (go_big_quiet_step (first | (go_at_call 53; exact Calls.beh (less_as y1 y2 x1 x2 v _ hfy hfx HLV.out))))
      refine wpQuiet_nil ?_
      rintro w8 ⟨⟨_, hb8'⟩, he⟩
      have hb8 : Below wr.heap.size wr w8 := by rw [he]; exact hb8'
      have hBw := hB.trans (hb8.mono hB.size)
      clear u0 u1 u2 u3 hb8 hb8' he
      cases v
      · go_wp2
        go_roundw
        case rel => exact ⟨k + 1, (y : Int), by omega, by go_num, rfl, by omega, HNX.out, hBw⟩
        case measure => simp [intOf]; omega
      · go_wp2
        go_roundw
        case rel => exact ⟨k + 1, (x : Int), by omega, by go_num, rfl, by omega, HNX.out, hBw⟩
        case measure => simp [intOf]; omega
    · obtain rfl : k = L := by omega
      have HX : Hid (b = r) := by
        have := hp'.out
        rw [← HL.out, List.take_length, HR.out] at this
        exact this.symm
      go_wp2
      go_ret
      exact ⟨ret_int (by rw [HX.out]), hB⟩

end Go.Proofs.Ytafnmongglhlaaa

namespace Go.Proofs.Ytafnmongglhlaaa
open Go.RowKit

attribute [local go_sem] Oper.semAt_some

theorem tfFold_next {least : Bool} {cs : List Fr} {b0 b z : Int} {l : List Int} {k : Nat} {v : Bool} (h : k < l.length) (hz : l[k]?.getD 0 = z) (hb : tfFold least cs b0 (l.take k) = b) (hv : lessF (tfC cs b) (tfC cs z) = v) :
    tfFold least cs b0 (l.take (k + 1)) = if (if least = true then !v else v) = true then z else b := by
  have e : l[k] = z := by rw [← hz]; simp [h]
  rw [List.take_succ_eq_append_getElem h, tfFold_snoc, hb, e, tfPick_is hv]

theorem tfFold_gr (cs : List Fr) : ∀ (l : List Int) (b : Int), tfFold false cs b l = grF cs b l
  | [], _ => rfl
  | k :: t, b => by rw [tfFold, grF, tfFold_gr cs t]; rfl
/-- **firstGreatest**, over those who are still there. -/
theorem greatest_as (base T : Nat) (R : TR) (ps : List Pl) (lots : List Int) (q : Int) (S : TfS) (m : Nat) (a : Option Addr) (cap n : Nat) (cs : List Fr) (r : Int) (w : World) (hT : TS w base T R ps lots q S m) (h : IsFr w a n cap cs)
    (hm : ∀ z ∈ thereL lots (tfG S.gs), 0 ≤ z ∧ z < (n : Int)) (hne : thereL lots (tfG S.gs) ≠ []) (hl5 : lots.length ≤ 5) (hv : ∀ j, j < n → fracB (fAt cs j) = true) (hr : tfBest false cs S.gs lots = r) (L : Nat) (hL : (thereL lots (tfG S.gs)).length = L) :
    Calls Try.prog 128 #[.slice a n cap, .slice (some ⟨R.gs, 0, none⟩) L R.cs] w fun e w' => e = .returned (.int .i64 r) ∧ Below w.heap.size w w' := by
  have hst5 : (thereL lots (tfG S.gs)).length ≤ 5 := Nat.le_trans (List.length_filter_le _ _) hl5
  have hp : 0 < (thereL lots (tfG S.gs)).length := List.length_pos_iff.2 hne
  have hJ := IsInts.of_owned hT.stay (by omega)
  rw [hL] at hJ hp
  refine firstG_as a cap n cs _ L R.cs (thereL lots (tfG S.gs)) r w h hJ hm hp hv ?_
  have e : (thereL lots (tfG S.gs))[0]?.getD 0 = (thereL lots (tfG S.gs))[0]?.getD (-1) := by
    rw [List.getElem?_eq_getElem (by omega)]; rfl
  rw [e, ← tfFold_gr, tfFold_all hne, ← hr]; rfl

set_option maxRecDepth 100000 in
set_option maxHeartbeats 4000000 in
/-- **least**. -/
theorem least_as (base T : Nat) (R : TR) (ps : List Pl) (lots : List Int) (q : Int) (S : TfS) (m : Nat) (a : Option Addr) (cap n : Nat) (cs : List Fr) (r : Int) (w : World) (hT : TS w base T R ps lots q S m) (h : IsFr w a n cap cs)
    (hm : ∀ z ∈ thereL lots (tfG S.gs), 0 ≤ z ∧ z < (n : Int)) (hne : thereL lots (tfG S.gs) ≠ []) (hl5 : lots.length ≤ 5) (hv : ∀ j, j < n → fracB (fAt cs j) = true) (hr : tfBest true cs S.gs lots = r) :
    Calls Try.prog 129 #[.pointer (some ⟨T, 0, none⟩), .slice a n cap] w fun e w' => e = .returned (.int .i64 r) ∧ Below w.heap.size w w' := by
  have k1 : w.cell? ⟨T, 1, none⟩ = some (.slice (some ⟨R.gs, 0, none⟩) (thereL lots (tfG S.gs)).length R.cs) := blk_cell hT.blk 1
  obtain ⟨st, hst⟩ : ∃ st, thereL lots (tfG S.gs) = st := ⟨_, rfl⟩
  have hst5 : st.length ≤ 5 := by rw [← hst]; exact Nat.le_trans (List.length_filter_le _ _) hl5
  have hstay := hT.stay
  rw [hst] at hm hne k1 hstay
  have HR : Hid (tfFold true cs (st[0]?.getD (-1)) st = r) := by unfold Hid; rw [tfFold_all hne, ← hr]; unfold tfBest; rw [hst]
  have hp : 0 < st.length := List.length_pos_iff.2 hne
  obtain ⟨L, hL⟩ : ∃ L, st.length = L := ⟨_, rfl⟩
  rw [hL] at k1 hp hst5 hstay
  have HL := Lib.hid hL
  have HJ := Lib.hid (IsInts.of_owned hstay (by omega))
  have HI := Lib.hid h
  have HM := Lib.hid hm
  have HV := Lib.hid hv
  have hnm := h.2.2.1
  have htl := blk_lt hT.blk
  obtain ⟨b0, hb0⟩ : ∃ b0, st[0]?.getD (-1) = b0 := ⟨_, rfl⟩
  have h00 : st[0]?.getD 0 = b0 := by rw [← hb0]; simp [show 0 < st.length by omega]
  obtain ⟨sb, so, hse, hsb, hsc⟩ := HJ.out.2.2.2 hp
  injection hse with hse
  injection hse with hs1 hs2 _
  subst hs1
  subst hs2
  have s0 := hsc 0 hp
  rw [h00] at s0
  simp only [Nat.zero_add] at hsc s0
  have HSC := Lib.hid hsc
  have hb0r := HM.out b0 (by rw [← h00]; simp [show 0 < st.length by omega])
  rw [hb0] at HR
  clear hT h hm hv hr hst hstay hne hL hsc h00 hb0
  go_enter Try.func129, Try.ntmps129
  go_wp2
  go_loopw [5, 7, 19] (fun bv _ iv wr => ∃ (k : Nat) (b : Int), k ≤ L ∧ iv = .int .i64 (k : Int) ∧ bv = .int .i64 b ∧ (0 ≤ b ∧ b < (n : Int)) ∧ Hid (tfFold true cs b0 (st.take k) = b) ∧ Below w.heap.size w wr) (fun _ _ iv _ => L - (intOf iv).toNat)
  case atStart => exact ⟨0, b0, Nat.zero_le _, rfl, rfl, hb0r, rfl, Below.refl _ _⟩
  case round =>
    obtain ⟨k, b, hk, rfl, rfl, hbr, hp', hB⟩ := hrel
    by_cases hlt : k < L
    · have hz := (hB.cell (p := ⟨R.gs, k, none⟩) hsb).trans (HSC.out k hlt)
      obtain ⟨z, hzz⟩ : ∃ z, st[k]?.getD 0 = z := ⟨_, rfl⟩
      rw [hzz] at hz
      have hkl : k < st.length := by rw [HL.out]; exact hlt
      have hzr : 0 ≤ z ∧ z < (n : Int) := HM.out z (by rw [← hzz]; simp [hkl])
      obtain ⟨v, hvv⟩ : ∃ v, lessF (tfC cs b) (tfC cs z) = v := ⟨_, rfl⟩
      have HNX := Lib.hid (tfFold_next (least := true) hkl hzz hp'.out hvv)
      obtain ⟨x, rfl⟩ := Int.eq_ofNat_of_zero_le hzr.1
      obtain ⟨y, rfl⟩ := Int.eq_ofNat_of_zero_le hbr.1
      have hxn : x < n := by omega
      have hyn : y < n := by omega
      obtain ⟨fb, fo, rfl, hfb, cy0, cy1⟩ := (HI.out.below hB).at hyn
      obtain ⟨fb', fo', he, hfb', cx0, cx1⟩ := (HI.out.below hB).at hxn
      injection he with he
      injection he with he1 he2 _
      subst he1
      subst he2
      have hfy := HV.out y hyn
      have hfx := HV.out x hxn
      have ey : tfC cs (y : Int) = fAt cs y := by unfold tfC fAt; rw [Int.toNat_natCast]
      have ex : tfC cs (x : Int) = fAt cs x := by unfold tfC fAt; rw [Int.toNat_natCast]
      rw [ey, ex] at hvv
      obtain ⟨y1, y2, hy⟩ : ∃ y1 y2, fAt cs y = (y1, y2) := ⟨_, _, rfl⟩
      obtain ⟨x1, x2, hx⟩ : ∃ x1 x2, fAt cs x = (x1, x2) := ⟨_, _, rfl⟩
      rw [hy] at hvv hfy cy0 cy1
      rw [hx] at hvv hfx cx0 cx1
      have HLV := Lib.hid hvv
      clear ey ex hy hx hvv
      have u0 : ∀ u : Beh wr, u.w.cell? ⟨fb, fo + y * 2, none⟩ = _ := Beh.cell cy0 hfb
      have u1 : ∀ u : Beh wr, u.w.cell? ⟨fb, fo + y * 2 + 1, none⟩ = _ := Beh.cell cy1 hfb
      have u2 : ∀ u : Beh wr, u.w.cell? ⟨fb, fo + x * 2, none⟩ = _ := Beh.cell cx0 hfb
      have u3 : ∀ u : Beh wr, u.w.cell? ⟨fb, fo + x * 2 + 1, none⟩ = _ := Beh.cell cx1 hfb
      have hyi : (y : Int) < (n : Int) := by omega
      have hxi : (x : Int) < (n : Int) := by omega
      clear cy0 cy1 cx0 cx1 hfb' hzz hp' hkl
      go_wp2_with fail
      refine wp_region_below (by kernel_rfl) (by kernel_rfl) ?_
      repeat (go_big_quiet_step (first | (go_at_call 53; exact Calls.beh (less_as y1 y2 x1 x2 v _ hfy hfx HLV.out))))
      refine wpQuiet_nil ?_
      rintro w8 ⟨⟨_, hb8'⟩, he⟩
      have hb8 : Below wr.heap.size wr w8 := by rw [he]; exact hb8'
      have hBw := hB.trans (hb8.mono hB.size)
      clear u0 u1 u2 u3 hb8 hb8' he
      cases v
      · go_wp2
        go_roundw
        case rel => exact ⟨k + 1, (x : Int), by omega, by go_num, rfl, by omega, HNX.out, hBw⟩
        case measure => simp [intOf]; omega
      · go_wp2
        go_roundw
        case rel => exact ⟨k + 1, (y : Int), by omega, by go_num, rfl, by omega, HNX.out, hBw⟩
        case measure => simp [intOf]; omega
    · obtain rfl : k = L := by omega
      have HX : Hid (b = r) := by
        have := hp'.out
        rw [← HL.out, List.take_length, HR.out] at this
        exact this.symm
      go_wp2
      go_ret
      exact ⟨ret_int (by rw [HX.out]), hB⟩

end Go.Proofs.Ytafnmongglhlaaa

namespace Go.Proofs.Ytafnmongglhlaaa
open Go.RowKit

attribute [local go_sem] Oper.semAt_some

/-- The first i weights behind a seat. -/
def tfWghs (ps : List Pl) (ws : List Fr) (gs : List Bool) (who : Int) (c : Fr) (q : Int) (i : Nat) : List Fr := (List.range i).map (tfWgh ps ws gs who c q)
theorem tfWghs_snoc (ps : List Pl) (ws : List Fr) (gs : List Bool) (who : Int) (c : Fr) (q : Int) (i : Nat) : tfWghs ps ws gs who c q (i + 1) = tfWghs ps ws gs who c q i ++ [tfWgh ps ws gs who c q i] := by simp [tfWghs, List.range_succ]
/-- What is multiplied stays in range. -/
theorem cut_range {D : Int} {w c : Fr} {q : Int} (hw : TfOkW D w) (hD : 1 ≤ D ∧ D ≤ 60) (hc1 : 1 ≤ c.1 ∧ c.1 ≤ 3600) (hq : 0 ≤ c.1 - q * c.2) (hq2 : 0 ≤ q * c.2) : (0 ≤ w.1 * (c.1 - q * c.2) ∧ w.1 * (c.1 - q * c.2) ≤ 216000) ∧ (1 ≤ w.2 * c.1 ∧ w.2 * c.1 ≤ 216000) := by
  obtain ⟨h1, h2⟩ := okw_bound hw hD
  have a1 : 0 ≤ w.1 * (c.1 - q * c.2) := Int.mul_nonneg h1.1 hq
  have a2 : w.1 * (c.1 - q * c.2) ≤ 60 * 3600 := Int.le_trans (Int.mul_le_mul_of_nonneg_right h1.2 hq) (Int.mul_le_mul_of_nonneg_left (by omega) (by omega))
  have b1 : 1 * 1 ≤ w.2 * c.1 := Int.le_trans (Int.mul_le_mul_of_nonneg_right h2.1 (by omega)) (Int.mul_le_mul_of_nonneg_left hc1.1 (by omega))
  have b2 : w.2 * c.1 ≤ 60 * 3600 := Int.le_trans (Int.mul_le_mul_of_nonneg_right h2.2 (by omega)) (Int.mul_le_mul_of_nonneg_left hc1.2 (by omega))
  exact ⟨⟨a1, by omega⟩, by omega, by omega⟩

set_option maxRecDepth 100000 in
set_option maxHeartbeats 8000000 in
/-- **spec.l15Weigh**. -/
theorem weigh15_as (a : Option Addr) (len cap : Nat) (ps : List Pl) (aw : Option Addr) (cw : Nat) (ws : List Fr) (ag : Option Addr) (n cg : Nat) (gs : List Bool) (who c1 c2 q : Int) (r : List Fr) (D : Int) (w : World)
    (h : IsPiles w a len cap ps) (hw : IsFr w aw len cw ws) (hg : IsBools w ag n cg gs) (hf : fitsB ps (n : Int) = true) (hD : 1 ≤ D ∧ D ≤ 60) (hok : ∀ i, i < len → TfOkW D (tfW ws i))
    (hc1 : 1 ≤ c1 ∧ c1 ≤ 3600) (hc2 : 1 ≤ c2 ∧ c2 ≤ 60) (hq : 0 ≤ c1 - q * c2) (hq2 : 1 ≤ q ∧ q ≤ 61) (hr : tfWghs ps ws gs who (c1, c2) q len = r) :
    Calls Try.prog 85 #[.slice a len cap, .slice aw len cw, .slice ag n cg, .int .i64 who, .agg #[.int .i64 c1, .int .i64 c2], .int .i64 q] w fun e w' => ∃ ar cr, e = .returned (.slice ar len cr) ∧ w'.ownsRow w.heap.size 40 2 (.slice ar len cr) len (cellsF r) ∧ Below w.heap.size w w' := by
  obtain ⟨i0, hi, hz0, hz1, hz2⟩ := info_parts frac_info
  obtain ⟨G, hG⟩ : ∃ G, w.heap.size = G := ⟨_, rfl⟩
  obtain ⟨hp, hn1, hn5, hval⟩ := fits_parts hf
  have HV := Lib.hid hval
  have HP := Lib.hid hp
  have HI := Lib.hid h
  have HW := Lib.hid hw
  have HG := Lib.hid hg
  have H1 := Lib.hid h.1
  have HOK := Lib.hid hok
  have HR := Lib.hid hr
  have hlm := h.2.2.1
  clear h hw hg hf hok hr hp hval
  have hqc : 0 ≤ q * c2 ∧ q * c2 ≤ 61 * 60 := ⟨Int.mul_nonneg (by omega) (by omega), Int.le_trans (Int.mul_le_mul_of_nonneg_right hq2.2 (by omega)) (Int.mul_le_mul_of_nonneg_left hc2.2 (by omega))⟩
  have hwq : IntKind.i64.wrap (q * c2) = q * c2 := IntWalk.i64_in _ (by omega)
  obtain ⟨ov, hov⟩ : ∃ ov, c1 - q * c2 = ov := ⟨_, rfl⟩
  have hwo : IntKind.i64.wrap ov = ov := IntWalk.i64_in _ (by omega)
  have T0 := Two.new w c1 c2 40
  obtain ⟨ly, y0, y9, -, -⟩ := T0
  have K0 : Hid (Two (w.alloc (.cells #[.int .i64 c1, .int .i64 c2] 40)) G c1 c2) := Two.at (Two.new w c1 c2 _) hG
  have O0 : Hid (((w.alloc (.cells #[.int .i64 c1, .int .i64 c2] 40)).alloc (.cells #[] 40)).ownsRow (G + 1) 40 2 (.slice (some ⟨(w.alloc (.cells #[.int .i64 c1, .int .i64 c2] 40)).heap.size, 0, none⟩) 0 0) 0 (cellsF (tfWghs ps ws gs who (c1, c2) q 0))) := World.ownsRow_lit (base := G + 1) (e := 40) (size := 2) _ #[] 0 (by simp; omega) (by unfold maxLen; omega) rfl
  have K1 : Hid (Two ((w.alloc (.cells #[.int .i64 c1, .int .i64 c2] 40)).alloc (.cells #[] 40)) G c1 c2) := K0.out.alloc _
  have B1 : Below G w ((w.alloc (.cells #[.int .i64 c1, .int .i64 c2] 40)).alloc (.cells #[] 40)) := ((Below.refl _ w).alloc (by omega) _).alloc (by simp; omega) _
  rw [World.size_alloc, hG] at O0
  clear K0
  go_enter Try.func85, Try.ntmps85
  go_wp2
  go_loopw [13, 15, 16, 17, 18] (fun ov' iv _ _ _ wr => ∃ (i : Nat) (ar : Option Addr) (cr : Nat), i ≤ len ∧ iv = .int .i64 (i : Int) ∧ ov' = .slice ar i cr ∧ Hid (wr.ownsRow (G + 1) 40 2 (.slice ar i cr) i (cellsF (tfWghs ps ws gs who (c1, c2) q i))) ∧ Hid (Two wr G c1 c2) ∧ Below G w wr) (fun _ iv _ _ _ _ => len - (intOf iv).toNat)
  case atStart => exact ⟨0, _, _, Nat.zero_le _, rfl, rfl, O0, K1, B1⟩
  case round =>
    clear O0 K1 B1 ly y0 y9
    obtain ⟨i, ar, cr, hil, rfl, rfl, hO, hK, hB⟩ := hrel
    have hBs : G ≤ wr.heap.size := by have := hB.size; omega
    have hBw : Below w.heap.size w wr := hG.symm ▸ hB
    by_cases hlt : i < len
    · obtain ⟨b, off, rfl, hb, c0, -⟩ := (HI.out.below hBw).at_text hlt
      obtain ⟨t, ht⟩ : ∃ t, tAt ps i = t := ⟨_, rfl⟩
      obtain ⟨pl, hpl⟩ : ∃ pl, parseL t = pl := ⟨_, rfl⟩
      have hips : i < ps.length := by rw [H1.out]; exact hlt
      have hst : t.size ≤ 1048600 := by rw [← ht]; exact tf_small HP.out i
      have hvN : validB pl (n : Int) = true := by rw [← hpl, ← ht]; exact HV.out i hips
      have hl5 : pl.length ≤ 5 := by rw [← hpl]; exact parseL_short t
      have HOK5 : Hid (validB (nums t) 5 = true) := by
        have := (pilesB_pos HP.out).2.2.2.1 _ (pile_mem (ps := ps) (k := i) hips)
        unfold Hid; rw [← ht]; exact this
      have HFST : Hid (tfFst ps gs i = firstL pl gs) := by unfold Hid tfFst; rw [ht, hpl]
      have HZ : ∀ z ∈ pl, 0 ≤ z ∧ z < (n : Int) := (vB_mem hvN).2.2
      have hwi := HOK.out i hlt
      have hcr := cut_range (q := q) (c := (c1, c2)) hwi hD hc1 hq hqc.1
      obtain ⟨w1, w2, hwe⟩ : ∃ w1 w2, tfW ws i = (w1, w2) := ⟨_, _, rfl⟩
      obtain ⟨fb, fo, rfl, hfb, cw0, cw1⟩ := (HW.out.below hBw).at hlt
      have efw : fAt ws i = (w1, w2) := hwe
      rw [efw] at cw0 cw1
      rw [hwe] at hcr
      have hcr1 : 0 ≤ w1 * (c1 - q * c2) ∧ w1 * (c1 - q * c2) ≤ 216000 := hcr.1
      have hcr2 : 1 ≤ w2 * c1 ∧ w2 * c1 ≤ 216000 := hcr.2
      rw [hov] at hcr1
      rw [ht] at c0
      have HPL := Lib.hid hpl
      have HWE := Lib.hid hwe
      clear ht hpl hvN efw hwe hcr
      go_wp2_with fail
      refine (specParse_as t pl true _ hst HPL.out HOK5.out).mono ?_
      rintro e w4 ⟨a4, c4, rfl, ho4, hb4⟩
      have I4 := Lib.hid (IsInts.of_owned ho4 (by omega))
      have B4 : Below G w w4 := hB.trans (hb4.mono hBs)
      have O4 := Lib.hid (owns_under hO.out hb4)
      have K4 := Lib.hid (hK.out.below hb4)
      have d0 : w4.cell? ⟨fb, fo + i * 2, none⟩ = some (.int .i64 w1) := (hb4.cell (p := ⟨fb, fo + i * 2, none⟩) hfb).trans cw0
      have d1 : w4.cell? ⟨fb, fo + i * 2 + 1, none⟩ = some (.int .i64 w2) := (hb4.cell (p := ⟨fb, fo + i * 2 + 1, none⟩) hfb).trans cw1
      have hBs4 : G ≤ w4.heap.size := by have := B4.size; omega
      clear ho4 hb4 hO hB hBs hBw c0 hb hK cw0 cw1
      have B4w : Below w.heap.size w w4 := hG.symm ▸ B4
      have HGb := Lib.hid (HG.out.below B4w)
      have KN := Lib.hid (Two.new w4 w1 w2 40)
      have B5 : Below G w (w4.alloc (.cells #[.int .i64 w1, .int .i64 w2] 40)) := B4.alloc (by omega) _
      have hb5 : Below w4.heap.size w4 (w4.alloc (.cells #[.int .i64 w1, .int .i64 w2] 40)) := (Below.refl _ _).alloc (Nat.le_refl _) _
      have I5 := Lib.hid (I4.out.below hb5)
      have HG5 := Lib.hid (HGb.out.below hb5)
      have O5 := Lib.hid (owns_under O4.out hb5)
      have K5 := Lib.hid (K4.out.below hb5)
      obtain ⟨gN, hgN⟩ : ∃ gN, w4.heap.size = gN := ⟨_, rfl⟩
      have hrowN : ∀ j, (Value.slice ar i cr).ownBlock = some j → j < gN := fun j ej => by rw [← hgN]; exact (O4.out.lt j ej).2
      have hGgN : G < gN := by rw [← hgN]; exact K4.out.lt
      rw [hgN] at KN hBs4
      go_wp2_with fail
      refine (l1First_any _ _ _ pl _ _ _ gs _ I5.out HG5.out HZ).mono ?_
      rintro e w5 ⟨rfl, rfl⟩
      rw [← HFST.out]
      obtain ⟨z, hz⟩ : ∃ z, tfFst ps gs i = z := ⟨_, rfl⟩
      rw [hz]
      clear I4 O4 K4 HGb d0 d1 B4 B4w hb5 I5 HG5 HPL HOK5 HFST
      generalize w4.alloc (.cells #[.int .i64 w1, .int .i64 w2] 40) = w6 at *
      clear hgN
      obtain ⟨ln, n0, n9, nf0, nf1⟩ := KN.out
      obtain ⟨lk, k0, k9, -, -⟩ := K5.out
      have hgN6 : G ≤ w6.heap.size := by omega
      cases hzw : (z == who)
      · have HNX : Hid (tfWghs ps ws gs who (c1, c2) q (i + 1) = tfWghs ps ws gs who (c1, c2) q i ++ [(w1, w2)]) := by
          unfold Hid; rw [tfWghs_snoc]; unfold tfWgh
          rw [hz, if_neg (by intro e; rw [e] at hzw; simp at hzw), HWE.out]
        clear hz
        go_wp2_with (at_builtin; refine wpList_append_own _ rfl _ _ 33 rfl (G + 1) 40 i0 (.agg #[.int .i64 0, .int .i64 0]) 2 16 Try.underlying33 hi hz0 hz1 hz2 rfl Nat.two_pos _ _ _ rfl (O5.out.alloc _) ⟨w6.heap.size, 0, none⟩ 1 1 [.int .i64 w1, .int .i64 w2] rfl rfl (lits_new _ _ _) (by simp [Value.oneCell']) (by unfold maxLen; omega) (by omega) (by simp; omega) ?_; intro v' w7 hown' hgrow _; obtain ⟨a7, c7, rfl⟩ := owns_slice hown')
        have hrow : ∀ j, (Value.slice ar i cr).ownBlock = some j → G + 1 ≤ j := fun j ej => (O5.out.lt j ej).1
        have B7 : Below G w w7 := (B5.alloc (by omega) (.cells #[.int .i64 w1, .int .i64 w2] 40)).grown hgrow (by simp; omega) (fun j e => by have := hrow j e; omega)
        have K7 : Hid (Two w7 G c1 c2) := by
          have h1 := K5.out.alloc (.cells #[.int .i64 w1, .int .i64 w2] 40)
          exact h1.keep (B := G + 1) ((Below.refl _ _).grown hgrow (by simp; omega) (fun j e => hrow j e)) (by omega)
        have O7 : Hid (w7.ownsRow (G + 1) 40 2 (.slice a7 (i + 1) c7) (i + 1) (cellsF (tfWghs ps ws gs who (c1, c2) q (i + 1)))) := by
          unfold Hid; rw [HNX.out, cellsF_app]; exact hown'
        clear hown' hgrow hrow
        go_wp2
        go_roundw
        case rel => exact ⟨i + 1, a7, c7, by omega, by go_num, rfl, O7, K7, B7⟩
        case measure => simp [intOf]; omega
      · obtain ⟨r1, r2, hre⟩ : ∃ r1 r2, ofF (w1 * ov) (w2 * c1) = (r1, r2) := ⟨_, _, rfl⟩
        have HNX : Hid (tfWghs ps ws gs who (c1, c2) q (i + 1) = tfWghs ps ws gs who (c1, c2) q i ++ [(r1, r2)]) := by
          unfold Hid; rw [tfWghs_snoc]; unfold tfWgh
          rw [hz, if_pos (by simpa using hzw), HWE.out]
          unfold tfCut
          rw [← hre, ← hov]
        have HRE := Lib.hid hre
        have hwm1 : IntKind.i64.wrap (w1 * ov) = w1 * ov := IntWalk.i64_in _ (by omega)
        have hwm2 : IntKind.i64.wrap (w2 * c1) = w2 * c1 := IntWalk.i64_in _ (by omega)
        clear hz hre
        go_wp2_with fail
        refine (l5Of_as (w1 * ov) (w2 * c1) r1 r2 _ (by omega) (by omega) HRE.out).mono ?_
        rintro e w8 ⟨rfl, hb8⟩
        have K8 := Lib.hid (K5.out.below hb8)
        have KN8 := Lib.hid (KN.out.below hb8)
        have O8 := Lib.hid (owns_under O5.out hb8)
        have B8 : Below G w w8 := B5.trans (hb8.mono hgN6)
        clear ln n0 n9 nf0 nf1 lk k0 k9 K5 KN O5 B5 hb8
        obtain ⟨ln, n0, n9, nf0, nf1⟩ := KN8.out
        obtain ⟨lk, k0, k9, -, -⟩ := K8.out
        have y0 := Two.set0 KN8.out (.int .i64 r1)
        have y1 : (w8.setCell ⟨gN, 0, none⟩ (.int .i64 r1)).cell? ⟨gN, 1, none⟩ = some (.int .i64 w2) := by
          rw [World.cell?_setCell_other _ _ _ _ (by intro e; injection e with _ e2; exact absurd e2 (by decide))]; exact n9
        have y2 := Two.set1 KN8.out (.int .i64 r1) (.int .i64 r2)
        have y3 : ((w8.setCell ⟨gN, 0, none⟩ (.int .i64 r1)).setCell ⟨gN, 1, none⟩ (.int .i64 r2)).cell? ⟨gN, 0, none⟩ = some (.int .i64 r1) := by
          rw [World.cell?_setCell_other _ _ _ _ (by intro e; injection e with _ e2; exact absurd e2 (by decide))]; exact y0
        have y4 : (w8.setCell ⟨gN, 0, none⟩ (.int .i64 r1)).frozen? ⟨gN, 1, none⟩ = false := by rw [World.frozen?_setCell]; exact nf1
        have hg9 : w8.grownBy ((w8.setCell ⟨gN, 0, none⟩ (.int .i64 r1)).setCell ⟨gN, 1, none⟩ (.int .i64 r2)) (some gN) :=
          ⟨rfl, rfl, rfl, by simp [World.setCell], fun j hj hne => by
            have hjn : j ≠ gN := fun e => hne (by rw [e])
            exact (Below.heap_setCell _ _ _ _ hjn).trans (Below.heap_setCell _ _ _ _ hjn)⟩
        have O9 : Hid (((w8.setCell ⟨gN, 0, none⟩ (.int .i64 r1)).setCell ⟨gN, 1, none⟩ (.int .i64 r2)).ownsRow (G + 1) 40 2 (.slice ar i cr) i (cellsF (tfWghs ps ws gs who (c1, c2) q i))) := by
          refine O8.out.kept hg9 ?_
          cases hbk : (Value.slice ar i cr).ownBlock with
          | none => exact .inl rfl
          | some j => right; intro e; injection e with e; have := hrowN j hbk; omega
        have K9 : Hid (Two ((w8.setCell ⟨gN, 0, none⟩ (.int .i64 r1)).setCell ⟨gN, 1, none⟩ (.int .i64 r2)) G c1 c2) := by
          have hne : G ≠ gN := by omega
          have e : ((w8.setCell ⟨gN, 0, none⟩ (.int .i64 r1)).setCell ⟨gN, 1, none⟩ (.int .i64 r2)).heap[G]? = w8.heap[G]? := hg9.block G lk (fun e => by injection e with e; exact hne e)
          exact ⟨by simpa [World.setCell] using lk, (World.cell?_of_block (a := ⟨G, 0, none⟩) e).trans k0, (World.cell?_of_block (a := ⟨G, 1, none⟩) e).trans k9, (World.frozen?_of_block (a := ⟨G, 0, none⟩) e).trans K8.out.f0, (World.frozen?_of_block (a := ⟨G, 1, none⟩) e).trans K8.out.f1⟩
        have B9 : Below G w ((w8.setCell ⟨gN, 0, none⟩ (.int .i64 r1)).setCell ⟨gN, 1, none⟩ (.int .i64 r2)) := (B8.setCell (p := ⟨gN, 0, none⟩) (by show G ≤ gN; omega) _).setCell (p := ⟨gN, 1, none⟩) (by show G ≤ gN; omega) _
        have hBs9 : G + 1 ≤ w8.heap.size := by omega
        have hs9 : ((w8.setCell ⟨gN, 0, none⟩ (.int .i64 r1)).setCell ⟨gN, 1, none⟩ (.int .i64 r2)).heap.size = w8.heap.size := by simp [World.setCell]
        have hnew9 := lits_new ((w8.setCell ⟨gN, 0, none⟩ (.int .i64 r1)).setCell ⟨gN, 1, none⟩ (.int .i64 r2)) [.int .i64 r1, .int .i64 r2] 40
        rw [hs9] at hnew9
        have HN9 := Lib.hid hnew9
        clear hnew9
        clear hg9 O8 K8 KN8 B8 hrowN lk k0 k9
        go_wp2_with (at_builtin; refine wpList_append_own _ rfl _ _ 33 rfl (G + 1) 40 i0 (.agg #[.int .i64 0, .int .i64 0]) 2 16 Try.underlying33 hi hz0 hz1 hz2 rfl Nat.two_pos _ _ _ rfl (O9.out.alloc _) ⟨w8.heap.size, 0, none⟩ 1 1 [.int .i64 r1, .int .i64 r2] rfl rfl HN9.out (by simp [Value.oneCell']) (by unfold maxLen; omega) (by omega) (by simp [World.setCell]; omega) ?_; intro v' w7 hown' hgrow _; obtain ⟨a7, c7, rfl⟩ := owns_slice hown')
        have hrow : ∀ j, (Value.slice ar i cr).ownBlock = some j → G + 1 ≤ j := fun j ej => (O9.out.lt j ej).1
        have B7 : Below G w w7 := (B9.alloc (by simp [World.setCell]; omega) (.cells #[.int .i64 r1, .int .i64 r2] 40)).grown hgrow (by simp [World.setCell]; omega) (fun j e => by have := hrow j e; omega)
        have K7 : Hid (Two w7 G c1 c2) := by
          have h1 := K9.out.alloc (.cells #[.int .i64 r1, .int .i64 r2] 40)
          exact h1.keep (B := G + 1) ((Below.refl _ _).grown hgrow (by simp [World.setCell]; omega) (fun j e => hrow j e)) (by omega)
        have O7 : Hid (w7.ownsRow (G + 1) 40 2 (.slice a7 (i + 1) c7) (i + 1) (cellsF (tfWghs ps ws gs who (c1, c2) q (i + 1)))) := by
          unfold Hid; rw [HNX.out, cellsF_app]; exact hown'
        clear hown' hgrow hrow
        go_wp2
        go_roundw
        case rel => exact ⟨i + 1, a7, c7, by omega, by go_num, rfl, O7, K7, B7⟩
        case measure => simp [intOf]; omega
    · obtain rfl : i = len := by omega
      have hO2 := hO.out
      have e : tfWghs ps ws gs who (c1, c2) q i = r := HR.out
      rw [e] at hO2
      go_wp2
      go_ret
      exact ⟨ar, cr, rfl, World.ownsRow.mono hO2 (by omega), hBw⟩

end Go.Proofs.Ytafnmongglhlaaa

namespace Go.Proofs.Ytafnmongglhlaaa
open Go.RowKit

def quoB (t s : Int) : Bool := inB t 0 60 && inB s 1 2
def quoR (t s : Int) : Int := if quoB t s = true then t / (s + 1) + 1 else -1
theorem quoB_iff (t s : Int) : quoB t s = true ↔ (0 ≤ t ∧ t ≤ 60) ∧ 1 ≤ s ∧ s ≤ 2 := by simp [quoB, inB]
theorem quoR_yes {t s : Int} (h : quoB t s = true) : quoR t s = t / (s + 1) + 1 := by rw [quoR, if_pos h]
theorem quoR_no {t s : Int} (h : quoB t s = false) : quoR t s = -1 := by rw [quoR, h]; rfl
theorem quoR_range {t s : Int} (h : quoB t s = true) : 1 ≤ quoR t s ∧ quoR t s ≤ 31 := by
  rw [quoR_yes h]
  have := (quoB_iff t s).1 h
  have hs : s = 1 ∨ s = 2 := by omega
  rcases hs with rfl | rfl <;> omega
theorem quoR_neg {t s : Int} : quoR t s < 0 ↔ quoB t s = false := by
  cases h : quoB t s
  · rw [quoR_no h]; simp
  · have := quoR_range h
    constructor
    · intro h2; omega
    · intro h2; cases h2

set_option maxRecDepth 100000 in
set_option maxHeartbeats 2000000 in
/-- **impl.TransferQuota**. -/
theorem implQuota_as (t s r : Int) (w : World) (hr : quoR t s = r) :
    Calls Try.prog 19 #[.int .i64 t, .int .i64 s] w fun e w' => e = .returned (.int .i64 r) ∧ w = w' := by
  subst hr
  by_cases h1 : t < 0
  · have HQ : Hid (quoR t s = -1) := quoR_no (by simp [quoB, inB]; omega)
    have d1 : decide (t < 0) = true := decide_eq_true h1
    go_enter Try.func19, Try.ntmps19
    go_wp2
    go_ret
    exact ⟨ret_int HQ.out.symm, rfl⟩
  · have d1 : decide (t < 0) = false := decide_eq_false h1
    by_cases h2 : 60 < t
    · have HQ : Hid (quoR t s = -1) := quoR_no (by simp [quoB, inB]; omega)
      have d2 : decide (60 < t) = true := decide_eq_true h2
      go_enter Try.func19, Try.ntmps19
      go_wp2
      go_ret
      exact ⟨ret_int HQ.out.symm, rfl⟩
    · have d2 : decide (60 < t) = false := decide_eq_false h2
      by_cases h3 : s < 1
      · have HQ : Hid (quoR t s = -1) := quoR_no (by simp [quoB, inB]; omega)
        have d3 : decide (s < 1) = true := decide_eq_true h3
        go_enter Try.func19, Try.ntmps19
        go_wp2
        go_ret
        exact ⟨ret_int HQ.out.symm, rfl⟩
      · have d3 : decide (s < 1) = false := decide_eq_false h3
        by_cases h4 : 2 < s
        · have HQ : Hid (quoR t s = -1) := quoR_no (by simp [quoB, inB]; omega)
          have d4 : decide (2 < s) = true := decide_eq_true h4
          go_enter Try.func19, Try.ntmps19
          go_wp2
          go_ret
          exact ⟨ret_int HQ.out.symm, rfl⟩
        · have d4 : decide (2 < s) = false := decide_eq_false h4
          have hb : quoB t s = true := (quoB_iff t s).2 (by omega)
          have HQ : Hid (quoR t s = t / (s + 1) + 1) := quoR_yes hb
          have hz : (s + 1 == 0) = false := beq_eq_false_iff_ne.2 (by omega)
          have hd : t.tdiv (s + 1) = t / (s + 1) := Int.tdiv_eq_ediv_of_nonneg (by omega)
          have hd2 : 0 ≤ t / (s + 1) ∧ t / (s + 1) ≤ 60 := by
            have hs : s = 1 ∨ s = 2 := by omega
            rcases hs with rfl | rfl <;> omega
          clear hb
          obtain ⟨d, hde⟩ : ∃ d, t / (s + 1) = d := ⟨_, rfl⟩
          rw [hde] at hd hd2 HQ
          have hwd : IntKind.i64.wrap d = d := IntWalk.i64_in _ (by omega)
          go_enter Try.func19, Try.ntmps19
          go_wp2
          go_ret
          exact ⟨ret_int HQ.out.symm, rfl⟩

end Go.Proofs.Ytafnmongglhlaaa
