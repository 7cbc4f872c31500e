/-
  The exact statements' own functions over piles: sizes, copies, comparison.
  A slice of the exact statements' own piles that came in.
  The exact statements' own functions over piles: marks.
-/
import Derived.Test.YtafnmongglhlaaaGrpB
import Derived.Test.YtafnmongglhlaaaGrp4
import Derived.Deep.SlicePairs
import Derived.Laws.BytesArg
import Derived.Laws.Concat
namespace Go.Proofs.Ytafnmongglhlaaa
open Go.RowKit

set_option maxHeartbeats 1000000 in
/-- **szPile**. -/
theorem szPile_any (t : ByteArray) (m L : Int) (w : World) (ht : t.size ≤ maxLen) (hL : 0 ≤ L ∧ L ≤ 1048576) :
    Calls Try.prog 62 #[.agg #[.string t, .int .i64 m], .int .i64 L] w fun e w' => ∃ v : Int, e = .returned (.int .i64 v) ∧ (0 ≤ v → v ≤ L ∧ t.size ≤ 1048576) ∧ v ≤ L ∧ -1 ≤ v ∧ Below w.heap.size w w' := by
  have hsz : (t.size : Int) ≤ 9223372036854775807 := by unfold maxLen at ht; omega
  have hw : IntKind.i64.wrap (L - (t.size : Int)) = L - (t.size : Int) := IntWalk.i64_in _ (by omega)
  have hB : Below w.heap.size w (w.alloc (.cells #[.string t, .int .i64 m] 89)) := (Below.refl _ w).alloc (Nat.le_refl _) _
  by_cases hneg : L - (t.size : Int) < 0
  · have hd : decide (L - (t.size : Int) < 0) = true := decide_eq_true hneg
    go_enter Try.func62, Try.ntmps62
    go_wp2
    go_ret
    exact ⟨-1, rfl, fun h => by omega, by omega, by omega, hB⟩
  · have hd : decide (L - (t.size : Int) < 0) = false := decide_eq_false hneg
    go_enter Try.func62, Try.ntmps62
    go_wp2
    go_ret
    exact ⟨_, rfl, fun h => ⟨by omega, by omega⟩, by omega, by omega, hB⟩

/-- Every text is a text of a machine. -/
def Held (ps : List Pl) : Prop := ∀ i, (tAt ps i).size ≤ maxLen

set_option maxRecDepth 100000 in
set_option maxHeartbeats 2000000 in
/-- **szPileS**: not negative only where every text is of at most 1048576 bytes. -/
theorem szPileS_any (a : Option Addr) (len cap : Nat) (ps : List Pl) (L : Int) (w : World) (h : IsPiles w a len cap ps) (hh : Held ps) (hL : 0 ≤ L ∧ L ≤ 1048576) :
    Calls Try.prog 31 #[.slice a len cap, .int .i64 L] w fun e w' => ∃ v : Int, e = .returned (.int .i64 v) ∧ (0 ≤ v → v ≤ 1048576 ∧ Small ps) ∧ -1 ≤ v ∧ Below w.heap.size w w' := by
  have HI := Lib.hid h
  have HH := Lib.hid hh
  have H1 := Lib.hid h.1
  have hm := h.2.2.1
  obtain ⟨G, hG⟩ : ∃ G, w.heap.size = G := ⟨_, rfl⟩
  clear h hh
  have hw : IntKind.i64.wrap (L - (len : Int)) = L - (len : Int) := IntWalk.i64_in _ (by omega)
  by_cases hneg : L - (len : Int) < 0
  · have hd : decide (L - (len : Int) < 0) = true := decide_eq_true hneg
    go_enter Try.func31, Try.ntmps31
    go_wp2
    go_ret
    exact ⟨-1, rfl, fun h => by omega, by omega, Below.refl _ _⟩
  · have hd : decide (L - (len : Int) < 0) = false := decide_eq_false hneg
    go_enter Try.func31, Try.ntmps31
    go_wp2
    go_loopw [1, 5] (fun l i wr => ∃ (k : Nat) (x : Int), k ≤ len ∧ i = .int .i64 k ∧ l = .int .i64 x ∧ 0 ≤ x ∧ x ≤ 1048576 ∧ Hid (∀ j, j < k → (tAt ps j).size ≤ 1048576) ∧ Below G w wr) (fun _ i _ => len - (intOf i).toNat)
    case atStart => exact ⟨0, _, Nat.zero_le _, rfl, rfl, by omega, by omega, fun j hj => by omega, Below.refl _ _⟩
    case round =>
      obtain ⟨k, x, hk, rfl, rfl, hx0, hx1, hA, hB⟩ := hrel
      have hBw : Below w.heap.size w wr := hG.symm ▸ hB
      by_cases hlt : k < len
      · obtain ⟨b, off, rfl, hb, c0, c1⟩ := (HI.out.below hBw).piles hlt
        obtain ⟨t, ht⟩ : ∃ t, tAt ps k = t := ⟨_, rfl⟩
        obtain ⟨m, hmm⟩ : ∃ m, mAt ps k = m := ⟨_, rfl⟩
        have hts : t.size ≤ maxLen := by rw [← ht]; exact HH.out k
        rw [ht] at c0
        rw [hmm] at c1
        have HT := Lib.hid ht
        clear ht hmm
        go_wp2_with fail
        refine (szPile_any t m x _ hts ⟨hx0, hx1⟩).mono ?_
        rintro e w1 ⟨v, rfl, hv, hvL, hv1, hb1⟩
        have B1 : Below G w w1 := hB.trans (hb1.mono (by have := hBw.size; omega))
        by_cases hvn : v < 0
        · have hd2 : decide (v < 0) = true := decide_eq_true hvn
          go_wp2
          go_ret
          exact ⟨-1, rfl, fun h => by omega, by omega, hG.symm ▸ B1⟩
        · have hd2 : decide (v < 0) = false := decide_eq_false hvn
          have hv2 := hv (by omega)
          have HA2 : Hid (∀ j, j < k + 1 → (tAt ps j).size ≤ 1048576) := fun j hj => by
            rcases Nat.lt_or_ge j k with g | g
            · exact hA.out j g
            · have : j = k := by omega
              subst this; rw [HT.out]; exact hv2.2
          clear hv
          go_wp2
          go_roundw
          case rel => exact ⟨k + 1, v, by omega, by go_num, rfl, by omega, by omega, HA2, B1⟩
          case measure => simp [intOf]; omega
      · obtain rfl : k = len := by omega
        go_wp2
        go_ret
        refine ⟨x, rfl, fun _ => ⟨hx1, fun i => ?_⟩, by omega, hBw⟩
        rcases Nat.lt_or_ge i k with g | g
        · have := hA.out i g; omega
        · unfold tAt
          rw [List.getElem?_eq_none (by rw [H1.out]; exact g)]
          simp

set_option maxHeartbeats 1000000 in
/-- **toPile**. -/
theorem toPile_any (t : ByteArray) (m : Int) (w : World) :
    Calls Try.prog 64 #[.agg #[.string t, .int .i64 m]] w fun e w' => e = .returned (.agg #[.string t, .int .i64 m]) ∧ Below w.heap.size w w' := by
  go_enter Try.func64, Try.ntmps64
  go_wp2
  refine bodyPost_ret (results_cell_row rfl _ _ (w.heap.size + 1) 49 #[.string t, .int .i64 m] (0, 0) _ rfl ?_ Try.underlying49 rfl (by kernel_rfl)) rfl ?_
  · rw [heap_alloc_old _ _ (by simp), heap_alloc2_new]
  · exact ⟨rfl, (((Below.refl _ w).alloc (Nat.le_refl _) _).alloc (by simp) _).alloc (by simp; omega) _⟩

/-- The first k piles, then empty ones. -/
def fillP (ps : List Pl) (len k : Nat) : List Pl := ps.take k ++ List.replicate (len - k) (ByteArray.empty, 0)
theorem fillP_length {ps : List Pl} {len k : Nat} (h : ps.length = len) (hk : k ≤ len) : (fillP ps len k).length = len := by simp [fillP]; omega
theorem fillP_all {ps : List Pl} {len : Nat} (h : ps.length = len) : fillP ps len len = ps := by simp [fillP, ← h]
theorem fillP_step {ps : List Pl} {len k : Nat} (h : ps.length = len) (hk : k < len) : (fillP ps len k).set k (tAt ps k, mAt ps k) = fillP ps len (k + 1) := by
  have e : len - k = (len - (k + 1)) + 1 := by omega
  unfold fillP
  rw [e, List.replicate_succ, take_one (by omega)]
  have hl : (ps.take k).length = k := by simp; omega
  rw [List.set_append_right _ _ (by omega), hl, Nat.sub_self, List.set_cons_zero]
  simp
theorem cells_set2 {ps : List Pl} {k : Nat} {t : ByteArray} {m : Int} (h : k < ps.length) : ((cellsP ps).set (k * 2) (.string t)).set (k * 2 + 1) (.int .i64 m) = cellsP (ps.set k (t, m)) := by
  rw [cellsP_setT ps k t h, cellsP_set _ k m (by simpa using h)]
  congr 1
  rw [List.set_set]
  simp [tAt, h]
theorem cells_made (len : Nat) : (madeCells (Value.agg #[.string ⟨#[]⟩, .int .i64 0]).cells (len * 2)).toList = cellsP (List.replicate len (ByteArray.empty, 0)) := by
  apply List.ext_getElem?
  intro j
  by_cases hj : j < len * 2
  · have h2 : (madeCells (Value.agg #[.string ⟨#[]⟩, .int .i64 0]).cells (len * 2)).toList[j]? = some (#[Value.string ⟨#[]⟩, .int .i64 0][j % 2]!) := by
      rw [Array.getElem?_toList]
      simp [madeCells, hj, Value.cells]
    rw [h2]
    have hi : j / 2 < (List.replicate len ((ByteArray.empty, 0) : Pl)).length := by simp; omega
    rcases Nat.mod_two_eq_zero_or_one j with h | h
    · have := cellsP_text (List.replicate len (ByteArray.empty, 0)) (j / 2) hi
      rw [show j / 2 * 2 = j by omega] at this
      rw [this, h]
      simp at hi
      simp [tAt, hi]
      rfl
    · have := cellsP_many (List.replicate len (ByteArray.empty, 0)) (j / 2) hi
      rw [show j / 2 * 2 + 1 = j by omega] at this
      rw [this, h]
      simp at hi
      simp [mAt, hi]
  · rw [List.getElem?_eq_none (by simp [size_madeCells]; omega), List.getElem?_eq_none (by rw [cellsP_length]; simp; omega)]

set_option maxRecDepth 100000 in
set_option maxHeartbeats 4000000 in
/-- **toPileS**: a new slice with the same piles. -/
theorem toPileS_any (a : Option Addr) (len cap : Nat) (ps : List Pl) (w : World) (h : IsPiles w a len cap ps) :
    Calls Try.prog 33 #[.slice a len cap] w fun e w' => ∃ g, e = .returned (.slice (some ⟨g, 0, none⟩) len len) ∧ w'.ownsRow w.heap.size 49 2 (.slice (some ⟨g, 0, none⟩) len len) len (cellsP ps) ∧ Below w.heap.size w w' := by
  obtain ⟨i0, hi, hz0, hz1, hz2⟩ := info_parts pile_info
  have HI := Lib.hid h
  have H1 := Lib.hid h.1
  have hm : len ≤ 1048600 := h.2.2.1
  obtain ⟨G, hG⟩ : ∃ G, w.heap.size = G := ⟨_, rfl⟩
  clear h
  go_enter Try.func33, Try.ntmps33
  go_wp2_with (at_make; refine wpList_make_full _ rfl _ _ 23 rfl w.heap.size 49 i0 (.agg #[.string ⟨#[]⟩, .int .i64 0]) 2 Try.underlying23 hi hz0 hz1 .i64 .i64 _ _ len rfl rfl rfl rfl (by rw [hz2]; omega) (by unfold maxLen; omega) (Nat.le_refl _) ?_; intro w1 hown hgrow)
  have hB1 : Below G w w1 := by rw [← hG]; exact (Below.refl _ w).grown hgrow (Nat.le_refl _) (fun k e => by cases e)
  have HO : Hid (w1.ownsRow G 49 2 (.slice (some ⟨G, 0, none⟩) len len) len (cellsP (fillP ps len 0))) := by
    unfold Hid
    have e : (madeCells (Value.agg #[.string ⟨#[]⟩, .int .i64 0]).cells (len * 2)).toList = cellsP (fillP ps len 0) := by rw [cells_made]; simp [fillP]
    rw [← e, ← hG]; exact hown
  clear hown hgrow hi hz0 hz1 hz2
  go_wp2
  go_loopw [4] (fun i wr => ∃ k : Nat, k ≤ len ∧ i = .int .i64 k ∧ Hid (wr.ownsRow G 49 2 (.slice (some ⟨G, 0, none⟩) len len) len (cellsP (fillP ps len k))) ∧ Below G w wr) (fun i _ => len - (intOf i).toNat)
  case atStart => exact ⟨0, Nat.zero_le _, rfl, HO, hB1⟩
  case round =>
    obtain ⟨k, hk, rfl, ho, hB⟩ := hrel
    have hBw : Below w.heap.size w wr := hG.symm ▸ hB
    have hGw : G ≤ wr.heap.size := by have := hBw.size; omega
    by_cases hlt : k < len
    · obtain ⟨b, off, rfl, hb, c0, c1⟩ := (HI.out.below hBw).piles hlt
      obtain ⟨t, ht⟩ : ∃ t, tAt ps k = t := ⟨_, rfl⟩
      obtain ⟨m, hmm⟩ : ∃ m, mAt ps k = m := ⟨_, rfl⟩
      have HST : Hid ((fillP ps len k).set k (t, m) = fillP ps len (k + 1)) := by rw [Hid, ← ht, ← hmm]; exact fillP_step H1.out hlt
      have hkf : k < (fillP ps len k).length := by rw [fillP_length H1.out hk]; exact hlt
      rw [ht] at c0
      rw [hmm] at c1
      clear ht hmm
      go_wp2_with fail
      refine (toPile_any t m _).mono ?_
      rintro e w1 ⟨rfl, hb1⟩
      have O1 := Lib.hid (owns_below ho.out hb1)
      have B1 := Lib.hid (hB.trans (hb1.mono hGw))
      have x0 : w1.cell? ⟨G, k * 2, none⟩ = some (.string (tAt (fillP ps len k) k)) := by rw [O1.out.cellAt (k * 2) (by omega)]; exact cellsP_text _ k hkf
      have x1 : w1.cell? ⟨G, k * 2 + 1, none⟩ = some (.int .i64 (mAt (fillP ps len k) k)) := by rw [O1.out.cellAt (k * 2 + 1) (by omega)]; exact cellsP_many _ k hkf
      have f0 : w1.frozen? ⟨G, k * 2, none⟩ = false := O1.out.frozenAt (k * 2)
      have f1 : w1.frozen? ⟨G, k * 2 + 1, none⟩ = false := O1.out.frozenAt (k * 2 + 1)
      have S1 := Lib.hid (O1.out.stored (k * 2) (.string t))
      have S2 := Lib.hid (S1.out.1.stored (k * 2 + 1) (.int .i64 m))
      have hGw1 : G ≤ w1.heap.size := by have := B1.out.size; omega
      have BB := Lib.hid ((B1.out.grown S1.out.2 hGw1 (fun i ei => by cases ei; exact Nat.le_refl _)).grown S2.out.2 (Nat.le_trans hGw1 S1.out.2.size) (fun i ei => by cases ei; exact Nat.le_refl _))
      clear hb1
      go_wp2
      go_roundw
      case rel => exact ⟨k + 1, by omega, by go_num, by rw [Hid, ← HST.out, ← cells_set2 hkf]; exact S2.out.1, BB.out⟩
      case measure => simp [intOf]; omega
    · obtain rfl : k = len := by omega
      rw [fillP_all H1.out] at ho
      go_wp2
      go_ret
      exact ⟨G, rfl, by rw [hG]; exact ho.out, hBw⟩

set_option maxHeartbeats 2000000 in
/-- **eqPile**. -/
theorem eqPile_any (t1 : ByteArray) (m1 : Int) (t2 : ByteArray) (m2 : Int) (v : Bool) (w : World) (hv : (decide (t1 = t2) && decide (m1 = m2)) = v) :
    Calls Try.prog 66 #[.agg #[.string t1, .int .i64 m1], .agg #[.string t2, .int .i64 m2]] w fun e w' => e = .returned (.bool v) ∧ Below w.heap.size w w' := by
  have hB : Below w.heap.size w ((w.alloc (.cells #[.string t1, .int .i64 m1] 49)).alloc (.cells #[.string t2, .int .i64 m2] 49)) := ((Below.refl _ w).alloc (Nat.le_refl _) _).alloc (by simp) _
  by_cases ht : t1 = t2
  · subst ht
    by_cases hm : m1 = m2
    · subst hm
      have HV : Hid (v = true) := by rw [Hid, ← hv]; simp
      have e1 : (t1.toList != t1.toList) = false := by simp
      have e2 : (m1 != m1) = false := by simp
      clear hv
      go_enter Try.func66, Try.ntmps66
      go_wp2
      go_ret
      exact ⟨ret_bool HV.out.symm, hB⟩
    · have HV : Hid (v = false) := by rw [Hid, ← hv]; simp [hm]
      have e1 : (t1.toList != t1.toList) = false := by simp
      have e2 : (m1 != m2) = true := by simp [hm]
      clear hv
      go_enter Try.func66, Try.ntmps66
      go_wp2
      go_ret
      exact ⟨ret_bool HV.out.symm, hB⟩
  · have HV : Hid (v = false) := by rw [Hid, ← hv]; simp [ht]
    have e0 : (t1.toList == t2.toList) = false := by rw [eq_text]; exact decide_eq_false ht
    have e1 : (t1.toList != t2.toList) = true := by rw [bne, e0]; rfl
    clear hv
    go_enter Try.func66, Try.ntmps66
    go_wp2
    go_ret
    exact ⟨ret_bool HV.out.symm, hB⟩

set_option maxRecDepth 100000 in
set_option maxHeartbeats 4000000 in
/-- **eqPileS**. -/
theorem eqPileS_as (a1 : Option Addr) (l1 c1 : Nat) (xs : List Pl) (a2 : Option Addr) (l2 c2 : Nat) (ys : List Pl) (v : Bool) (w : World) (h : IsPiles w a1 l1 c1 xs) (h' : IsPiles w a2 l2 c2 ys) (hv : eqP xs ys = v) :
    Calls Try.prog 36 #[.slice a1 l1 c1, .slice a2 l2 c2] w fun e w' => e = .returned (.bool v) ∧ Below w.heap.size w w' := by
  have HI := Lib.hid h
  have HI' := Lib.hid h'
  have H1 := Lib.hid h.1
  have H1' := Lib.hid h'.1
  have hmax := h.2.2.1
  have HV := Lib.hid hv
  obtain ⟨G, hG⟩ : ∃ G, w.heap.size = G := ⟨_, rfl⟩
  clear h h' hv
  by_cases hll : l1 = l2
  · have hne : ((l1 : Int) != (l2 : Int)) = false := by simp [hll]
    subst hll
    go_enter Try.func36, Try.ntmps36
    go_wp2
    go_loopw [5] (fun i wr => ∃ k : Nat, k ≤ l1 ∧ i = .int .i64 k ∧ Hid (xs.take k = ys.take k) ∧ Below G w wr) (fun i _ => l1 - (intOf i).toNat)
    case atStart => exact ⟨0, Nat.zero_le _, rfl, rfl, Below.refl _ _⟩
    case round =>
      obtain ⟨k, hk, rfl, hT, hD⟩ := hrel
      have hBw : Below w.heap.size w wr := hG.symm ▸ hD
      have hGw : G ≤ wr.heap.size := by have := hBw.size; omega
      by_cases hlt : k < l1
      · obtain ⟨b, off, rfl, hb, c0, d0⟩ := (HI.out.below hBw).piles hlt
        obtain ⟨b', off', rfl, hb', c1', d1⟩ := (HI'.out.below hBw).piles hlt
        obtain ⟨t1, ht1⟩ : ∃ t1, tAt xs k = t1 := ⟨_, rfl⟩
        obtain ⟨t2, ht2⟩ : ∃ t2, tAt ys k = t2 := ⟨_, rfl⟩
        obtain ⟨m1, hm1⟩ : ∃ m1, mAt xs k = m1 := ⟨_, rfl⟩
        obtain ⟨m2, hm2⟩ : ∃ m2, mAt ys k = m2 := ⟨_, rfl⟩
        have HP : Hid (¬ (t1 = t2 ∧ m1 = m2) → eqP xs ys = false) := fun hh => takeP_part (by rw [ht1, ht2, hm1, hm2]; exact hh)
        have HS : Hid (t1 = t2 → m1 = m2 → xs.take (k + 1) = ys.take (k + 1)) := fun h1 h2 => takeP_step (by rw [H1.out]; exact hlt) (by rw [H1'.out]; exact hlt) hT.out (by rw [ht1, ht2, h1]) (by rw [hm1, hm2, h2])
        rw [ht1] at c0
        rw [hm1] at d0
        rw [ht2] at c1'
        rw [hm2] at d1
        clear ht1 ht2 hm1 hm2
        have u0 : ∀ u : Beh wr, u.w.cell? ⟨b, off + k * 2, none⟩ = some (.string t1) := Beh.cell c0 hb
        have u1 : ∀ u : Beh wr, u.w.cell? ⟨b, off + k * 2 + 1, none⟩ = some (.int .i64 m1) := Beh.cell d0 hb
        have u2 : ∀ u : Beh wr, u.w.cell? ⟨b', off' + k * 2, none⟩ = some (.string t2) := Beh.cell c1' hb'
        have u3 : ∀ u : Beh wr, u.w.cell? ⟨b', off' + k * 2 + 1, none⟩ = some (.int .i64 m2) := Beh.cell d1 hb'
        obtain ⟨q, hq⟩ : ∃ q, (decide (t1 = t2) && decide (m1 = m2)) = q := ⟨_, rfl⟩
        have HQ := Lib.hid hq
        cases q
        · have HF : Hid (v = false) := by
            rw [Hid, ← HV.out]
            refine HP.out fun hh => ?_
            rw [decide_eq_true hh.1, decide_eq_true hh.2] at hq
            cases hq
          clear HS HP hq
          go_wp2_with fail
          refine wp_region_below (by kernel_rfl) (by kernel_rfl) ?_
          repeat (go_big_quiet_step ((go_at_call 66; exact Calls.beh (eqPile_any t1 m1 t2 m2 false _ HQ.out))))
          refine wpQuiet_nil ?_
          rintro _ ⟨⟨w1, hb1⟩, rfl⟩
          have hB1 := hD.trans (hb1.mono hGw)
          go_wp2
          go_ret
          exact ⟨ret_bool HF.out.symm, hG.symm ▸ hB1⟩
        · have HSS : Hid (xs.take (k + 1) = ys.take (k + 1)) := by
            simp only [Bool.and_eq_true, decide_eq_true_iff] at hq
            exact HS.out hq.1 hq.2
          clear HS HP hq
          go_wp2_with fail
          refine wp_region_below (by kernel_rfl) (by kernel_rfl) ?_
          repeat (go_big_quiet_step ((go_at_call 66; exact Calls.beh (eqPile_any t1 m1 t2 m2 true _ HQ.out))))
          refine wpQuiet_nil ?_
          rintro _ ⟨⟨w1, hb1⟩, rfl⟩
          have hB1 := hD.trans (hb1.mono hGw)
          go_wp2
          go_roundw
          case rel => exact ⟨k + 1, by omega, by go_num, HSS, hB1⟩
          case measure => simp [intOf]; omega
      · obtain rfl : k = l1 := by omega
        have HF : Hid (v = true) := by
          have := hT.out
          rw [List.take_of_length_le (by rw [H1.out]; omega), List.take_of_length_le (by rw [H1'.out]; omega)] at this
          rw [Hid, ← HV.out, eqP, this]; simp
        go_wp2
        go_ret
        exact ⟨ret_bool HF.out.symm, hBw⟩
  · have hne : ((l1 : Int) != (l2 : Int)) = true := by simp; omega
    have HF : Hid (v = false) := by
      rw [Hid, ← HV.out]
      simp only [eqP, decide_eq_false_iff_not]
      intro e
      have h1 := H1.out
      have h2 := H1'.out
      rw [e] at h1
      omega
    go_enter Try.func36, Try.ntmps36
    go_wp2
    go_ret
    exact ⟨ret_bool HF.out.symm, Below.refl _ _⟩

end Go.Proofs.Ytafnmongglhlaaa

namespace Go.Proofs.Ytafnmongglhlaaa
open Go.RowKit Go.ChangeShapes Go.WideShapes Go.Deep

/-- A slice of piles that came in: it is nil, or it leads to a row of piles. -/
def IsPRow (w : World) (a : Option Addr) (len cap : Nat) (ps : List Pl) : Prop :=
  ps.length = len ∧ Held ps ∧ len ≤ maxLen ∧ ((a = none ∧ len = 0 ∧ cap = 0) ∨ ∃ x, a = some x ∧ len ≤ cap ∧ ∀ i, i < len → w.cell? (x.add (i * 2)) = some (.string (tAt ps i)) ∧ w.cell? (x.add (i * 2 + 1)) = some (.int .i64 (mAt ps i)))
theorem IsPRow.piles {w : World} {a : Option Addr} {len cap : Nat} {ps : List Pl} (h : IsPRow w a len cap ps) (hl : len ≤ 1048576) : IsPiles w a len cap ps := by
  obtain ⟨h1, _, _, h⟩ := h
  rcases h with ⟨rfl, rfl, rfl⟩ | ⟨⟨b, off, spot⟩, rfl, hc, h4⟩
  · exact ⟨h1, Nat.le_refl _, by omega, fun h => by omega⟩
  · refine ⟨h1, hc, by omega, fun hp => ?_⟩
    have h0 := (h4 0 hp).1
    have hs : spot = none := by simpa [Addr.add] using World.cell?_spot h0
    subst hs
    refine ⟨b, off, rfl, World.block_lt_of_cell? w _ h0, fun j hj => ?_⟩
    have := h4 j hj
    rw [add_spot, add_spot] at this
    exact this
def strAt (v : Value) : ByteArray := match v with | .string s => s | _ => ByteArray.empty
theorem pile_fields : Try.prog.underlying 89 = some (.struct #[(Try.prog.fieldsOf 89)[0]!, (Try.prog.fieldsOf 89)[1]!]) := by kernel_rfl
theorem open_prow {H : Type} {enc : TypeId × Value → H} {W : World} {base : Nat} {spare : Nat → Bool} {held : Bool} {fuel : Nat} {cs : List Value} {x : DataW H × List MemPlace} {a : Option Addr} {len cap : Nat} (hcs : cs = [.slice a len cap])
    (hf : DataW.trod enc Try.prog W base spare held fuel 53 cs = some x) : ∃ ps, IsPRow W a len cap ps := by
  rcases open_slice_pairs Try.underlying53 pile_fields (by kernel_rfl) (by kernel_rfl) (by kernel_rfl) (by kernel_rfl) (by kernel_rfl) hf with ⟨h0, _⟩ | ⟨ad, l, c, m, n, V0, V1, D0, D1, P0, P1, h0, _, hl, hm, hmm, _, hi⟩
  · rw [hcs] at h0
    injection h0 with h0 _
    injection h0 with e1 e2 e3
    subst e1; subst e2; subst e3
    exact ⟨[], rfl, fun i => by simp [tAt, maxLen], by unfold maxLen; omega, .inl ⟨rfl, rfl, rfl⟩⟩
  · rw [hcs] at h0
    injection h0 with h0 _
    injection h0 with e1 e2 e3
    subst e1; subst e2; subst e3
    have hlm : len ≤ m := by rw [hmm]; split <;> omega
    have ft0 : ((Try.prog.fieldsOf 89)[0]!).type = 9 := by kernel_rfl
    have ft1 : ((Try.prog.fieldsOf 89)[1]!).type = 3 := by kernel_rfl
    have hs : ∀ i, i < len → ∃ s : ByteArray, V0 i = .string s ∧ s.size ≤ maxLen := fun i hil => by
      have h2 := (hi i (by omega)).2.2.1
      rw [ft0] at h2
      obtain ⟨s, e, _, hsz⟩ := DataW.trod_string Try.underlying9 h2
      injection e with e _
      exact ⟨s, e, hsz⟩
    have hn : ∀ i, i < len → ∃ k : Int, V1 i = .int .i64 k := fun i hil => by
      have h2 := (hi i (by omega)).2.2.2
      rw [ft1] at h2
      obtain ⟨k, e, _, _⟩ := DataW.trod_int Try.underlying3 h2
      injection e with e _
      exact ⟨k, e⟩
    refine ⟨(List.range len).map fun i => (strAt (V0 i), intOf (V1 i)), by simp, fun i => ?_, by omega, .inr ⟨ad, rfl, hl, fun i hil => ?_⟩⟩
    · rcases Nat.lt_or_ge i len with hil | hil
      · obtain ⟨s, e, hsz⟩ := hs i hil
        have : tAt ((List.range len).map fun i => (strAt (V0 i), intOf (V1 i))) i = s := by simp [tAt, hil, e, strAt]
        rw [this]; exact hsz
      · have : tAt ((List.range len).map fun i => (strAt (V0 i), intOf (V1 i))) i = ByteArray.empty := by simp [tAt, hil]
        rw [this]; simp
    · obtain ⟨s, e, _⟩ := hs i hil
      obtain ⟨k, e'⟩ := hn i hil
      have t1 : tAt ((List.range len).map fun i => (strAt (V0 i), intOf (V1 i))) i = s := by simp [tAt, hil, e, strAt]
      have t2 : mAt ((List.range len).map fun i => (strAt (V0 i), intOf (V1 i))) i = k := by simp [mAt, hil, e', intOf]
      rw [t1, t2, ← e, ← e']
      exact ⟨(hi i (by omega)).1, (hi i (by omega)).2.1⟩

set_option maxHeartbeats 1000000 in
/-- **szPileS**, of a longer slice. -/
theorem szPileS_long (a : Option Addr) (len cap : Nat) (L : Int) (w : World) (hl : 1048576 < len) (hm : len ≤ maxLen) (hL : 0 ≤ L ∧ L ≤ 1048576) :
    Calls Try.prog 31 #[.slice a len cap, .int .i64 L] w fun e w' => e = .returned (.int .i64 (-1)) ∧ w = w' := by
  have hsz : (len : Int) ≤ 9223372036854775807 := by unfold maxLen at hm; omega
  have hw : IntKind.i64.wrap (L - (len : Int)) = L - (len : Int) := IntWalk.i64_in _ (by omega)
  have hd : decide (L - (len : Int) < 0) = true := decide_eq_true (by omega)
  go_enter Try.func31, Try.ntmps31
  go_wp2
  go_ret
  exact ⟨rfl, rfl⟩

end Go.Proofs.Ytafnmongglhlaaa

namespace Go.Proofs.Ytafnmongglhlaaa
open Go.RowKit

/-- The decimal digits of a number, none of nought. -/
def digs (n : Nat) : ByteArray := if _h : n = 0 then ByteArray.empty else digs (n / 10) ++ strOfNums [48 + ((n % 10 : Nat) : Int)]
termination_by n
decreasing_by omega
theorem digs_pos {n : Nat} (h : n ≠ 0) : digs n = digs (n / 10) ++ strOfNums [48 + ((n % 10 : Nat) : Int)] := by rw [digs]; simp [h]
theorem digs_zero : digs 0 = ByteArray.empty := by rw [digs]; simp
theorem app_empty (a : ByteArray) : a ++ ⟨#[]⟩ = a := by
  apply ByteArray.ext
  simp [ByteArray.data_append]
theorem app_assoc (a b c : ByteArray) : a ++ b ++ c = a ++ (b ++ c) := by
  apply ByteArray.ext
  simp [ByteArray.data_append]
/-- The text that markText gives. -/
def mT (k : Int) : ByteArray := if k ≤ 0 then ⟨#[109, 48]⟩ else ⟨#[109]⟩ ++ digs k.toNat

set_option maxRecDepth 100000 in
set_option maxHeartbeats 2000000 in
/-- **markText**. -/
theorem markText_as (k : Int) (s : ByteArray) (w : World) (hk0 : 0 ≤ k) (hk : k ≤ 100000000) (hs : mT k = s) :
    Calls Try.prog 68 #[.int .i64 k] w fun e w' => e = .returned (.string s) ∧ Below w.heap.size w w' := by
  obtain ⟨n0, rfl⟩ : ∃ n0 : Nat, k = (n0 : Int) := ⟨k.toNat, by omega⟩
  obtain ⟨G, hG⟩ : ∃ G, w.heap.size = G := ⟨_, rfl⟩
  by_cases hz : (n0 : Int) ≤ 0
  · have hd : decide ((n0 : Int) ≤ 0) = true := decide_eq_true hz
    have HS : Hid (s = ⟨#[109, 48]⟩) := by rw [Hid, ← hs, mT, if_pos hz]
    clear hs
    go_enter Try.func68, Try.ntmps68
    go_wp2
    go_ret
    exact ⟨ret_str HS.out.symm, Below.refl _ _⟩
  · have hd : decide ((n0 : Int) ≤ 0) = false := decide_eq_false hz
    have HS : Hid (s = ⟨#[109]⟩ ++ digs n0) := by rw [Hid, ← hs, mT, if_neg hz]; simp
    clear hs
    go_enter Try.func68, Try.ntmps68
    go_wp2
    go_loopw [0, 3] (fun i o wr => ∃ (n : Nat) (u : ByteArray), n ≤ n0 ∧ i = .int .i64 n ∧ o = .string u ∧ Hid (digs n ++ u = digs n0) ∧ u.size + n ≤ n0 ∧ Below G w wr) (fun i _ _ => (intOf i).toNat)
    case atStart => exact ⟨n0, _, Nat.le_refl _, rfl, rfl, app_empty _, by show 0 + n0 ≤ n0; omega, Below.refl _ _⟩
    case round =>
      obtain ⟨n, u, hn, rfl, rfl, hD, hun, hB⟩ := hrel
      have hBw : Below w.heap.size w wr := hG.symm ▸ hB
      have hGw : G ≤ wr.heap.size := by have := hBw.size; omega
      by_cases hpos : 0 < n
      · have hd2 : decide ((0 : Int) < (n : Int)) = true := decide_eq_true (by omega)
        have hd3 : decide (0 < n) = true := decide_eq_true hpos
        have hmod : (n : Int).tmod 10 = ((n % 10 : Nat) : Int) := by rw [Int.tmod_eq_emod_of_nonneg (by omega)]; omega
        have hdiv : (n : Int).tdiv 10 = ((n / 10 : Nat) : Int) := by rw [Int.tdiv_eq_ediv_of_nonneg (by omega)]; omega
        have hr9 : n % 10 < 10 := Nat.mod_lt _ (by omega)
        obtain ⟨r, hr⟩ : ∃ r, n % 10 = r := ⟨_, rfl⟩
        obtain ⟨d, hd⟩ : ∃ d, n / 10 = d := ⟨_, rfl⟩
        have HDG : Hid (digs n = digs d ++ strOfNums [48 + (r : Int)]) := by rw [Hid, ← hr, ← hd]; exact digs_pos (by omega)
        have hdn : d < n := by omega
        rw [hr] at hr9 hmod
        rw [hd] at hdiv
        clear hr hd
        have hw1 : IntKind.i64.wrap (48 + (r : Int)) = 48 + (r : Int) := IntWalk.i64_in _ (by omega)
        have hw8 : IntKind.u8.wrap (48 + (r : Int)) = 48 + (r : Int) := by simp [IntKind.wrap, IntKind.bits, IntKind.signed]; omega
        have hconv := run_convert_bytes_arg (P := Try.prog) (wr.alloc (.cells #[.int .u8 (48 + (r : Int))] 5)) 22 5 Try.underlying22 Try.underlying5 wr.heap.size 0 1 1 [48 + (r : Int)] rfl (fun i hi => by
          obtain rfl : i = 0 := by omega
          exact World.cell?_alloc_new wr _ _ 0) 9 Try.underlying9
        have HB2 : Hid (Below G w (wr.alloc (.cells #[.int .u8 (48 + (r : Int))] 5))) := hB.alloc hGw _
        have hz1 : (strOfNums [48 + (r : Int)]).size = 1 := by simp [strOfNums_size]
        have hz2 : (strOfNums [48 + (r : Int)] ++ u).size = 1 + u.size := by rw [ByteArray.size_append, hz1]
        have HDS : Hid (digs d ++ (strOfNums [48 + (r : Int)] ++ u) = digs n0) := by rw [Hid, ← app_assoc, ← HDG.out]; exact hD.out
        go_wp2
        refine ⟨⟨d, _, by omega, rfl, rfl, HDS, by rw [hz2]; omega, HB2.out⟩, ?_⟩
        simp [intOf]; omega
      · have hd2 : decide ((0 : Int) < (n : Int)) = false := decide_eq_false (by omega)
        obtain rfl : n = 0 := by omega
        have HU : Hid (u = digs n0) := by have := hD.out; rw [digs_zero] at this; simpa [Hid] using this
        go_wp2
        go_ret
        exact ⟨ret_str (by rw [HS.out, HU.out]), hBw⟩

/-- The marks from k on, of n piles. -/
def marksP (k : Int) (n : Nat) : List Pl := (List.range n).map fun (i : Nat) => (mT (k + 2 * (i : Int)), k + 2 * (i : Int) + 1)
theorem marksP_length (k : Int) (n : Nat) : (marksP k n).length = n := by simp [marksP]
theorem marksP_succ (k : Int) (n : Nat) : marksP k (n + 1) = marksP k n ++ [(mT (k + 2 * (n : Int)), k + 2 * (n : Int) + 1)] := by simp [marksP, List.range_succ]
theorem marksP_t {k : Int} {n j : Nat} (h : j < n) : tAt (marksP k n) j = mT (k + 2 * (j : Int)) := by simp [tAt, marksP, h]
theorem marksP_m {k : Int} {n j : Nat} (h : j < n) : mAt (marksP k n) j = k + 2 * (j : Int) + 1 := by simp [mAt, marksP, h]
/-- The first j are marked. -/
def markToP (ps : List Pl) (k : Int) (j : Nat) : List Pl := marksP k j ++ ps.drop j
theorem markToP_zero (ps : List Pl) (k : Int) : markToP ps k 0 = ps := by simp [markToP, marksP]
theorem markToP_all (ps : List Pl) (k : Int) : markToP ps k ps.length = marksP k ps.length := by simp [markToP]
theorem markToP_length {ps : List Pl} {k : Int} {j : Nat} (h : j ≤ ps.length) : (markToP ps k j).length = ps.length := by simp [markToP, marksP_length]; omega
theorem markToP_step {ps : List Pl} {k : Int} {j : Nat} (h : j < ps.length) : (markToP ps k j).set j (mT (k + 2 * (j : Int)), k + 2 * (j : Int) + 1) = markToP ps k (j + 1) := by
  unfold markToP
  rw [marksP_succ, List.drop_eq_getElem_cons h, List.set_append_right _ _ (by rw [marksP_length]; exact Nat.le_refl _), marksP_length, Nat.sub_self, List.set_cons_zero, List.append_assoc]
  rfl
theorem owns_low {w w' : World} {base n size : Nat} {e : TypeId} {v : Value} {xs : List Value} {row : Option Nat} (h : w.ownsRow base e size v n xs) (hg : w.grownBy w' row) (hr : ∀ i, row = some i → i < base) : w'.ownsRow base e size v n xs := by
  refine h.kept hg ?_
  cases hb : v.ownBlock with
  | none => exact .inl rfl
  | some i => have := (h.lt i hb).1; right; intro e2; have := hr i e2.symm; omega
theorem owns_asideP {w w' : World} {base n size g c : Nat} {e : TypeId} {xs : List Value} {row : Option Nat} (h : w.ownsRow base e size (.slice (some ⟨g, 0, none⟩) n c) n xs) (hg : w.grownBy w' row) (hr : row ≠ some g) : w'.ownsRow base e size (.slice (some ⟨g, 0, none⟩) n c) n xs :=
  h.kept hg (.inr (by simpa [Value.ownBlock] using fun e => hr e.symm))
theorem below_grown {w w' : World} (hb : Below w.heap.size w w') (row : Option Nat) : w.grownBy w' row := ⟨hb.os, hb.tape, hb.output, hb.size, fun k hk _ => hb.block k hk⟩

set_option maxRecDepth 100000 in
set_option maxHeartbeats 4000000 in
/-- **markPileS**, at a row of the caller's own: that block alone is written. -/
theorem markP_any (base : Nat) (a : Option Addr) (len cap : Nat) (ps : List Pl) (k : Int) (w : World) (h : w.ownsRow base 49 2 (.slice a len cap) len (cellsP ps)) (hl : len ≤ 1048600) (hk0 : 0 ≤ k) (hk : k ≤ 10000000) :
    Calls Try.prog 39 #[.slice a len cap, .int .i64 k] w fun e w' => e = .returned (.int .i64 (k + 2 * (len : Int))) ∧ w'.ownsRow base 49 2 (.slice a len cap) len (cellsP (marksP k len)) ∧ w.grownBy w' (Value.slice a len cap).ownBlock := by
  have hpl : ps.length = len := by have h1 := h.1; rw [cellsP_length] at h1; omega
  have HPL := Lib.hid hpl; clear hpl
  have HO : Hid (w.ownsRow base 49 2 (.slice a len cap) len (cellsP (markToP ps k 0))) := by rw [markToP_zero]; exact h
  clear h
  obtain ⟨row, hrow⟩ : ∃ row, (Value.slice a len cap).ownBlock = row := ⟨_, rfl⟩
  have HROW := Lib.hid hrow
  have HG0 : Hid (w.grownBy w row) := ⟨rfl, rfl, rfl, Nat.le_refl _, fun _ _ _ => rfl⟩
  rw [hrow]
  clear hrow
  go_enter Try.func39, Try.ntmps39
  go_wp2
  go_loopw [1, 5] (fun q i wr => ∃ j : Nat, j ≤ len ∧ i = .int .i64 j ∧ q = .int .i64 (k + 2 * (j : Int)) ∧ Hid (wr.ownsRow base 49 2 (.slice a len cap) len (cellsP (markToP ps k j))) ∧ Hid (w.grownBy wr row)) (fun _ i _ => len - (intOf i).toNat)
  case atStart => exact ⟨0, Nat.zero_le _, rfl, by simp, HO, HG0⟩
  case round =>
    obtain ⟨j, hj, rfl, rfl, ho, hG⟩ := hrel
    by_cases hlt : j < len
    · obtain ⟨g, c', hv⟩ := some_of_owns ho.out (by omega)
      injection hv with e1 _ e3
      subst e1; subst e3
      have hrg : row = some g := HROW.out.symm
      obtain ⟨s, hs⟩ : ∃ s, mT (k + 2 * (j : Int)) = s := ⟨_, rfl⟩
      obtain ⟨q, hq⟩ : ∃ q, k + 2 * (j : Int) = q := ⟨_, rfl⟩
      have hjp : j < ps.length := by rw [HPL.out]; exact hlt
      have hjm : j < (markToP ps k j).length := by rw [markToP_length (by omega)]; exact hjp
      have HST : Hid ((markToP ps k j).set j (s, q + 1) = markToP ps k (j + 1)) := by rw [Hid, ← hs, ← hq]; exact markToP_step hjp
      have hq0 : 0 ≤ q ∧ q ≤ 20000000 := by omega
      have hqj : k + 2 * ((j : Int) + 1) = q + 1 + 1 := by omega
      rw [hq] at hs ⊢
      have HS := Lib.hid hs
      clear hs hq
      have hw1 : IntKind.i64.wrap (q + 1) = q + 1 := IntWalk.i64_in _ (by omega)
      have hw2 : IntKind.i64.wrap (q + 1 + 1) = q + 1 + 1 := IntWalk.i64_in _ (by omega)
      go_wp2_with fail
      refine (markText_as q s _ (by omega) (by omega) HS.out).mono ?_
      rintro e w1 ⟨rfl, hb1⟩
      have O1 := Lib.hid (owns_below ho.out hb1)
      have S1 := Lib.hid (O1.out.stored (j * 2) (.string s))
      have S2 := Lib.hid (S1.out.1.stored (j * 2 + 1) (.int .i64 (q + 1)))
      have x0 : w1.cell? ⟨g, j * 2, none⟩ = some (.string (tAt (markToP ps k j) j)) := by rw [O1.out.cellAt (j * 2) (by omega)]; exact cellsP_text _ j hjm
      have f0 : w1.frozen? ⟨g, j * 2, none⟩ = false := O1.out.frozenAt (j * 2)
      have x1 : (w1.setCell ⟨g, j * 2, none⟩ (.string s)).cell? ⟨g, j * 2 + 1, none⟩ = some (.int .i64 (mAt (markToP ps k j) j)) := by
        rw [S1.out.1.cellAt (j * 2 + 1) (by omega), List.getElem?_set_ne (by omega)]
        exact cellsP_many _ j hjm
      have f1 : (w1.setCell ⟨g, j * 2, none⟩ (.string s)).frozen? ⟨g, j * 2 + 1, none⟩ = false := S1.out.1.frozenAt (j * 2 + 1)
      have GG : Hid (w.grownBy ((w1.setCell ⟨g, j * 2, none⟩ (.string s)).setCell ⟨g, j * 2 + 1, none⟩ (.int .i64 (q + 1))) row) := by
        rw [hrg] at hG ⊢
        exact ((hG.out.trans (below_grown hb1 _)).trans S1.out.2).trans S2.out.2
      clear hb1 hrg
      go_wp2
      go_roundw
      case rel => exact ⟨j + 1, by omega, by go_num, by push_cast; rw [hqj], by rw [Hid, ← HST.out, ← cells_set2 hjm]; exact S2.out.1, GG⟩
      case measure => simp [intOf]; omega
    · obtain rfl : j = len := by omega
      go_wp2
      go_ret
      refine ⟨rfl, ?_, hG.out⟩
      have := ho.out
      rw [← HPL.out, markToP_all] at this
      rw [← HPL.out]; exact this

end Go.Proofs.Ytafnmongglhlaaa
