/-
  toFracS: a new slice with the same fractions. It writes into no memory that was there.
  toStep: a step with counts of its own. It writes into no memory that was there.
  toStepS: a new slice with the same steps, each with counts of its own. It writes into no memory that was there.
-/
import Derived.Test.YtafnmongglhlaaaGrp14
import Derived.Test.YtafnmongglhlaaaGrpQ
import Derived.Test.YtafnmongglhlaaaGrpK
namespace Go.Proofs.Ytafnmongglhlaaa
open Go.RowKit

theorem frac_infoT : (Try.prog.info? 40).map (fun i => (i.zero, i.size, i.bytes)) = some (some (.agg #[.int .i64 0, .int .i64 0]), 2, 16) := by kernel_rfl
/-- The first k fractions, then 0 over 0. -/
def fillF (ps : List Fr) (len k : Nat) : List Fr := ps.take k ++ List.replicate (len - k) (0, 0)
theorem fillF_length {ps : List Fr} {len k : Nat} (h : ps.length = len) (hk : k ≤ len) : (fillF ps len k).length = len := by simp [fillF]; omega
theorem fillF_all {ps : List Fr} {len : Nat} (h : ps.length = len) : fillF ps len len = ps := by simp [fillF, ← h]
theorem fillF_step {ps : List Fr} {len k : Nat} (h : ps.length = len) (hk : k < len) : (fillF ps len k).set k (fAt ps k) = fillF ps len (k + 1) := by
  have e : len - k = (len - (k + 1)) + 1 := by omega
  have hk2 : k < ps.length := by omega
  have e2 : fAt ps k = ps[k] := by simp [fAt, hk2]
  unfold fillF
  rw [e, List.replicate_succ, List.take_succ_eq_append_getElem hk2, e2]
  have hl : (ps.take k).length = k := by simp; omega
  rw [List.set_append_right _ _ (by omega), hl, Nat.sub_self, List.set_cons_zero, List.append_assoc, List.singleton_append]
theorem cells_madeF (len : Nat) : (madeCells (Value.agg #[.int .i64 0, .int .i64 0]).cells (len * 2)).toList = cellsF (List.replicate len (0, 0)) := by
  apply List.ext_getElem?
  intro j
  by_cases hj : j < len * 2
  · have h2 : (madeCells (Value.agg #[.int .i64 0, .int .i64 0]).cells (len * 2)).toList[j]? = some (#[Value.int .i64 0, .int .i64 0][j % 2]!) := by
      rw [Array.getElem?_toList]
      simp [madeCells, hj, Value.cells]
    rw [h2]
    have hi : j / 2 < (List.replicate len ((0, 0) : Fr)).length := by simp; omega
    rcases Nat.mod_two_eq_zero_or_one j with h | h
    · have := cellsF_num (List.replicate len (0, 0)) (j / 2) hi
      rw [show j / 2 * 2 = j by omega] at this
      rw [this, h]
      simp at hi
      simp [fAt, hi]
    · have := cellsF_den (List.replicate len (0, 0)) (j / 2) hi
      rw [show j / 2 * 2 + 1 = j by omega] at this
      rw [this, h]
      simp at hi
      simp [fAt, hi]
  · rw [List.getElem?_eq_none (by simp [size_madeCells]; omega), List.getElem?_eq_none (by rw [cellsF_length]; simp; omega)]

set_option maxRecDepth 100000 in
set_option maxHeartbeats 4000000 in
/-- **toFracS**. -/
theorem toFracS_any (a : Option Addr) (len cap : Nat) (ps : List Fr) (w : World) (h : IsFr w a len cap ps) :
    Calls Try.prog 99 #[.slice a len cap] w fun e w' => ∃ g, e = .returned (.slice (some ⟨g, 0, none⟩) len len) ∧ w'.ownsRow w.heap.size 40 2 (.slice (some ⟨g, 0, none⟩) len len) len (cellsF ps) ∧ Below w.heap.size w w' := by
  obtain ⟨i0, hi, hz0, hz1, hz2⟩ := info_parts frac_infoT
  have HI := Lib.hid h
  have H1 := Lib.hid h.1
  have hm : len ≤ 1048600 := h.2.2.1
  obtain ⟨G, hG⟩ : ∃ G, w.heap.size = G := ⟨_, rfl⟩
  clear h
  go_enter Try.func99, Try.ntmps99
  go_wp2_with (at_make; refine wpList_make_full _ rfl _ _ 33 rfl w.heap.size 40 i0 (.agg #[.int .i64 0, .int .i64 0]) 2 Try.underlying33 hi hz0 hz1 .i64 .i64 _ _ len rfl rfl rfl rfl (by rw [hz2]; omega) (by unfold maxLen; omega) (Nat.le_refl _) ?_; intro w1 hown hgrow)
  have hB1 : Below G w w1 := by rw [← hG]; exact (Below.refl _ w).grown hgrow (Nat.le_refl _) (fun k e => by cases e)
  have HO : Hid (w1.ownsRow G 40 2 (.slice (some ⟨G, 0, none⟩) len len) len (cellsF (fillF ps len 0))) := by
    unfold Hid
    have e : (madeCells (Value.agg #[.int .i64 0, .int .i64 0]).cells (len * 2)).toList = cellsF (fillF ps len 0) := by rw [cells_madeF]; simp [fillF]
    rw [← e, ← hG]; exact hown
  clear hown hgrow hi hz0 hz1 hz2
  go_wp2
  go_loopw [4] (fun i wr => ∃ k : Nat, k ≤ len ∧ i = .int .i64 k ∧ Hid (wr.ownsRow G 40 2 (.slice (some ⟨G, 0, none⟩) len len) len (cellsF (fillF ps len k))) ∧ Below G w wr) (fun i _ => len - (intOf i).toNat)
  case atStart => exact ⟨0, Nat.zero_le _, rfl, HO, hB1⟩
  case round =>
    obtain ⟨k, hk, rfl, ho, hB⟩ := hrel
    have hBw : Below w.heap.size w wr := hG.symm ▸ hB
    have hGw : G ≤ wr.heap.size := by have := hBw.size; omega
    by_cases hlt : k < len
    · obtain ⟨b, off, rfl, hb, c0, c1⟩ := (HI.out.below hBw).at hlt
      obtain ⟨x, y, hxy⟩ : ∃ x y, fAt ps k = (x, y) := ⟨_, _, rfl⟩
      have HST : Hid ((fillF ps len k).set k (x, y) = fillF ps len (k + 1)) := by rw [Hid, ← hxy]; exact fillF_step H1.out hlt
      rw [hxy] at c0 c1
      have hki : (k : Int) < (len : Int) := by omega
      clear hxy
      go_wp2_with fail
      refine (toFrac_any x y _).mono ?_
      rintro e w1 ⟨rfl, hb1⟩
      have O1 := Lib.hid (owns_under ho.out hb1)
      have B1 := Lib.hid (hB.trans (hb1.mono hGw))
      obtain ⟨⟨x0, f0⟩, x1, f1⟩ := meets_setF O1.out hlt (.int .i64 x)
      have S1 := Lib.hid (owns_setF O1.out k x y)
      have hGw1 : G ≤ w1.heap.size := by have := B1.out.size; omega
      have BB := Lib.hid (B1.out.grown S1.out.2 hGw1 (fun i ei => by cases ei; exact Nat.le_refl _))
      clear hb1
      go_wp2
      go_roundw
      case rel => exact ⟨k + 1, by omega, by go_num, by rw [Hid, ← HST.out]; exact S1.out.1, BB.out⟩
      case measure => simp [intOf]; omega
    · obtain rfl : k = len := by omega
      rw [fillF_all H1.out] at ho
      go_wp2
      go_ret
      exact ⟨G, rfl, hG ▸ ho.out, hBw⟩

end Go.Proofs.Ytafnmongglhlaaa

namespace Go.Proofs.Ytafnmongglhlaaa
open Go.RowKit

/-- Block g holds three values. -/
structure Thr (w : World) (g : Nat) (a b c : Value) : Prop where
  lt : g < w.heap.size
  c0 : w.cell? ⟨g, 0, none⟩ = some a
  c1 : w.cell? ⟨g, 1, none⟩ = some b
  c2 : w.cell? ⟨g, 2, none⟩ = some c
  f0 : w.frozen? ⟨g, 0, none⟩ = false
  f1 : w.frozen? ⟨g, 1, none⟩ = false
  f2 : w.frozen? ⟨g, 2, none⟩ = false
theorem Thr.new (w : World) (a b c : Value) (t : TypeId) : Thr (w.alloc (.cells #[a, b, c] t)) w.heap.size a b c :=
  ⟨by simp, (World.cell?_alloc_mark w _ t (0, 0) 0).trans rfl, (World.cell?_alloc_mark w _ t (0, 0) 1).trans rfl, (World.cell?_alloc_mark w _ t (0, 0) 2).trans rfl, (World.frozen?_alloc_mark w _ t 0 0 0).trans rfl, (World.frozen?_alloc_mark w _ t 0 0 1).trans rfl, (World.frozen?_alloc_mark w _ t 0 0 2).trans rfl⟩
theorem Thr.below {w w' : World} {g : Nat} {a b c : Value} (h : Thr w g a b c) (hb : Below w.heap.size w w') : Thr w' g a b c :=
  ⟨Nat.lt_of_lt_of_le h.lt hb.size, (hb.cell (p := ⟨g, 0, none⟩) h.lt).trans h.c0, (hb.cell (p := ⟨g, 1, none⟩) h.lt).trans h.c1, (hb.cell (p := ⟨g, 2, none⟩) h.lt).trans h.c2, (hb.frozen (p := ⟨g, 0, none⟩) h.lt).trans h.f0, (hb.frozen (p := ⟨g, 1, none⟩) h.lt).trans h.f1, (hb.frozen (p := ⟨g, 2, none⟩) h.lt).trans h.f2⟩
theorem Thr.alloc {w : World} {g : Nat} {a b c : Value} (h : Thr w g a b c) (o : Obj) : Thr (w.alloc o) g a b c := h.below ((Below.refl _ w).alloc (Nat.le_refl _) _)
theorem Thr.off {w : World} {g g' : Nat} {a b c : Value} (h : Thr w g a b c) (hne : g' ≠ g) (i : Nat) (v : Value) : Thr (w.setCell ⟨g', i, none⟩ v) g a b c :=
  ⟨by simpa [World.setCell] using h.lt, by rw [World.cell?_setCell_other _ _ _ _ (by intro e; injection e with e; exact hne e)]; exact h.c0, by rw [World.cell?_setCell_other _ _ _ _ (by intro e; injection e with e; exact hne e)]; exact h.c1, by rw [World.cell?_setCell_other _ _ _ _ (by intro e; injection e with e; exact hne e)]; exact h.c2, by simpa using h.f0, by simpa using h.f1, by simpa using h.f2⟩
theorem Thr.p0 {w : World} {g : Nat} {a b c : Value} (h : Thr w g a b c) (v : Value) : Thr (w.setCell ⟨g, 0, none⟩ v) g v b c :=
  ⟨by simpa [World.setCell] using h.lt, World.cell?_setCell_same' _ _ _ (by rw [h.c0]; rfl), by rw [World.cell?_setCell_other _ _ _ _ (by intro e; injection e with _ e2; exact absurd e2 (by decide))]; exact h.c1, by rw [World.cell?_setCell_other _ _ _ _ (by intro e; injection e with _ e2; exact absurd e2 (by decide))]; exact h.c2, by simpa using h.f0, by simpa using h.f1, by simpa using h.f2⟩
theorem Thr.p1 {w : World} {g : Nat} {a b c : Value} (h : Thr w g a b c) (v : Value) : Thr (w.setCell ⟨g, 1, none⟩ v) g a v c :=
  ⟨by simpa [World.setCell] using h.lt, by rw [World.cell?_setCell_other _ _ _ _ (by intro e; injection e with _ e2; exact absurd e2 (by decide))]; exact h.c0, World.cell?_setCell_same' _ _ _ (by rw [h.c1]; rfl), by rw [World.cell?_setCell_other _ _ _ _ (by intro e; injection e with _ e2; exact absurd e2 (by decide))]; exact h.c2, by simpa using h.f0, by simpa using h.f1, by simpa using h.f2⟩
theorem Thr.p2 {w : World} {g : Nat} {a b c : Value} (h : Thr w g a b c) (v : Value) : Thr (w.setCell ⟨g, 2, none⟩ v) g a b v :=
  ⟨by simpa [World.setCell] using h.lt, by rw [World.cell?_setCell_other _ _ _ _ (by intro e; injection e with _ e2; exact absurd e2 (by decide))]; exact h.c0, by rw [World.cell?_setCell_other _ _ _ _ (by intro e; injection e with _ e2; exact absurd e2 (by decide))]; exact h.c1, World.cell?_setCell_same' _ _ _ (by rw [h.c2]; rfl), by simpa using h.f0, by simpa using h.f1, by simpa using h.f2⟩

theorem own_set {w : World} {base n size cap g g' : Nat} {e : TypeId} {xs : List Value} (h : w.ownsRow base e size (.slice (some ⟨g, 0, none⟩) n cap) n xs) (hne : g ≠ g') (i : Nat) (v : Value) : (w.setCell ⟨g', i, none⟩ v).ownsRow base e size (.slice (some ⟨g, 0, none⟩) n cap) n xs :=
  h.kept (row := some g') ⟨rfl, rfl, rfl, by simp [World.setCell], fun k _ hk => Below.heap_setCell _ _ _ _ (fun e => hk (by rw [e]))⟩ (.inr (by intro q; injection q with q; exact hne q))

set_option maxRecDepth 100000 in
set_option maxHeartbeats 4000000 in
/-- **toStep**. -/
theorem toStep_any (a : Option Addr) (len cap : Nat) (cs : List Fr) (x k : Int) (w : World) (h : IsFr w a len cap cs) :
    Calls Try.prog 65 #[.agg #[.slice a len cap, .int .i64 x, .int .i64 k]] w fun e w' => ∃ g, e = .returned (.agg #[.slice (some ⟨g, 0, none⟩) len len, .int .i64 x, .int .i64 k]) ∧ w'.ownsRow w.heap.size 40 2 (.slice (some ⟨g, 0, none⟩) len len) len (cellsF cs) ∧ Below w.heap.size w w' := by
  obtain ⟨w1, hw1⟩ : ∃ w1, w.alloc (.cells #[.slice a len cap, .int .i64 x, .int .i64 k] 93) = w1 := ⟨_, rfl⟩
  obtain ⟨w2, hw2⟩ : ∃ w2, w1.alloc (.cells #[.slice none 0 0, .int .i64 0, .int .i64 0] 35) = w2 := ⟨_, rfl⟩
  obtain ⟨w3, hw3⟩ : ∃ w3, w2.alloc (.cells #[.slice none 0 0, .int .i64 0, .int .i64 0] 35) = w3 := ⟨_, rfl⟩
  obtain ⟨b1, hb1⟩ : ∃ b1, w.heap.size = b1 := ⟨_, rfl⟩
  obtain ⟨b2, hb2⟩ : ∃ b2, w1.heap.size = b2 := ⟨_, rfl⟩
  obtain ⟨b3, hb3⟩ : ∃ b3, w2.heap.size = b3 := ⟨_, rfl⟩
  have l12 : b1 < b2 := by rw [← hb1, ← hb2, ← hw1]; simp
  have l23 : b2 < b3 := by rw [← hb2, ← hb3, ← hw2]; simp
  have T1 : Thr w3 b1 (.slice a len cap) (.int .i64 x) (.int .i64 k) := by rw [← hw3, ← hw2, ← hw1, ← hb1]; exact ((Thr.new _ _ _ _ _).alloc _).alloc _
  have T2 : Thr w3 b2 (.slice none 0 0) (.int .i64 0) (.int .i64 0) := by rw [← hw3, ← hw2, ← hb2]; exact (Thr.new _ _ _ _ _).alloc _
  have T3 : Thr w3 b3 (.slice none 0 0) (.int .i64 0) (.int .i64 0) := by rw [← hw3, ← hb3]; exact Thr.new _ _ _ _ _
  have B3 : Hid (Below w.heap.size w w3) := by rw [← hw3, ← hw2, ← hw1]; exact (((Below.refl _ w).alloc (Nat.le_refl _) _).alloc (by simp) _).alloc (by simp; omega) _
  have H3 := Lib.hid (h.below B3.out)
  have HT1 := Lib.hid T1
  have HT2 := Lib.hid T2
  have HT3 := Lib.hid T3
  have HB1 := Lib.hid hb1
  obtain ⟨tl, q0, q1, q2, -, -, -⟩ := T1
  clear T2 T3 h
  go_enter Try.func65, Try.ntmps65
  go_wp2_with fail
  refine (toFracS_any a len cap cs _ H3.out).mono ?_
  rintro e w4 ⟨g, rfl, ho, hb⟩
  have U1 := HT1.out.below hb
  have U2 := HT2.out.below hb
  have U3 := HT3.out.below hb
  have V3 := (U3.p0 (.slice (some ⟨g, 0, none⟩) len len))
  have V1 := U1.off (g' := b3) (by omega) 0 (.slice (some ⟨g, 0, none⟩) len len)
  have V2 := U2.off (g' := b3) (by omega) 0 (.slice (some ⟨g, 0, none⟩) len len)
  have W3 := V3.p1 (.int .i64 x)
  have W1 := V1.off (g' := b3) (by omega) 1 (.int .i64 x)
  have W2 := V2.off (g' := b3) (by omega) 1 (.int .i64 x)
  have X3 := W3.p2 (.int .i64 k)
  have X2 := W2.off (g' := b3) (by omega) 2 (.int .i64 k)
  have Y2 := X2.p0 (.slice (some ⟨g, 0, none⟩) len len)
  have Z2 := Y2.p1 (.int .i64 x)
  have R2 := Z2.p2 (.int .i64 k)
  have hg3 : w3.heap.size ≤ g := (ho.lt g rfl).1
  have hlt3 : b3 < w3.heap.size := HT3.out.lt
  have hb1' := HB1.out
  have hom := World.ownsRow.mono ho (show w.heap.size ≤ w3.heap.size by omega)
  have hb4 : Below w.heap.size w w4 := B3.out.trans (hb.mono (by omega))
  have HOF := Lib.hid (own_set (own_set (own_set (own_set (own_set (own_set hom (g' := b3) (by omega) 0 (.slice (some ⟨g, 0, none⟩) len len)) (g' := b3) (by omega) 1 (.int .i64 x)) (g' := b3) (by omega) 2 (.int .i64 k)) (g' := b2) (by omega) 0 (.slice (some ⟨g, 0, none⟩) len len)) (g' := b2) (by omega) 1 (.int .i64 x)) (g' := b2) (by omega) 2 (.int .i64 k))
  have HBF := Lib.hid ((((((hb4.setCell (p := ⟨b3, 0, none⟩) (by show w.heap.size ≤ b3; omega) (.slice (some ⟨g, 0, none⟩) len len)).setCell (p := ⟨b3, 1, none⟩) (by show w.heap.size ≤ b3; omega) (.int .i64 x)).setCell (p := ⟨b3, 2, none⟩) (by show w.heap.size ≤ b3; omega) (.int .i64 k)).setCell (p := ⟨b2, 0, none⟩) (by show w.heap.size ≤ b2; omega) (.slice (some ⟨g, 0, none⟩) len len)).setCell (p := ⟨b2, 1, none⟩) (by show w.heap.size ≤ b2; omega) (.int .i64 x)).setCell (p := ⟨b2, 2, none⟩) (by show w.heap.size ≤ b2; omega) (.int .i64 k))
  obtain ⟨-, i1, i2, i3, j1, j2, j3⟩ := U3
  obtain ⟨-, -, k2, -, -, k5, -⟩ := V3
  obtain ⟨-, -, m2, -, -, -, -⟩ := V1
  obtain ⟨-, -, -, n3, -, -, n6⟩ := W3
  obtain ⟨-, -, -, o3, -, -, -⟩ := W1
  obtain ⟨-, p1, p2, p3, -, -, -⟩ := X3
  obtain ⟨-, s1, -, -, s4, -, -⟩ := X2
  obtain ⟨-, -, t2, -, -, t5, -⟩ := Y2
  obtain ⟨-, -, -, v3, -, -, v6⟩ := Z2
  obtain ⟨-, r1, r2, r3, -, -, -⟩ := R2
  clear ho hb hom hb4 U1 U2 V2 W2 HT1 HT2 HT3 H3 B3
  go_wp2
  refine bodyPost_ret (v := .agg #[.slice (some ⟨g, 0, none⟩) len len, .int .i64 x, .int .i64 k]) (by simp [results, Try.results65, go_sem, r1, r2, r3]) rfl ?_
  exact ⟨g, rfl, HOF.out, HBF.out⟩

end Go.Proofs.Ytafnmongglhlaaa

namespace Go.Proofs.Ytafnmongglhlaaa
open Go.RowKit

theorem step_infoT : (Try.prog.info? 35).map (fun i => (i.zero, i.size, i.bytes)) = some (some (.agg #[.slice none 0 0, .int .i64 0, .int .i64 0]), 3, 40) := by kernel_rfl
/-- What is laid of a row of steps: the first k are there, the others are empty. -/
structure Laid (w : World) (G len k : Nat) (ys : List GSt) (xs : List Value) : Prop where
  row : w.ownsRow G 35 3 (.slice (some ⟨G, 0, none⟩) len len) len xs
  done : ∀ j s, j < k → ys[j]? = some s → ∃ g l, xs[j * 3]? = some (.slice (some ⟨g, 0, none⟩) l l) ∧ xs[j * 3 + 1]? = some (.int .i64 s.2.1) ∧ xs[j * 3 + 2]? = some (.int .i64 s.2.2) ∧ w.ownsRow G 40 2 (.slice (some ⟨g, 0, none⟩) l l) l (cellsF s.1)
  rest : ∀ j, k ≤ j → j < len → xs[j * 3]? = some (.slice none 0 0) ∧ xs[j * 3 + 1]? = some (.int .i64 0) ∧ xs[j * 3 + 2]? = some (.int .i64 0)
theorem Laid.under {w w' : World} {G len k : Nat} {ys : List GSt} {xs : List Value} (h : Laid w G len k ys xs) (hb : Below w.heap.size w w') : Laid w' G len k ys xs :=
  ⟨owns_under h.row hb, fun j s h1 h2 => by
    obtain ⟨g, l, a1, a2, a3, a4⟩ := h.done j s h1 h2
    exact ⟨g, l, a1, a2, a3, owns_under a4 hb⟩, h.rest⟩
theorem laid_made {w : World} {G len : Nat} {ys : List GSt} (h : w.ownsRow G 35 3 (.slice (some ⟨G, 0, none⟩) len len) len (madeCells (Value.agg #[.slice none 0 0, .int .i64 0, .int .i64 0]).cells (len * 3)).toList) : ∃ xs, Laid w G len 0 ys xs :=
  ⟨_, h, fun j s h1 _ => by omega, fun j _ hj => by
    refine ⟨?_, ?_, ?_⟩
    · rw [Array.getElem?_toList]; simp [madeCells, Value.cells, show j * 3 < len * 3 by omega, show j * 3 % 3 = 0 by omega]
    · rw [Array.getElem?_toList]; simp [madeCells, Value.cells, show j * 3 + 1 < len * 3 by omega, show (j * 3 + 1) % 3 = 1 by omega]
    · rw [Array.getElem?_toList]; simp [madeCells, Value.cells, show j * 3 + 2 < len * 3 by omega, show (j * 3 + 2) % 3 = 2 by omega]⟩
theorem Laid.more {w : World} {G len k g l : Nat} {ys : List GSt} {xs : List Value} {cs : List Fr} {x kd : Int} (h : Laid w G len k ys xs) (hk : k < len) (hy : ys[k]? = some (cs, x, kd)) (ho : w.ownsRow G 40 2 (.slice (some ⟨g, 0, none⟩) l l) l (cellsF cs)) :
    ∃ xs', Laid (((w.setCell ⟨G, k * 3, none⟩ (.slice (some ⟨g, 0, none⟩) l l)).setCell ⟨G, k * 3 + 1, none⟩ (.int .i64 x)).setCell ⟨G, k * 3 + 2, none⟩ (.int .i64 kd)) G len (k + 1) ys xs' := by
  have s1 := h.row.stored (k * 3) (.slice (some ⟨g, 0, none⟩) l l)
  have s2 := s1.1.stored (k * 3 + 1) (.int .i64 x)
  have s3 := s2.1.stored (k * 3 + 2) (.int .i64 kd)
  have hlen : xs.length = len * 3 := h.row.1
  have keep2 : ∀ (g' l' : Nat) (cs : List Fr), w.ownsRow G 40 2 (.slice (some ⟨g', 0, none⟩) l' l') l' (cellsF cs) → (((w.setCell ⟨G, k * 3, none⟩ (.slice (some ⟨g, 0, none⟩) l l)).setCell ⟨G, k * 3 + 1, none⟩ (.int .i64 x)).setCell ⟨G, k * 3 + 2, none⟩ (.int .i64 kd)).ownsRow G 40 2 (.slice (some ⟨g', 0, none⟩) l' l') l' (cellsF cs) := by
    intro g' l' cs h4
    have hne : g' ≠ G := by
      have := owns_apart (by decide) h4 h.row
      rcases this with e | e
      · cases e
      · intro q
        exact e (by rw [show (Value.slice (some ⟨g', 0, none⟩) l' l').ownBlock = some g' from rfl, q]; rfl)
    exact own_set (own_set (own_set h4 hne _ _) hne _ _) hne _ _
  have other : ∀ i, i ≠ k * 3 → i ≠ k * 3 + 1 → i ≠ k * 3 + 2 → (((xs.set (k * 3) (.slice (some ⟨g, 0, none⟩) l l)).set (k * 3 + 1) (.int .i64 x)).set (k * 3 + 2) (.int .i64 kd))[i]? = xs[i]? := fun i h1 h2 h3 => by
    rw [List.getElem?_set_ne (Ne.symm h3), List.getElem?_set_ne (Ne.symm h2), List.getElem?_set_ne (Ne.symm h1)]
  refine ⟨_, s3.1, fun j s h1 h2 => ?_, fun j h1 h2 => ?_⟩
  · by_cases e : j = k
    · subst e
      rw [hy] at h2
      injection h2 with h2
      subst h2
      refine ⟨g, l, ?_, ?_, ?_, keep2 g l cs ho⟩
      · rw [List.getElem?_set_ne (by omega), List.getElem?_set_ne (by omega), List.getElem?_set_self (by omega)]
      · rw [List.getElem?_set_ne (by omega), List.getElem?_set_self (by rw [List.length_set]; omega)]
      · rw [List.getElem?_set_self (by rw [List.length_set, List.length_set]; omega)]
    · obtain ⟨g', l', a1, a2, a3, a4⟩ := h.done j s (by omega) h2
      exact ⟨g', l', by rw [other _ (by omega) (by omega) (by omega)]; exact a1, by rw [other _ (by omega) (by omega) (by omega)]; exact a2, by rw [other _ (by omega) (by omega) (by omega)]; exact a3, keep2 _ _ _ a4⟩
  · rw [other _ (by omega) (by omega) (by omega), other _ (by omega) (by omega) (by omega), other _ (by omega) (by omega) (by omega)]
    exact h.rest j (by omega) h2
theorem Laid.is {w : World} {G len : Nat} {ys : List GSt} {xs : List Value} (h : Laid w G len len ys xs) (hy : ys.length = len) (hl : len ≤ 1048600) (hi : ∀ s ∈ ys, s.1.length ≤ 1048600) : IsG w (some ⟨G, 0, none⟩) len len ys := by
  refine ⟨hy, Nat.le_refl _, hl, fun hp => ⟨G, 0, rfl, (h.row.lt G rfl).2, fun j s hs => ?_⟩⟩
  have hj : j < ys.length := (List.getElem?_eq_some_iff.1 hs).1
  obtain ⟨g, l, a1, a2, a3, a4⟩ := h.done j s (by omega) hs
  have hll : l = s.1.length := by have h1 := a4.1; rw [cellsF_length] at h1; omega
  refine ⟨_, l, l, ?_, ?_, ?_, IsFr.of_owned a4 (by rw [hll]; exact hi s (List.mem_of_getElem? hs))⟩
  · rw [Nat.zero_add, h.row.cellAt (j * 3) (by omega)]; exact a1
  · rw [Nat.zero_add, h.row.cellAt (j * 3 + 1) (by omega)]; exact a2
  · rw [Nat.zero_add, h.row.cellAt (j * 3 + 2) (by omega)]; exact a3

set_option maxRecDepth 100000 in
set_option maxHeartbeats 4000000 in
/-- **toStepS**. -/
theorem toStepS_any (a : Option Addr) (len cap : Nat) (ys : List GSt) (w : World) (h : IsG w a len cap ys) (hi5 : ∀ s ∈ ys, s.1.length ≤ 1048600) :
    Calls Try.prog 35 #[.slice a len cap] w fun e w' => ∃ g, e = .returned (.slice (some ⟨g, 0, none⟩) len len) ∧ IsG w' (some ⟨g, 0, none⟩) len len ys ∧ Below w.heap.size w w' := by
  obtain ⟨i0, hi, hz0, hz1, hz2⟩ := info_parts step_infoT
  have HI := Lib.hid h
  have H1 := Lib.hid h.1
  have hm : len ≤ 1048600 := h.2.2.1
  have H5 := Lib.hid hi5
  obtain ⟨G, hG⟩ : ∃ G, w.heap.size = G := ⟨_, rfl⟩
  clear h hi5
  go_enter Try.func35, Try.ntmps35
  go_wp2_with (at_make; refine wpList_make_full _ rfl _ _ 27 rfl w.heap.size 35 i0 (.agg #[.slice none 0 0, .int .i64 0, .int .i64 0]) 3 Try.underlying27 hi hz0 hz1 .i64 .i64 _ _ len rfl rfl rfl rfl (by rw [hz2]; omega) (by unfold maxLen; omega) (Nat.le_refl _) ?_; intro w1 hown hgrow)
  have hB1 : Below G w w1 := by rw [← hG]; exact (Below.refl _ w).grown hgrow (Nat.le_refl _) (fun k e => by cases e)
  have hown : w1.ownsRow G 35 3 (.slice (some ⟨G, 0, none⟩) len len) len (madeCells (Value.agg #[.slice none 0 0, .int .i64 0, .int .i64 0]).cells (len * 3)).toList := hG ▸ hown
  obtain ⟨xs0, HO⟩ := laid_made (ys := ys) hown
  have HO := Lib.hid HO
  clear hown hgrow hi hz0 hz1 hz2
  go_wp2
  go_loopw [4] (fun i wr => ∃ (k : Nat) (xs : List Value), k ≤ len ∧ i = .int .i64 k ∧ Hid (Laid wr G len k ys xs) ∧ Below G w wr) (fun i _ => len - (intOf i).toNat)
  case atStart => exact ⟨0, xs0, Nat.zero_le _, rfl, HO.out, hB1⟩
  case round =>
    clear HO
    obtain ⟨k, xs, hk, rfl, ho, hB⟩ := hrel
    have hBw : Below w.heap.size w wr := hG.symm ▸ hB
    have hGw : G ≤ wr.heap.size := by have := hBw.size; omega
    by_cases hlt : k < len
    · obtain ⟨⟨cs, x, kd⟩, hst⟩ : ∃ st, ys[k]? = some st := ⟨_, List.getElem?_eq_getElem (by rw [H1.out]; exact hlt)⟩
      obtain ⟨b, off, aj, lj, cj, rfl, hb, c0, c1, c2, f⟩ := (HI.out.below hBw).at hst
      have c1 : wr.cell? ⟨b, off + k * 3 + 1, none⟩ = some (.int .i64 x) := c1
      have c2 : wr.cell? ⟨b, off + k * 3 + 2, none⟩ = some (.int .i64 kd) := c2
      have hki : (k : Int) < (len : Int) := by omega
      have F := Lib.hid f
      have HST := Lib.hid hst
      clear f hst
      go_wp2_with fail
      refine (toStep_any aj lj cj cs x kd _ F.out).mono ?_
      rintro e w1 ⟨g, rfl, hg, hb1⟩
      have O1 := Lib.hid (ho.out.under hb1)
      have B1 := Lib.hid (hB.trans (hb1.mono hGw))
      have hGg := World.ownsRow.mono hg hGw
      obtain ⟨xs', hL⟩ := O1.out.more hlt HST.out hGg
      have HL := Lib.hid hL
      obtain ⟨r0, r1, r2⟩ := O1.out.rest k (Nat.le_refl _) hlt
      have x0 := (O1.out.row.cellAt (k * 3) (by omega)).trans r0
      have x1 := (O1.out.row.cellAt (k * 3 + 1) (by omega)).trans r1
      have x2 := (O1.out.row.cellAt (k * 3 + 2) (by omega)).trans r2
      have f0 := O1.out.row.frozenAt (k * 3)
      have f1 := O1.out.row.frozenAt (k * 3 + 1)
      have f2 := O1.out.row.frozenAt (k * 3 + 2)
      have BB := Lib.hid (((B1.out.setCell (p := ⟨G, k * 3, none⟩) (Nat.le_refl _) (.slice (some ⟨g, 0, none⟩) lj lj)).setCell (p := ⟨G, k * 3 + 1, none⟩) (Nat.le_refl _) (.int .i64 x)).setCell (p := ⟨G, k * 3 + 2, none⟩) (Nat.le_refl _) (.int .i64 kd))
      clear hb1 hg hGg hL r0 r1 r2
      go_wp2
      go_roundw
      case rel => exact ⟨k + 1, xs', by omega, by go_num, HL.out, BB.out⟩
      case measure => simp [intOf]; omega
    · obtain rfl : k = len := by omega
      have HR : Hid (IsG wr (some ⟨G, 0, none⟩) k k ys) := ho.out.is H1.out hm H5.out
      go_wp2
      go_ret
      exact ⟨G, rfl, HR.out, hBw⟩

end Go.Proofs.Ytafnmongglhlaaa
