/-
  impl.PilesTurn: for lists of piles with texts of at most 1048600 bytes; what it returns is memory of its own.
  What the drawn statements of piles get: DrawPilesAdd.
  samePiles: whether two lists of piles are equal.
  spec.l3Turn and spec.PilesTurn: for lists of piles with texts of at most 1048600 bytes; what they return is memory of their own.
  What the drawn statements of piles share.
-/
import Derived.Test.YtojfpnjnbpeniaaGrp20
import Derived.Deep.RegionHeld3
import Derived.Test.YtojfpnjnbpeniaaGrp18
import Derived.Test.YtojfpnjnbpeniaaGrp10
import Derived.Laws.StructEq
import Derived.Deep.RegionWith
namespace Go.Proofs.Ytojfpnjnbpeniaa
open Go.RowKit Go.Maps

theorem Below.grownBy {w w' : World} (h : Below w.heap.size w w') : w.grownBy w' none := ⟨h.os, h.tape, h.output, h.size, fun k hk _ => h.block k hk⟩
/-- The piles, each with its text exchanged. -/
def tps (x y : Int) (ps : List Pl) : List Pl := ps.map fun p => (turnT x y p.1, p.2)
theorem tps_length (x y : Int) (ps : List Pl) : (tps x y ps).length = ps.length := by simp [tps]
theorem tAt_tps {x y : Int} {ps : List Pl} {k : Nat} (h : k < ps.length) : tAt (tps x y ps) k = turnT x y (tAt ps k) := by simp [tAt, tps, h]
theorem mAt_tps {x y : Int} {ps : List Pl} {k : Nat} (h : k < ps.length) : mAt (tps x y ps) k = mAt ps k := by simp [mAt, tps, h]
theorem mem_at {ps : List Pl} {k : Nat} (h : k < ps.length) : (tAt ps k, mAt ps k) ∈ ps := by
  have e : (tAt ps k, mAt ps k) = ps[k] := by simp [tAt, mAt, h]
  rw [e]; exact List.getElem_mem h
theorem tps_new {x y : Int} (hx : 0 ≤ x ∧ x ≤ 4) (hy : 0 ≤ y ∧ y ≤ 4) {ps : List Pl} (hv : pilesB ps = true) {k : Nat} (hk : k < ps.length) : ¬ ∃ p ∈ (tps x y ps).take k, p.1 = tAt (tps x y ps) k := by
  rintro ⟨p, hp, e⟩
  obtain ⟨i, hi, rfl⟩ := List.mem_iff_getElem.1 hp
  have hik : i < k := by have := hi; rw [List.length_take, tps_length] at this; omega
  have hil : i < ps.length := by omega
  have pv := pilesB_pos hv
  rw [tAt_tps hk] at e
  have e1 : ((tps x y ps).take k)[i].1 = turnT x y (tAt ps i) := by simp [tps, tAt, hil]
  rw [e1] at e
  have v1 := pv.2.2.2.1 _ (mem_at hil)
  have v2 := pv.2.2.2.1 _ (mem_at hk)
  have w1 := turnT_twice hx hy v1
  have w2 := turnT_twice hx hy v2
  have e2 : tAt ps i = tAt ps k := by
    have : turnT x y (turnT x y (tAt ps i)) = turnT x y (turnT x y (tAt ps k)) := by rw [e]
    exact w1.symm.trans (this.trans w2)
  exact tl_ne (asc_at pv.1 hik hk) e2
theorem txtB_short (zs : List Int) : (txtB zs).size ≤ zs.length := by
  unfold txtB
  split
  · rw [txtOf_size]; exact Nat.le_refl _
  · exact Nat.zero_le _
theorem turnT_short (x y : Int) (t : ByteArray) : (turnT x y t).size ≤ 5 := by
  refine Nat.le_trans (txtB_short _) ?_
  simp only [turnB, List.length_map]
  exact parseL_short t
theorem tps_pos {x y : Int} {ps : List Pl} (hv : pilesB ps = true) : ∀ p ∈ tps x y ps, 1 ≤ p.2 := fun p hp => by
  obtain ⟨q, hq, rfl⟩ := List.mem_map.1 hp
  exact (pilesB_pos hv).2.1 q hq
theorem turned_eq {x y : Int} {ts ps : List Pl} (h : Asc ts ∧ (∀ u, tot ts u = tot (tps x y ps) u) ∧ ∀ q ∈ ts, ∃ p ∈ tps x y ps, p.1 = q.1) (hv : pilesB ps = true) : ts = turnPs x y ps := by
  refine piles_ext h.1 (turnPs_asc x y ps) (fun q hq => ?_) (turnPs_pos (pilesB_pos hv).2.1) (fun u => ?_)
  · rw [← tot_mem h.1 q hq, h.2.1]; exact tot_pos (tps_pos hv) (h.2.2 q hq)
  · rw [h.2.1]; unfold turnPs; rw [tot_merge, tot_zero, Int.zero_add]; rfl

set_option maxRecDepth 100000 in
set_option maxHeartbeats 8000000 in
/-- **impl.PilesTurn** answers as canL does. -/
theorem implTurn_as (a1 : Option Addr) (la ca : Nat) (ps : List Pl) (x y : Int) (r : List Pl) (ok : Bool) (w : World) (h : IsPiles w a1 la ca ps) (hs : Small ps) (hr : canL ps x y = r) (hok : canB ps x y = ok) :
    Calls Try.prog 35 #[.slice a1 la ca, .int .i64 x, .int .i64 y] w (GaveP w r ok) := by
  have HI := Lib.hid h
  have HS := Lib.hid hs
  have HR := Lib.hid hr
  have HOK := Lib.hid hok
  have H1 := Lib.hid h.1
  obtain ⟨G, hG⟩ : ∃ G, w.heap.size = G := ⟨_, rfl⟩
  clear h hs hr hok
  cases hc : canB ps x y
  · have e : Hid (ok = false) := by rw [Hid, ← HOK.out, hc]
    have e2 : Hid (r = []) := by rw [Hid, ← HR.out, canL, hc]; rfl
    obtain ⟨v, hv⟩ : ∃ v, pilesB ps = v := ⟨_, rfl⟩
    have HV := Lib.hid hv
    have hno : v = true → x < 0 ∨ 4 < x ∨ y < 0 ∨ 4 < y := fun hh => by
      rcases Int.lt_or_le x 0 with g | g
      · exact .inl g
      · rcases Int.lt_or_le 4 x with g2 | g2
        · exact .inr (.inl g2)
        · rcases Int.lt_or_le y 0 with g3 | g3
          · exact .inr (.inr (.inl g3))
          · rcases Int.lt_or_le 4 y with g4 | g4
            · exact .inr (.inr (.inr g4))
            · have := (canB_iff ps x y).2 ⟨by rw [hv, hh], ⟨g, g2⟩, ⟨g3, g4⟩⟩
              rw [this] at hc; cases hc
    clear hv hc
    go_enter Try.func35, Try.ntmps35
    go_wp2_with fail
    refine (implPiles_as _ la ca ps v _ HI.out HS.out HV.out).mono ?_
    rintro e1 w1 ⟨rfl, hb1⟩
    cases v
    · go_wp2
      go_ret2
      refine ⟨none, 0, by rw [e.out, e2.out]; rfl, by rw [e2.out]; exact World.ownsRow_nil _ _ _ _, hb1, fun hh => by rw [e.out] at hh; cases hh⟩
    · rcases Int.lt_or_le x 0 with g | g
      · have d1 : decide (x < 0) = true := decide_eq_true g
        go_wp2
        go_ret2
        refine ⟨none, 0, by rw [e.out, e2.out]; rfl, by rw [e2.out]; exact World.ownsRow_nil _ _ _ _, hb1, fun hh => by rw [e.out] at hh; cases hh⟩
      · have d1 : decide (x < 0) = false := decide_eq_false (by omega)
        rcases Int.lt_or_le 4 x with g2 | g2
        · have d2 : decide ((5 : Int) ≤ x) = true := decide_eq_true (by omega)
          go_wp2
          go_ret2
          refine ⟨none, 0, by rw [e.out, e2.out]; rfl, by rw [e2.out]; exact World.ownsRow_nil _ _ _ _, hb1, fun hh => by rw [e.out] at hh; cases hh⟩
        · have d2 : decide ((5 : Int) ≤ x) = false := decide_eq_false (by omega)
          rcases Int.lt_or_le y 0 with g3 | g3
          · have d3 : decide (y < 0) = true := decide_eq_true g3
            go_wp2
            go_ret2
            refine ⟨none, 0, by rw [e.out, e2.out]; rfl, by rw [e2.out]; exact World.ownsRow_nil _ _ _ _, hb1, fun hh => by rw [e.out] at hh; cases hh⟩
          · have d3 : decide (y < 0) = false := decide_eq_false (by omega)
            have hy5 : (4 : Int) < y := by have := hno rfl; omega
            have d4 : decide ((5 : Int) ≤ y) = true := decide_eq_true (by omega)
            go_wp2
            go_ret2
            refine ⟨none, 0, by rw [e.out, e2.out]; rfl, by rw [e2.out]; exact World.ownsRow_nil _ _ _ _, hb1, fun hh => by rw [e.out] at hh; cases hh⟩
  · have e : Hid (ok = true) := by rw [Hid, ← HOK.out, hc]
    have e2 : Hid (r = turnPs x y ps) := by rw [Hid, ← HR.out, canL, hc]; rfl
    obtain ⟨hv, hx, hy⟩ := (canB_iff ps x y).1 hc
    have HV := Lib.hid hv
    have hla : la ≤ 12 := by have := (pilesB_pos hv).2.2.2.2; rw [H1.out] at this; exact this
    have HMB := Lib.hid (mAt_valid hv)
    have d1 : decide (x < 0) = false := decide_eq_false (by omega)
    have d2 : decide ((5 : Int) ≤ x) = false := decide_eq_false (by omega)
    have d3 : decide (y < 0) = false := decide_eq_false (by omega)
    have d4 : decide ((5 : Int) ≤ y) = false := decide_eq_false (by omega)
    obtain ⟨qs, hqs⟩ : ∃ qs, tps x y ps = qs := ⟨_, rfl⟩
    have HQ := Lib.hid hqs
    clear hc hv hqs
    have hmm := @run_makeMap Try.prog
    go_enter Try.func35, Try.ntmps35
    go_wp2_with fail
    refine (implPiles_as _ la ca ps true _ HI.out HS.out HV.out).mono ?_
    rintro e1 w1 ⟨rfl, hb1⟩
    have B1 := Lib.hid hb1; clear hb1
    have S1 := B1.out.size
    have HM0 := Lib.hid (World.ownsMap_made w1 Try.prog 9 (plainElem (H := Unit) Try.prog 3))
    obtain ⟨M, hMb⟩ : ∃ M, w1.heap.size = M := ⟨_, rfl⟩
    have hGM : G ≤ M := by rw [← hMb, ← hG]; exact S1
    have BW2 : Hid (Below G w (w1.alloc (.map #[] 0))) := by rw [← hG]; exact B1.out.alloc S1 _
    have HM2 : Hid ((w1.alloc (.map #[] 0)).ownsMap Try.prog 9 (plainElem (H := Unit) Try.prog 3) M 0 (.map [])) := by rw [← hMb]; exact HM0.out
    have SW2 : Hid (M < (w1.alloc (.map #[] 0)).heap.size) := by rw [Hid, ← hMb]; simp
    clear HM0 B1 S1
    go_wp2
    go_loopw [33] (fun i wr => ∃ k : Nat, k ≤ la ∧ i = .int .i64 k ∧ (∃ D : DataW Unit, wr.ownsMap Try.prog 9 (plainElem (H := Unit) Try.prog 3) M k D ∧ MapIs D (qs.take k)) ∧ M < wr.heap.size ∧ Below G w wr) (fun i _ => la - (intOf i).toNat)
    case atStart => exact ⟨0, by omega, rfl, ⟨_, HM2.out, mapIs_start⟩, SW2.out, BW2.out⟩
    case round =>
      obtain ⟨k, hk, rfl, ⟨D, hown, hMI⟩, hsz, hB⟩ := hrel
      have hBw : Below w.heap.size w wr := hG.symm ▸ hB
      have hGw : G ≤ wr.heap.size := by have := hBw.size; rw [hG] at this; exact this
      by_cases hlt : k < la
      · obtain ⟨b', off', rfl, hb', c0, c1⟩ := (HI.out.below hBw).piles hlt
        obtain ⟨t, ht⟩ : ∃ t, tAt ps k = t := ⟨_, rfl⟩
        obtain ⟨m, hm⟩ : ∃ m, mAt ps k = m := ⟨_, rfl⟩
        obtain ⟨t', ht'⟩ : ∃ t', turnT x y t = t' := ⟨_, rfl⟩
        have hmb := HMB.out k
        have hst := HS.out k
        have hkl : k < ps.length := by rw [H1.out]; exact hlt
        have hqk : qs.take (k + 1) = qs.take k ++ [(t', m)] := by
          rw [take_one (by rw [← HQ.out, tps_length]; exact hkl), ← HQ.out, tAt_tps hkl, mAt_tps hkl, ht, hm, ht']
        have hnew : ¬ ∃ p ∈ qs.take k, p.1 = t' := by
          have := tps_new hx hy HV.out hkl
          rw [HQ.out, ← HQ.out, tAt_tps hkl, HQ.out, ht, ht'] at this
          exact this
        rw [hm] at c1 hmb
        rw [ht] at c0 hst
        have hts : t'.size ≤ maxLen := by have := turnT_short x y t; rw [ht'] at this; unfold maxLen; omega
        have hstep := mapIs_new hMI (hown.tidy lawS).isMap hnew m
        rw [← hqk] at hstep
        have HST := Lib.hid hstep
        have HT := Lib.hid ht'
        clear ht hm ht' hqk hnew hstep hMI
        have WF : (Lit.int .i64 m).wf = true := WalkArith.wf_i64 (by omega)
        have hnb : k < maxLen := by unfold maxLen; omega
        obtain ⟨W, hW⟩ : ∃ W, wr.alloc (.cells #[.string t, .int .i64 m] 36) = W := ⟨_, rfl⟩
        have hBW : Below G w W := by rw [← hW]; exact hB.alloc hGw _
        have e0 : W.cell? ⟨wr.heap.size, 0, none⟩ = some (.string t) := by rw [← hW]; exact World.cell?_alloc_new wr _ _ 0
        have e1 : W.cell? ⟨wr.heap.size, 1, none⟩ = some (.int .i64 m) := by rw [← hW]; exact World.cell?_alloc_new wr _ _ 1
        have hwW : wr.heap.size < W.heap.size := by rw [← hW]; simp
        have hGW : G ≤ W.heap.size := by omega
        have hneM : some wr.heap.size ≠ some M := by intro he; injection he with he; omega
        have HOW : Hid (W.drew.ownsMap Try.prog 9 (plainElem (H := Unit) Try.prog 3) M k D) := by rw [← hW]; exact (hown.alloc _).drew
        go_wp2_with fail
        go_region_held3 (fun w' => w'.cell? ⟨wr.heap.size, 0, none⟩ = some (.string t) ∧ w'.cell? ⟨wr.heap.size, 1, none⟩ = some (.int .i64 m)) (first | exact ⟨e0, e1⟩ | exact ⟨d0, d1'⟩ | exact ⟨g0, g1⟩) (first | (go_at_call 76; refine (turnedText_as t x y t' _ hst HT.out).mono ?_; rintro e w5 ⟨rfl, hb5⟩; have d0 : w5.cell? ⟨wr.heap.size, 0, none⟩ = some (.string t) := (hb5.cell (p := ⟨wr.heap.size, 0, none⟩) hwW).trans e0; have d1' : w5.cell? ⟨wr.heap.size, 1, none⟩ = some (.int .i64 m) := (hb5.cell (p := ⟨wr.heap.size, 1, none⟩) hwW).trans e1; obtain ⟨w6, hrun, hown6, hgr6⟩ := (HOW.out.kept (Below.grownBy hb5) (by simp)).update lawS Try.underlying88 hnb (Go.WideMaps.keyOf_string_mk Try.underlying9 hts) (plainElem_int Try.underlying3 WF); have g0 : w6.cell? ⟨wr.heap.size, 0, none⟩ = some (.string t) := (World.cell?_of_block (a := ⟨wr.heap.size, 0, none⟩) (hgr6.block wr.heap.size (Nat.lt_of_lt_of_le hwW hb5.size) hneM)).trans d0; have g1 : w6.cell? ⟨wr.heap.size, 1, none⟩ = some (.int .i64 m) := (World.cell?_of_block (a := ⟨wr.heap.size, 1, none⟩) (hgr6.block wr.heap.size (Nat.lt_of_lt_of_le hwW hb5.size) hneM)).trans d1'))
        have BDw : Below W.heap.size W w5 := (Below.refl _ W).drew.trans hb5
        have B5 : Below G w w5 := hBW.trans (BDw.mono hGW)
        have HO6 := Lib.hid hown6
        have B6 : Below G w w6 := B5.grown hgr6 (by have := B5.size; have := BDw.size; omega) (fun i ei => by cases ei; exact hGM)
        have S6 : M < w6.heap.size := by have := hgr6.size; have := BDw.size; omega
        clear hown6 hgr6 hrun
        go_wp2
        go_roundw
        case rel => exact ⟨k + 1, by omega, by go_num, ⟨_, HO6.out, HST.out⟩, S6, B6⟩
        case measure => simp [intOf]; omega
      · obtain rfl : k = la := by omega
        have hall : qs.take k = tps x y ps := by rw [List.take_of_length_le (by rw [← HQ.out, tps_length, H1.out]; omega)]; exact HQ.out.symm
        rw [hall] at hMI
        have HC := Lib.hid (sortedPiles_any M k D (tps x y ps) wr hown hMI (by omega))
        clear hall hown hMI
        go_wp2_with fail
        refine HC.out.mono ?_
        rintro e1 w6 ⟨ts, g, cap, he, hfacts, hl, ho6, hb6⟩
        have hts := turned_eq hfacts HV.out
        have E3 : Hid (r = ts) := by rw [Hid, hts]; exact e2.out
        subst he
        have B6 := Lib.hid (hBw.trans (hb6.mono hBw.size))
        have O6 := Lib.hid (ho6.mono hBw.size)
        clear hfacts ho6 hb6 HC hts
        go_wp2
        go_ret2
        refine ⟨some ⟨g, 0, none⟩, cap, ?_, ?_, B6.out, fun _ => ⟨_, rfl⟩⟩
        · rw [e.out, E3.out]; rfl
        · rw [E3.out]; exact O6.out

end Go.Proofs.Ytojfpnjnbpeniaa

namespace Go.Proofs.Ytojfpnjnbpeniaa
open Go.RowKit

/-- One of the numbers 0, 99, 100, 95. -/
def p4 (d : Nat) : Int := if d = 0 then 0 else if d = 1 then 99 else if d = 2 then 100 else 95
theorem p4_range (d : Nat) : 0 ≤ p4 d ∧ p4 d ≤ 100 := by unfold p4; split <;> (try split) <;> (try split) <;> omega
theorem p4_cell (w : World) (T : TypeId) (d : Nat) (hd : d < 4) : (w.alloc (.cells #[.int .i64 0, .int .i64 99, .int .i64 100, .int .i64 95] T)).cell? ⟨w.heap.size, d, none⟩ = some (.int .i64 (p4 d)) := by
  rw [World.cell?_alloc_new]
  have : d = 0 ∨ d = 1 ∨ d = 2 ∨ d = 3 := by omega
  rcases this with rfl | rfl | rfl | rfl <;> rfl

end Go.Proofs.Ytojfpnjnbpeniaa

namespace Go.Proofs.Ytojfpnjnbpeniaa
open Go.RowKit

def eqP (xs ys : List Pl) : Bool := decide (xs = ys)
theorem eqP_self (xs : List Pl) : eqP xs xs = true := by simp [eqP]
theorem takeP_step {xs ys : List Pl} {k : Nat} (hx : k < xs.length) (hy : k < ys.length) (h : xs.take k = ys.take k) (ht : tAt xs k = tAt ys k) (hm : mAt xs k = mAt ys k) : xs.take (k + 1) = ys.take (k + 1) := by
  rw [take_one hx, take_one hy, h, ht, hm]
theorem takeP_part {xs ys : List Pl} {k : Nat} (h : ¬ (tAt xs k = tAt ys k ∧ mAt xs k = mAt ys k)) : eqP xs ys = false := by
  simp only [eqP, decide_eq_false_iff_not]
  rintro rfl
  exact h ⟨rfl, rfl⟩

theorem pile_under : Try.prog.underlying 36 = some (.struct (Try.prog.fieldsOf 36)) := by kernel_rfl
theorem pile_stood : Try.prog.stoodInHeld 36 = false := by kernel_rfl
theorem pile_guard : Try.prog.eqGuardType Try.prog.depth 36 = false := by kernel_rfl
theorem text_ne {a b : ByteArray} (h : ¬ a = b) : ¬ a.toList = b.toList := fun e => h (list_text e)

theorem run_neqP (t1 t2 : ByteArray) (m1 m2 : Int) (v : Bool) (hv : (!(decide (t1 = t2) && decide (m1 = m2))) = v) (w : World) : (binOp .neq 36 (.agg #[.string t1, .int .i64 m1]) (.agg #[.string t2, .int .i64 m2])).run Try.prog w = .ok (.bool v) w := by
  subst hv
  rw [run_neq_struct, run_equalIn_agg _ _ _ _ _ pile_under pile_stood]
  simp [go_sem, Program.fieldsOf, Try.underlying36, Try.underlying9, Try.underlying3, Op.eqFields]
  by_cases h : t1 = t2
  · subst h
    by_cases h2 : m1 = m2 <;> simp [h2]
  · simp [text_ne h, h]
theorem run_guardP (x y : Operand) (xs ys : Array Value) (w : World) : (eqGuard .neq 36 x y (.agg xs) (.agg ys)).run Try.prog w = .ok () w := run_eqGuard_agg w .neq _ x y xs ys pile_guard

end Go.Proofs.Ytojfpnjnbpeniaa

namespace Go.Proofs.Ytojfpnjnbpeniaa
open Go.RowKit

theorem l6In_as (n lo hi : Int) (v : Bool) (w : World) (h : inB n lo hi = v) :
    Calls Try.prog 54 #[.int .i64 n, .int .i64 lo, .int .i64 hi] w fun e w' => e = .returned (.bool v) ∧ w = w' := by subst h; exact l6In_any n lo hi w
theorem turn_take {x y : Int} {zs : List Int} {k : Nat} (hk : k < zs.length) {z : Int} (hz : zs[k]?.getD 0 = z) : turnB x y (zs.take (k + 1)) = turnB x y (zs.take k) ++ [swapC x y z] := by
  have e : zs[k] = z := by rw [← hz]; simp [hk]
  rw [List.take_succ_eq_append_getElem hk, e]
  simp [turnB]
theorem ints_snoc (a : List Int) (z : Int) : (a ++ [z]).map (Value.int .i64) = a.map (Value.int .i64) ++ [.int .i64 z] := by simp

theorem specText_as (a : Option Addr) (len cap : Nat) (zs : List Int) (t : ByteArray) (w : World) (h : IsInts w a len cap zs) (ht : txtB zs = t) :
    Calls Try.prog 107 #[.slice a len cap] w fun e w' => e = .returned (.string t) ∧ Dr w w' := by subst ht; exact specText_any a len cap zs w h
theorem mAt_turn {x y : Int} {ps : List Pl} (h : pilesB ps = true) (k i : Nat) : 0 ≤ mAt (mergeL [] ((tps x y ps).take k)) i ∧ mAt (mergeL [] ((tps x y ps).take k)) i ≤ 1000000 := by
  refine mAt_merge (xs := []) rfl (fun p hp => ?_) ?_ i
  · obtain ⟨q, hq, rfl⟩ := List.mem_map.1 (List.mem_of_mem_take hp)
    exact mem_valid h q hq
  · rw [List.length_take, tps_length]; have := (pilesB_pos h).2.2.2.2; omega

end Go.Proofs.Ytojfpnjnbpeniaa

namespace Go.Proofs.Ytojfpnjnbpeniaa
open Go.RowKit

theorem valid_len {ps : List Pl} (h : pilesB ps = true) : ps.length ≤ 12 := (pilesB_pos h).2.2.2.2
theorem addL_cases (ps : List Pl) (t : ByteArray) (m : Int) : addL ps t m = [] ∨ pilesB (addL ps t m) = true := by
  cases h : addB ps t m
  · left; rw [addL, h]; rfl
  · right; exact addL_valid h
theorem joinL_cases (xs ys : List Pl) : joinL xs ys = [] ∨ pilesB (joinL xs ys) = true := by
  cases h : joinB xs ys
  · left; rw [joinL, h]; rfl
  · right; rw [joinL, h]; exact ((joinB_iff xs ys).1 h).2.2
theorem canL_cases (ps : List Pl) (x y : Int) : canL ps x y = [] ∨ pilesB (canL ps x y) = true := by
  cases h : canB ps x y
  · left; rw [canL, h]; rfl
  · right; rw [canL, h]; have := (canB_iff ps x y).1 h; exact turn_valid this.2.1 this.2.2 this.1
theorem small_nil : Small [] := fun i => by simp [tAt]
theorem of_cases {r : List Pl} (h : r = [] ∨ pilesB r = true) : r.length ≤ 12 ∧ Small r := by
  rcases h with rfl | h
  · exact ⟨by simp, small_nil⟩
  · exact ⟨valid_len h, small_valid h⟩
theorem totalL_range (ps : List Pl) : -1 ≤ totalL ps ∧ totalL ps ≤ 13000000 := by
  unfold totalL
  cases h : pilesB ps
  · simp
  · have hm := mAt_wide (mAt_valid h)
    have := sum_bound hm ps.length (Nat.le_refl _)
    rw [List.take_length] at this
    have hl := valid_len h
    simp
    omega
theorem wrap_tot (a b : List Pl) : IntKind.i64.wrap (totalL a + totalL b) = totalL a + totalL b := IntWalk.i64_in _ (by have := totalL_range a; have := totalL_range b; omega)

end Go.Proofs.Ytojfpnjnbpeniaa
