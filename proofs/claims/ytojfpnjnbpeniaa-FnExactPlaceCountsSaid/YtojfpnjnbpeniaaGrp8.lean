/-
  spec.PilesAdd: for lists of piles with an address and texts of at most 1048600 bytes; what it returns is memory of its own.
  Whether piles fit n candidates: spec.l3Fits, for every list of piles (at most 1048600, with texts of at most 1048600 bytes) and every number; it does not write into memory that was there.
  A region that draws its order, whose last operations are one forced order and whose others only read: the others by the cheap steps of a quiet walk, in one world. No function of the seat.
  A list that a call returns with a bool (Told); a block of the call's own is kept. No condition but what each theorem says.
  What the counts of points tell, at every list of piles and every number. Of no memory but what fitsB's text names.
  spec.l14Depth, spec.l14Places, spec.LastCounts, and DepthCounts and PlaceCounts of spec: for every list of piles (at most 1048600, with texts of at most 1048600 bytes) that fit.
-/
import Derived.Test.YtojfpnjnbpeniaaPutL
import Derived.Test.YtojfpnjnbpeniaaGrp7
import Derived.Test.YtojfpnjnbpeniaaGrp6
import Derived.Test.YtojfpnjnbpeniaaGrp2
import Derived.Test.YtojfpnjnbpeniaaGrp1
import Derived.BigQuiet
import Derived.StillTailTactics
import Derived.Test.YtojfpnjnbpeniaaGrp5
import Derived.Deep.Onto
namespace Go.Proofs.Ytojfpnjnbpeniaa
open Go.RowKit

/-- Piles of the call's own, and whether. -/
def GaveP (w : World) (r : List Pl) (ok : Bool) (e : Ending) (w' : World) : Prop :=
  ∃ a cap, e = .returned (.tuple #[.slice a r.length cap, .bool ok]) ∧ w'.ownsRow w.heap.size 36 2 (.slice a r.length cap) r.length (cellsP r) ∧ Below w.heap.size w w' ∧ (ok = true → ∃ g, a = some ⟨g, 0, none⟩)
theorem specPiles_as (a : Option Addr) (len cap : Nat) (ps : List Pl) (v : Bool) (w : World) (h : IsPiles w a len cap ps) (hs : Small ps) (hv : pilesB ps = v) :
    Calls Try.prog 87 #[.slice a len cap] w fun e w' => e = .returned (.bool v) ∧ Below w.heap.size w w' := by subst hv; exact specPiles_any a len cap ps w h hs
theorem Small.put {ps : List Pl} {t : ByteArray} {m : Int} (h : Small ps) (ht : t.size ≤ 1048600) : Small (putL ps t m) := Small.of fun q hq => by
  rcases put_texts q hq with e | ⟨p, hp, e⟩
  · rw [e]; exact ht
  · rw [← e]
    obtain ⟨i, hi, rfl⟩ := List.mem_iff_getElem.1 hp
    have := h i
    unfold tAt at this
    simpa [hi] using this
theorem mAt_valid {ps : List Pl} (h : pilesB ps = true) (i : Nat) : 0 ≤ mAt ps i ∧ mAt ps i ≤ 99 := by
  have hp := pilesB_pos h
  unfold mAt
  cases e : ps[i]? with
  | none => simp
  | some p => have h1 := hp.2.1 p (List.mem_of_getElem? e); have h2 := hp.2.2.1 p (List.mem_of_getElem? e); simp; omega
theorem mAt_wide {ps : List Pl} (h : ∀ i, 0 ≤ mAt ps i ∧ mAt ps i ≤ 99) : ∀ i, 0 ≤ mAt ps i ∧ mAt ps i ≤ 1000000 := fun i => ⟨(h i).1, by have := (h i).2; omega⟩
theorem ret_piles {a a' : Option Addr} {n n' c : Nat} {b b' : Bool} (h : a = a') (hn : n = n') (hb : b = b') : Ending.returned (.tuple #[.slice a n c, .bool b]) = .returned (.tuple #[.slice a' n' c, .bool b']) := by rw [h, hn, hb]
theorem empty_lit (w : World) (T : TypeId) (base : Nat) (h : base ≤ w.heap.size) : (w.alloc (.cells #[] T)).ownsRow base T 2 (.slice (some ⟨w.heap.size, 0, none⟩) 0 0) 0 [] := World.ownsRow_lit (base := base) (e := T) (size := 2) w #[] 0 h (by unfold maxLen; omega) rfl

set_option maxRecDepth 100000 in
set_option maxHeartbeats 4000000 in
/-- **spec.PilesAdd** answers as addL does. -/
theorem specAdd_as (b off len cap : Nat) (ps : List Pl) (t : ByteArray) (m : Int) (r : List Pl) (ok : Bool) (w : World) (h : IsPiles w (some ⟨b, off, none⟩) len cap ps) (hbl : b < w.heap.size) (hs : Small ps) (ht : t.size ≤ 1048600) (hr : addL ps t m = r) (hok : addB ps t m = ok) :
    Calls Try.prog 106 #[.slice (some ⟨b, off, none⟩) len cap, .string t, .int .i64 m] w (GaveP w r ok) := by
  have HI := Lib.hid h
  have HS := Lib.hid hs
  have HR := Lib.hid hr
  have HOK := Lib.hid hok
  have H1 := Lib.hid h.1
  clear h hs hr hok
  go_enter Try.func106, Try.ntmps106
  cases hv : pilesB ps
  · have e : Hid (ok = false) := by rw [Hid, ← HOK.out, addB, hv]; rfl
    have e2 : Hid (r = []) := by rw [Hid, ← HR.out, addL, HOK.out, e.out]; rfl
    have HV := Lib.hid hv; clear hv
    go_wp2_with fail
    refine (specPiles_as _ len cap ps false _ HI.out HS.out HV.out).mono ?_
    rintro e1 w1 ⟨rfl, hb1⟩
    have hsz := hb1.size
    go_wp2
    go_ret2
    refine ⟨some ⟨w1.heap.size, 0, none⟩, 0, ?_, ?_, hb1.alloc hsz _, fun _ => ⟨_, rfl⟩⟩
    · rw [e.out, e2.out]; rfl
    · rw [e2.out]; exact empty_lit w1 _ _ hsz
  · have HV := Lib.hid hv
    cases hp : pileB t m
    · have e : Hid (ok = false) := by rw [Hid, ← HOK.out, addB, hv, hp]; rfl
      have e2 : Hid (r = []) := by rw [Hid, ← HR.out, addL, HOK.out, e.out]; rfl
      have HPB := Lib.hid hp; clear hv hp
      go_wp2_with fail
      refine (specPiles_as _ len cap ps true _ HI.out HS.out HV.out).mono ?_
      rintro e1 w1 ⟨rfl, hb1⟩
      go_wp2_with fail
      refine (l3Pile_as t m false _ ht HPB.out).mono ?_
      rintro e1 w2 ⟨rfl, hb2⟩
      have hB2 := hb1.trans (hb2.mono hb1.size)
      have hsz := hB2.size
      go_wp2
      go_ret2
      refine ⟨some ⟨w2.heap.size, 0, none⟩, 0, ?_, ?_, hB2.alloc hsz _, fun _ => ⟨_, rfl⟩⟩
      · rw [e.out, e2.out]; rfl
      · rw [e2.out]; exact empty_lit w2 _ _ hsz
    · have HPB := Lib.hid hp
      have hm := (pileB_iff t m).1 hp
      have hps := mAt_wide (mAt_valid hv)
      have hlen : len ≤ 12 := by have := (pilesB_pos hv).2.2.2.2; rw [H1.out] at this; exact this
      have HPS := Lib.hid hps
      have hm1 : 0 ≤ m ∧ m ≤ 1000000 := by omega
      obtain ⟨r2, hr2⟩ : ∃ r2, putL ps t m = r2 := ⟨_, rfl⟩
      obtain ⟨v2, hv2⟩ : ∃ v2, pilesB r2 = v2 := ⟨_, rfl⟩
      have HR2 := Lib.hid hr2
      have HV2 := Lib.hid hv2
      have e : Hid (ok = v2) := by rw [Hid, ← HOK.out, addB, hv, hp, hr2, hv2]; rfl
      have hl2 : r2.length ≤ 13 := by have := (put_longer ps t m).2; rw [hr2, H1.out] at this; omega
      have HS2 : Hid (Small r2) := by rw [← hr2]; exact HS.out.put ht
      clear hv hp hps hr2 hv2 hm
      go_wp2_with fail
      refine (specPiles_as _ len cap ps true _ HI.out HS.out HV.out).mono ?_
      rintro e1 w1 ⟨rfl, hb1⟩
      have I1 := Lib.hid (HI.out.below hb1)
      have hbl1 : b < w1.heap.size := Nat.lt_of_lt_of_le hbl hb1.size
      have B1 := Lib.hid hb1; clear hb1
      go_wp2_with fail
      refine (l3Pile_as t m true _ ht HPB.out).mono ?_
      rintro e1 w2 ⟨rfl, hb2⟩
      have I2 := Lib.hid (I1.out.below hb2)
      have hbl2 : b < w2.heap.size := Nat.lt_of_lt_of_le hbl1 hb2.size
      have B2 := Lib.hid (B1.out.trans (hb2.mono B1.out.size)); clear hb2
      go_wp2_with fail
      refine (l3Put_any b off len cap ps t m _ I2.out hbl2 (by omega) HPS.out hm1).mono ?_
      rintro e1 w3 ⟨g, cap', he, ho, hb3⟩
      rw [HR2.out] at he ho
      subst he
      have B3 := Lib.hid (B2.out.trans (hb3.mono B2.out.size))
      have O3 := Lib.hid (ho.mono B2.out.size)
      clear hb3 ho
      go_wp2_with fail
      refine (specPiles_as _ _ _ r2 v2 _ (IsPiles.of_owned O3.out (by omega)) HS2.out HV2.out).mono ?_
      rintro e1 w4 ⟨rfl, hb4⟩
      have O4 := Lib.hid (owns_below O3.out hb4)
      have B4 := Lib.hid (B3.out.trans (hb4.mono B3.out.size)); clear hb4
      cases v2
      · have e2 : Hid (r = []) := by rw [Hid, ← HR.out, addL, HOK.out, e.out]; rfl
        have hsz := B4.out.size
        go_wp2
        go_ret2
        refine ⟨some ⟨w4.heap.size, 0, none⟩, 0, ?_, ?_, B4.out.alloc hsz _, fun _ => ⟨_, rfl⟩⟩
        · rw [e.out, e2.out]; rfl
        · rw [e2.out]; exact empty_lit w4 _ _ hsz
      · have e2 : Hid (r = r2) := by rw [Hid, ← HR.out, addL, HOK.out, e.out, HR2.out]; rfl
        go_wp2
        go_ret2
        refine ⟨some ⟨g, 0, none⟩, cap', ?_, ?_, B4.out, fun _ => ⟨_, rfl⟩⟩
        · rw [e.out, e2.out]; rfl
        · rw [e2.out]; exact O4.out

end Go.Proofs.Ytojfpnjnbpeniaa

namespace Go.Proofs.Ytojfpnjnbpeniaa
open Go.RowKit

attribute [local go_sem] Oper.semAt_some

theorem pile_mem {ps : List Pl} {k : Nat} (h : k < ps.length) : (tAt ps k, mAt ps k) ∈ ps := by
  have : (tAt ps k, mAt ps k) = ps[k] := by simp [tAt, mAt, h]
  rw [this]; exact List.getElem_mem h
theorem fits_no {ps : List Pl} {n : Int} {k : Nat} (hk : k < ps.length) (h : validB (parseL (tAt ps k)) n = false) : fitsB ps n = false := by
  cases hf : fitsB ps n
  · rfl
  · exfalso
    simp only [fitsB, Bool.and_eq_true, List.all_eq_true] at hf
    have hm := pile_mem hk
    have h1 := hf.2.2 _ hm
    have h2 := (pilesB_pos hf.1).2.2.2.1 _ hm
    rw [parseL_ok h2, h1] at h
    cases h
theorem fits_all {ps : List Pl} {n : Int} (h : ∀ i, i < ps.length → validB (parseL (tAt ps i)) n = true) : fitsB ps n = (pilesB ps && inB n 1 5) := by
  unfold fitsB
  cases hp : pilesB ps
  · rfl
  · have e : (ps.all fun p => validB (nums p.1) n) = true := by
      rw [List.all_eq_true]
      intro p hm
      obtain ⟨i, hi, rfl⟩ := List.mem_iff_getElem.1 hm
      have h1 := h i hi
      have h2 := (pilesB_pos hp).2.2.2.1 _ hm
      have e : tAt ps i = (ps[i]).1 := by simp [tAt, hi]
      rw [e, parseL_ok h2] at h1
      exact h1
    rw [e, Bool.and_true]
theorem fits_parts {ps : List Pl} {n : Int} (h : fitsB ps n = true) : pilesB ps = true ∧ 1 ≤ n ∧ n ≤ 5 ∧ ∀ i, i < ps.length → validB (parseL (tAt ps i)) n = true := by
  simp only [fitsB, Bool.and_eq_true, List.all_eq_true] at h
  refine ⟨h.1, ?_, ?_, fun i hi => ?_⟩
  · have := h.2.1; simp [inB] at this; omega
  · have := h.2.1; simp [inB] at this; omega
  · have hm := pile_mem hi
    have h1 := h.2.2 _ hm
    have h2 := (pilesB_pos h.1).2.2.2.1 _ hm
    rw [parseL_ok h2]; exact h1
theorem IsPiles.at_text {w : World} {a : Option Addr} {len cap : Nat} {ps : List Pl} (h : IsPiles w a len cap ps) {k : Nat} (hk : k < len) : ∃ b off, a = some ⟨b, off, none⟩ ∧ b < w.heap.size ∧ w.cell? ⟨b, off + k * 2, none⟩ = some (.string (tAt ps k)) ∧ w.cell? ⟨b, off + k * 2 + 1, none⟩ = some (.int .i64 (mAt ps k)) := by
  obtain ⟨h1, h2, h3, h4⟩ := h
  obtain ⟨b, off, e, hb, hc⟩ := h4 (by omega)
  exact ⟨b, off, e, hb, (hc k hk).1, (hc k hk).2⟩

set_option maxRecDepth 100000 in
set_option maxHeartbeats 2000000 in
/-- **spec.l3Fits**. -/
theorem specFits_as (a : Option Addr) (len cap : Nat) (ps : List Pl) (n : Int) (v : Bool) (w : World) (h : IsPiles w a len cap ps) (hs : Small ps) (hv : fitsB ps n = v) :
    Calls Try.prog 53 #[.slice a len cap, .int .i64 n] w fun e w' => e = .returned (.bool v) ∧ Below w.heap.size w w' := by
  have HI := Lib.hid h
  have HS := Lib.hid hs
  have HV := Lib.hid hv
  have H1 := Lib.hid h.1
  have hlm := h.2.2.1
  clear h hs hv
  obtain ⟨G, hG⟩ : ∃ G, w.heap.size = G := ⟨_, rfl⟩
  go_enter Try.func53, Try.ntmps53
  go_wp2
  go_loopw [5, 6, 7] (fun i _ _ wr => ∃ k : Nat, k ≤ len ∧ i = .int .i64 k ∧ Hid (∀ j, j < k → validB (parseL (tAt ps j)) n = true) ∧ Below G w wr) (fun i _ _ _ => len - (intOf i).toNat)
  case atStart => exact ⟨0, Nat.zero_le _, rfl, fun j hj => by omega, Below.refl _ _⟩
  case round =>
    obtain ⟨k, hk, rfl, hA, hB⟩ := hrel
    have hBw : Below w.heap.size w wr := hG.symm ▸ hB
    by_cases hlt : k < len
    · obtain ⟨b, off, rfl, hb, c0, -⟩ := (HI.out.below hBw).at_text hlt
      obtain ⟨t, ht⟩ : ∃ t, tAt ps k = t := ⟨_, rfl⟩
      obtain ⟨pl, hpl⟩ : ∃ pl, parseL t = pl := ⟨_, rfl⟩
      obtain ⟨u, hu⟩ : ∃ u, validB pl n = u := ⟨_, rfl⟩
      have hst : t.size ≤ 1048600 := by rw [← ht]; exact HS.out k
      have hl5 : pl.length ≤ 5 := by rw [← hpl]; exact parseL_short t
      rw [ht] at c0
      have HT := Lib.hid ht
      have HPL := Lib.hid hpl
      have HU := Lib.hid hu
      clear ht hpl hu hBw
      go_wp2_with fail
      refine (specParse_as t pl _ _ hst HPL.out rfl).mono ?_
      rintro e w3 ⟨a3, c3, rfl, ho3, hb3⟩
      have I3 := Lib.hid (IsInts.of_owned ho3 (by omega))
      have B3 := Lib.hid (hB.trans (hb3.mono (by have := hB.size; rw [hG] at this; exact this)))
      clear ho3 hb3
      go_wp2_with fail
      refine (specValid_any _ _ _ pl n _ I3.out).mono ?_
      rintro e w4 ⟨he, hd⟩
      rw [HU.out] at he
      subst he
      have B4 := Lib.hid (B3.out.trans (hd.below _))
      clear hd
      have HN : Hid (validB (parseL (tAt ps k)) n = u) := by unfold Hid; rw [HT.out, HPL.out, HU.out]
      cases u
      · go_wp2
        go_ret
        exact ⟨ret_bool (by rw [← HV.out]; exact (fits_no (by rw [H1.out]; exact hlt) HN.out).symm), hG.symm ▸ B4.out⟩
      · go_wp2
        go_roundw
        case rel =>
          refine ⟨k + 1, by omega, by go_num, fun j hj => ?_, B4.out⟩
          by_cases e : j = k
          · subst e; exact HN.out
          · exact hA.out j (by omega)
        case measure => simp [intOf]; omega
    · obtain rfl : k = len := by omega
      have HE : Hid (fitsB ps n = (pilesB ps && inB n 1 5)) := fits_all (fun i hi => hA.out i (by rw [← H1.out]; exact hi))
      cases hp : pilesB ps
      · have HP := Lib.hid hp; clear hp
        go_wp2_with fail
        refine (specPiles_as _ _ _ ps false _ (HI.out.below hBw) HS.out HP.out).mono ?_
        rintro e w3 ⟨rfl, hb3⟩
        have B3 := Lib.hid (hB.trans (hb3.mono (by have := hB.size; rw [hG] at this; exact this)))
        clear hb3
        go_wp2
        go_ret
        exact ⟨ret_bool (by rw [← HV.out, HE.out, HP.out]; rfl), hG.symm ▸ B3.out⟩
      · have HP := Lib.hid hp; clear hp
        go_wp2_with fail
        refine (specPiles_as _ _ _ ps true _ (HI.out.below hBw) HS.out HP.out).mono ?_
        rintro e w3 ⟨rfl, hb3⟩
        have B3 := Lib.hid (hB.trans (hb3.mono (by have := hB.size; rw [hG] at this; exact this)))
        clear hb3
        go_wp2_with fail
        refine (l6In_any _ _ _ _).mono ?_
        rintro e w4 ⟨rfl, rfl⟩
        go_wp2
        go_ret
        exact ⟨ret_bool (by rw [← HV.out, HE.out, HP.out]; rfl), hG.symm ▸ B3.out⟩

end Go.Proofs.Ytojfpnjnbpeniaa

namespace Go.Proofs.Ytojfpnjnbpeniaa
open Go.RowKit

theorem still_of_quiet {P : Program} {ops : Array Oper} {w0 : World} {Q : Act → Prop} : ∀ (l : List Oper) (a : Act), wpQuiet P ops (fun w' => w' = w0) Q l a → wpStill P ops w0 Q l a
  | [], _, h => h
  | o :: rest, a, h => by
    have ih := still_of_quiet (P := P) (ops := ops) (w0 := w0) (Q := Q) rest
    simp only [wpQuiet] at h
    simp only [wpStill]
    by_cases hw : Region.wanted o (yielded ops a.tmps) = true
    · rw [if_pos hw] at h ⊢
      obtain ⟨v, h1, h2⟩ := h
      have h3 := h1 w0 rfl
      unfold Oper.quietAt at h3
      unfold Oper.still
      generalize (execOp a.eval o).run P w0 = r at h3
      cases r with
      | ok n w' =>
        cases n <;> simp only [Oper.quietUpon] at h3 <;> simp only [Oper.stillUpon]
        case value u =>
          obtain ⟨e1, e2⟩ := h3
          subst e2
          exact ⟨e1, ih _ h2⟩
        case skip =>
          obtain ⟨e1, e2⟩ := h3
          subst e2
          exact ⟨e1, ih _ h2⟩
        case enter f args =>
          obtain ⟨e1, e2⟩ := h3
          exact ⟨e1, v, e2, ih _ h2⟩
      | halt x w' => simp only [Oper.quietUpon] at h3
    · rw [if_neg hw] at h ⊢
      exact ih _ h

/-- **The others by a quiet walk, then the tail.** -/
theorem region_quiet_tail {P : Program} {id : Nat} {Q : Exit → Act → World → Prop} {a : Act} {w : World} {l : List Oper} (n : Nat) (hm : P.follows .mixedOrders = true) (hB : Region.lexTailB .any l.toArray n = true)
    (h : wpQuiet P l.toArray (fun w' => w' = w.drew) (fun a' => wpList P l.toArray Q (l.drop n) a' w.drew) (l.take n) a) : (Code.region id l.toArray true).wp P Q a w :=
  wp_region_still_tail n hm hB (still_of_quiet _ _ h)

end Go.Proofs.Ytojfpnjnbpeniaa

namespace Go.Proofs.Ytojfpnjnbpeniaa
open Go.RowKit

theorem owns_under {w w' : World} {base n size : Nat} {e : TypeId} {v : Value} {xs : List Value} (h : w.ownsRow base e size v n xs) (hb : Below w.heap.size w w') : w'.ownsRow base e size v n xs := by
  refine h.kept (row := none) ⟨hb.os, hb.tape, hb.output, hb.size, fun k hk _ => hb.block k hk⟩ ?_
  cases v.ownBlock <;> simp

/-- What is told of a list that is returned with a bool. -/
def Told (w : World) (pl : List Int) (ok : Bool) (e : Ending) (w' : World) : Prop := ∃ a cap, e = .returned (.tuple #[.slice a pl.length cap, .bool ok]) ∧ w'.ownsRow w.heap.size 3 1 (.slice a pl.length cap) pl.length (pl.map (Value.int .i64)) ∧ Below w.heap.size w w'

theorem zeros_made (n : Nat) : (madeCells (Value.int .i64 0).cells (n * 1)).toList = (List.replicate n (0 : Int)).map (Value.int .i64) := by
  rw [show (Value.int .i64 0).cells = #[.int .i64 0] from rfl, toList_madeCells_one]; simp
theorem map_set_int (l : List Int) (i : Nat) (z : Int) : (l.map (Value.int .i64)).set i (.int .i64 z) = (l.set i z).map (Value.int .i64) := by rw [List.map_set]

end Go.Proofs.Ytojfpnjnbpeniaa

namespace Go.Proofs.Ytojfpnjnbpeniaa

/-- What a way is worth. -/
def wayP (n number : Nat) (i : Nat) : Int := if number < 6 then depP number i else if number = 6 then plaP n i else lasP n i
theorem wayP_bound {n number : Nat} (hn : n ≤ 5) : ∀ i, i < n → 0 ≤ wayP n number i ∧ wayP n number i ≤ 5 := by
  intro i hi
  unfold wayP
  split
  · exact depP_bound _ _ i hi
  · split
    · exact plaP_bound hn i hi
    · exact lasP_bound _ i hi
/-- What is told of a way. -/
def ptR (number : Nat) (ps : List Pl) (n : Int) : List Int := if fitsB ps n = true then ptL (wayP n.toNat number) ps n.toNat else []
theorem ptR_yes {number n : Nat} {ps : List Pl} (h : fitsB ps (n : Int) = true) : ptR number ps (n : Int) = ptL (wayP n number) ps n := by rw [ptR, if_pos h, Int.toNat_natCast]
theorem ptR_no {number : Nat} {n : Int} {ps : List Pl} (h : fitsB ps n = false) : ptR number ps n = [] := by rw [ptR, if_neg (by rw [h]; decide)]

/-- What DepthCounts tells. -/
def depOk (ps : List Pl) (n d : Int) : Bool := fitsB ps n && inB d 0 5
def depR (ps : List Pl) (n d : Int) : List Int := if depOk ps n d = true then depL ps n.toNat d.toNat else []
theorem depR_no {ps : List Pl} {n d : Int} (h : depOk ps n d = false) : depR ps n d = [] := by rw [depR, if_neg (by rw [h]; decide)]
theorem depOk_out {ps : List Pl} {n d : Int} (h : d < 0 ∨ 5 < d) : depOk ps n d = false := by
  have : inB d 0 5 = false := by unfold inB; exact decide_eq_false (by omega)
  rw [depOk, this, Bool.and_false]
theorem depOk_in {ps : List Pl} {n d : Int} (h0 : 0 ≤ d) (h5 : d ≤ 5) : depOk ps n d = fitsB ps n := by
  have : inB d 0 5 = true := by unfold inB; exact decide_eq_true (by omega)
  rw [depOk, this, Bool.and_true]
theorem depR_in {ps : List Pl} {n : Int} {d : Nat} (h5 : d ≤ 5) : depR ps n (d : Int) = ptR d ps n := by
  rw [depR, depOk_in (by omega) (by omega), ptR]
  have : wayP n.toNat d = depP d := by funext i; unfold wayP; rw [if_pos (by omega)]
  rw [this, ← dep_pts, Int.toNat_natCast]
/-- What PlaceCounts and LastCounts tell. -/
def plaR (ps : List Pl) (n : Int) : List Int := if fitsB ps n = true then plaL ps n.toNat else []
def lasR (ps : List Pl) (n : Int) : List Int := if fitsB ps n = true then lasL ps n.toNat else []
theorem plaR_pts (ps : List Pl) (n : Int) : plaR ps n = ptR 6 ps n := by
  have : wayP n.toNat 6 = plaP n.toNat := by funext i; unfold wayP; rw [if_neg (by omega), if_pos rfl]
  rw [plaR, ptR, this, pla_pts]
theorem lasR_pts (ps : List Pl) (n : Int) : lasR ps n = ptR 7 ps n := by
  have : wayP n.toNat 7 = lasP n.toNat := by funext i; unfold wayP; rw [if_neg (by omega), if_neg (by omega)]
  rw [lasR, ptR, this]
  cases hf : fitsB ps n
  · rfl
  · obtain ⟨hp, hn1, hn5, -⟩ := fits_parts hf
    rw [if_pos rfl, if_pos rfl, las_pts (by omega)]
    intro p hm
    have := (fits_both hf).2 p hm
    rw [parseL_ok this.1, Int.toNat_of_nonneg (by omega)]
    exact this.2
end Go.Proofs.Ytojfpnjnbpeniaa

namespace Go.Proofs.Ytojfpnjnbpeniaa
open Go.RowKit

attribute [local go_sem] Oper.semAt_some

set_option maxRecDepth 100000 in
set_option maxHeartbeats 4000000 in
/-- **spec.l14Depth**. -/
theorem specDepth0_as (a : Option Addr) (len cap : Nat) (ps : List Pl) (N : Nat) (d : Nat) (w : World) (h : IsPiles w a len cap ps) (hs : Small ps) (hv : fitsB ps (N : Int) = true) :
    Calls Try.prog 55 #[.slice a len cap, .int .i64 (N : Int), .int .i64 (d : Int)] w fun e w' => ∃ g, e = .returned (.slice (some ⟨g, 0, none⟩) N N) ∧ w'.ownsRow w.heap.size 3 1 (.slice (some ⟨g, 0, none⟩) N N) N ((ptL (depP d) ps N).map (Value.int .i64)) ∧ Below w.heap.size w w' := by
  obtain ⟨i0, hi, hz0, hz1, hz2⟩ := info_parts int_info
  have HI := Lib.hid h
  have HS := Lib.hid hs
  have H1 := Lib.hid h.1
  obtain ⟨hp, hn1, hn5, -⟩ := fits_parts hv
  have hl12 : len ≤ 12 := by have := (pilesB_pos hp).2.2.2.2; rw [H1.out] at this; exact this
  have HV := Lib.hid hv
  have HP := Lib.hid hp
  have hN1 : 1 ≤ N := by omega
  have hN5 : N ≤ 5 := by omega
  have HPB : Hid (∀ i, i < N → 0 ≤ (depP d) i ∧ (depP d) i ≤ 5) := depP_bound d N
  clear h hs hv hp
  obtain ⟨g, hg⟩ : ∃ g, w.heap.size = g := ⟨_, rfl⟩
  go_enter Try.func55, Try.ntmps55
  go_wp2_with (at_make; refine wpList_make_full _ rfl _ _ 26 rfl w.heap.size 3 i0 (.int .i64 0) 1 Try.underlying26 hi hz0 hz1 .i64 .i64 _ _ N rfl rfl rfl rfl (by rw [hz2]; omega) (by unfold maxLen; omega) (Nat.le_refl _) ?_; intro w3 hown hgrow)
  have hb3 : Below g w w3 := hg ▸ (Below.refl _ w).grown hgrow (Nat.le_refl _) (fun k e => by cases e)
  rw [hg] at hown
  have O3 : Hid (w3.ownsRow g 3 1 (.slice (some ⟨g, 0, none⟩) N N) N ((ptL (depP d) (ps.take 0) N).map (Value.int .i64))) := by
    unfold Hid; rw [List.take_zero, ptL_nil, ← zeros_made]
    exact hown
  have HG := Lib.hid hg
  clear hown hgrow hg hi hz0 hz1 hz2
  go_wp2
  go_loopw [8, 9, 10, 11] (fun iv _ _ _ wr => ∃ i : Nat, i ≤ len ∧ iv = .int .i64 (i : Int) ∧ Hid (wr.ownsRow g 3 1 (.slice (some ⟨g, 0, none⟩) N N) N ((ptL (depP d) (ps.take i) N).map (Value.int .i64))) ∧ Below g w wr) (fun iv _ _ _ _ => len - (intOf iv).toNat)
  case atStart => exact ⟨0, Nat.zero_le _, rfl, O3, hb3⟩
  case round =>
    clear O3 hb3
    obtain ⟨i, hil, rfl, hO, hB⟩ := hrel
    have hgr : g ≤ wr.heap.size := by have := hB.size; rw [HG.out] at this; exact this
    have hBw : Below w.heap.size w wr := HG.out.symm ▸ hB
    by_cases hlt : i < len
    · obtain ⟨b, off, rfl, hb, c0, c1⟩ := (HI.out.below hBw).at_text hlt
      have hbw : b < w.heap.size := by
        obtain ⟨b', off', e, hb', -⟩ := HI.out.at_text hlt
        injection e with e
        injection e with e
        omega
      obtain ⟨t, ht⟩ : ∃ t, tAt ps i = t := ⟨_, rfl⟩
      obtain ⟨m, hm⟩ : ∃ m, mAt ps i = m := ⟨_, rfl⟩
      obtain ⟨pl, hpl⟩ : ∃ pl, parseL t = pl := ⟨_, rfl⟩
      have hst : t.size ≤ 1048600 := by rw [← ht]; exact HS.out i
      have hm99 : 0 ≤ m ∧ m ≤ 99 := by rw [← hm]; exact mAt_valid HP.out i
      have hips : i < ps.length := by rw [H1.out]; exact hlt
      have hvN : validB pl (N : Int) = true := by rw [← hpl, ← ht]; exact (fits_parts HV.out).2.2.2 i hips
      have hlN : pl.length ≤ N := by have := vB_short hvN; omega
      have HNX : Hid (addTo (depP d) m pl pl.length (ptL (depP d) (ps.take i) N) = ptL (depP d) (ps.take (i + 1)) N) := by
        have := ptL_next (P := (depP d)) (n := N) hips (by rw [ht, hpl]; exact hvN)
        rw [ht, hm, hpl] at this; exact this
      have HBD : Hid (∀ x : Nat, 0 ≤ (ptL (depP d) (ps.take i) N)[x]?.getD 0 ∧ (ptL (depP d) (ps.take i) N)[x]?.getD 0 ≤ 5940) := fun x => ptL_bound HPB.out HV.out i x
      have HZ : Hid (∀ z ∈ pl, 0 ≤ z ∧ z < (N : Int)) := (vB_mem hvN).2.2
      obtain ⟨cs, hcs⟩ : ∃ cs, ptL (depP d) (ps.take i) N = cs := ⟨_, rfl⟩
      have hcl : cs.length = N := by rw [← hcs]; exact ptL_length _ _ _
      rw [hcs] at hO HNX HBD
      rw [ht] at c0
      rw [hm] at c1
      have HPL := Lib.hid hpl
      clear ht hpl hm hBw hcs hips hvN
      go_wp2_with fail
      refine (specParse_as t pl _ _ hst HPL.out rfl).mono ?_
      rintro e w4 ⟨a4, c4, rfl, ho4, hb4⟩
      have cm : w4.cell? ⟨b, off + i * 2 + 1, none⟩ = some (.int .i64 m) := (hb4.cell (p := ⟨b, off + i * 2 + 1, none⟩) hb).trans c1
      have hO4 : Hid (w4.ownsRow g 3 1 (.slice (some ⟨g, 0, none⟩) N N) N ((addTo (depP d) m pl 0 cs).map (Value.int .i64))) := owns_under hO.out hb4
      have hgl : g < wr.heap.size := (hO.out.lt g rfl).2
      have B4 : Below g w w4 := hB.trans (hb4.mono hgr)
      have I4' : w4.ownsRow (g + 1) 3 1 (.slice a4 pl.length c4) pl.length (pl.map (Value.int .i64)) := ho4.mono (by omega)
      have I4 := Lib.hid I4'
      have hbg : b < g := by rw [← HG.out]; exact hbw
      clear ho4 hb4 hO hB c0 c1 hgr I4' hb
      go_wp2
      go_loopw [11] (fun jv wr => ∃ j : Nat, j ≤ pl.length ∧ jv = .int .i64 (j : Int) ∧ j ≤ d ∧ Hid (wr.ownsRow g 3 1 (.slice (some ⟨g, 0, none⟩) N N) N ((addTo (depP d) m pl j cs).map (Value.int .i64))) ∧ Hid (wr.ownsRow (g + 1) 3 1 (.slice a4 pl.length c4) pl.length (pl.map (Value.int .i64))) ∧ Hid (wr.cell? ⟨b, off + i * 2 + 1, none⟩ = some (.int .i64 m)) ∧ Below g w wr) (fun jv _ => pl.length - (intOf jv).toNat)
      case atStart => exact ⟨0, Nat.zero_le _, rfl, Nat.zero_le _, hO4, I4, cm, B4⟩
      case round =>
        clear hO4 I4 cm B4
        rename World => wx
        obtain ⟨j, hjl, rfl, hjd0, hO, hI, hm1, hB⟩ := hrel
        by_cases hlj : j < pl.length
        · by_cases hjd : j < d
          · have hjdi : (j : Int) < (d : Int) := by omega
            obtain ⟨b4, o4, rfl, -, hc4⟩ := (IsInts.of_owned hI.out (by omega)).2.2.2 (by omega)
            have hz := hc4 j hlj
            obtain ⟨z, hzz⟩ : ∃ z, pl[j]?.getD 0 = z := ⟨_, rfl⟩
            rw [hzz] at hz
            have hzr : 0 ≤ z ∧ z < (N : Int) := HZ.out z (by rw [← hzz]; simp [hlj])
            obtain ⟨x, rfl⟩ := Int.eq_ofNat_of_zero_le hzr.1
            have hxN : x < N := by omega
            obtain ⟨cv, hcv⟩ : ∃ cv, (addTo (depP d) m pl j cs)[x]?.getD 0 = cv := ⟨_, rfl⟩
            have hcvb : 0 ≤ cv ∧ cv ≤ 8415 := by
              have := addTo_bound (zs := pl) hm99 HPB.out HBD.out j (by omega) x
              rw [hcv] at this; omega
            have hval : m * depP d j = m := by unfold depP; rw [if_pos hjd, Int.mul_one]
            have hcell : wx.drew.cell? ⟨g, x, none⟩ = some (.int .i64 cv) := by
              have h1 : wx.drew.cell? ⟨g, x, none⟩ = wx.cell? ⟨g, x, none⟩ := rfl
              rw [h1, hO.out.cellAt x (by omega), ← hcv]
              have : x < (addTo (depP d) m pl j cs).length := by rw [addTo_length]; omega
              simp [this]
            have hcell0 : wx.cell? ⟨g, x, none⟩ = some (.int .i64 cv) := hcell
            have hfz : wx.drew.frozen? ⟨g, x, none⟩ = false := hO.out.frozenAt x
            have O7 : Hid ((wx.drew.setCell ⟨g, x, none⟩ (.int .i64 (cv + m))).ownsRow g 3 1 (.slice (some ⟨g, 0, none⟩) N N) N ((addTo (depP d) m pl (j + 1) cs).map (Value.int .i64))) := by
              have h1 := (hO.out.stored x (.int .i64 (cv + m))).1
              unfold Hid
              rw [addTo_succ, hzz, Int.toNat_natCast, hcv, hval, ← map_set_int]
              exact h1
            have I7 : Hid ((wx.drew.setCell ⟨g, x, none⟩ (.int .i64 (cv + m))).ownsRow (g + 1) 3 1 (.slice (some ⟨b4, o4, none⟩) pl.length c4) pl.length (pl.map (Value.int .i64))) := by
              refine World.ownsRow.kept hI.out (row := some g) (w' := wx.drew.setCell ⟨g, x, none⟩ (.int .i64 (cv + m))) ⟨rfl, rfl, rfl, by simp [World.setCell], fun k hk hne => Below.heap_setCell _ _ _ _ (by show k ≠ g; intro e; exact hne (by rw [e]))⟩ ?_
              cases hbl : (Value.slice (some ⟨b4, o4, none⟩) pl.length c4).ownBlock with
              | none => exact .inl rfl
              | some jj => right; intro e; injection e with e; have := (hI.out.lt jj hbl).1; omega
            have M7 : Hid ((wx.drew.setCell ⟨g, x, none⟩ (.int .i64 (cv + m))).cell? ⟨b, off + i * 2 + 1, none⟩ = some (.int .i64 m)) := by
              unfold Hid
              rw [World.cell?_setCell_other _ _ _ _ (by intro e; injection e with e _; omega)]
              exact hm1.out
            have B7 : Below g w (wx.drew.setCell ⟨g, x, none⟩ (.int .i64 (cv + m))) := (hB.drew).setCell (p := ⟨g, x, none⟩) (Nat.le_refl _) _
            have hm2 := hm1.out
            have hxi : (x : Int) < (N : Int) := by omega
            have hji : (j : Int) < (pl.length : Int) := by omega
            clear hc4 hcv hzz hO hI hm1 hval
            go_wp2_with fail
            refine region_quiet_tail 18 (by kernel_rfl) (by kernel_rfl) ?_
            simp only [List.take_succ_cons, List.take_zero, List.drop_succ_cons, List.drop_zero]
            repeat (go_big_quiet_step (fail))
            refine wpQuiet_nil ?_
            generalize wx.drew = w6 at O7 I7 M7 B7 hcell hfz ⊢
            go_wp2
            go_roundw
            case rel => exact ⟨j + 1, by omega, by go_num, by omega, O7, I7, M7, B7⟩
            case measure => simp [intOf]; omega
          · have hjdi : ¬ (j : Int) < (d : Int) := by omega
            have hji : (j : Int) < (pl.length : Int) := by omega
            have hO9 : wx.ownsRow g 3 1 (.slice (some ⟨g, 0, none⟩) N N) N ((ptL (depP d) (ps.take (i + 1)) N).map (Value.int .i64)) := by
              have h1 := hO.out
              have h2 : addTo (depP d) m pl pl.length cs = addTo (depP d) m pl j cs := by
                rw [addTo_stop (d := d) (fun k hk => by unfold depP; rw [if_neg (by omega)]) cs pl.length (by omega), addTo_stop (d := d) (fun k hk => by unfold depP; rw [if_neg (by omega)]) cs j (by omega)]
              rw [← h2, HNX.out] at h1
              exact h1
            have hO8 := Lib.hid hO9
            clear hO9 hO
            go_wp2
            go_roundw
            case rel => exact ⟨i + 1, by omega, by go_num, hO8, hB⟩
            case measure => simp [intOf]; omega
        · obtain rfl : j = pl.length := by omega
          have hO9 := hO.out
          rw [HNX.out] at hO9
          have hO8 := Lib.hid hO9
          clear hO9
          go_wp2
          go_roundw
          case rel => exact ⟨i + 1, by omega, by go_num, hO8, hB⟩
          case measure => simp [intOf]; omega
    · obtain rfl : i = len := by omega
      have hO9 : Hid (wr.ownsRow g 3 1 (.slice (some ⟨g, 0, none⟩) N N) N ((ptL (depP d) ps N).map (Value.int .i64))) := by
        have := hO.out; rw [List.take_of_length_le (by rw [H1.out]; exact Nat.le_refl _)] at this; exact this
      go_wp2
      go_ret
      exact ⟨g, rfl, HG.out.symm ▸ hO9.out, hBw⟩

set_option maxRecDepth 100000 in
set_option maxHeartbeats 4000000 in
/-- **spec.l14Places**. -/
theorem specPlace0_as (a : Option Addr) (len cap : Nat) (ps : List Pl) (N : Nat) (w : World) (h : IsPiles w a len cap ps) (hs : Small ps) (hv : fitsB ps (N : Int) = true) :
    Calls Try.prog 70 #[.slice a len cap, .int .i64 (N : Int)] w fun e w' => ∃ g, e = .returned (.slice (some ⟨g, 0, none⟩) N N) ∧ w'.ownsRow w.heap.size 3 1 (.slice (some ⟨g, 0, none⟩) N N) N ((ptL (plaP N) ps N).map (Value.int .i64)) ∧ Below w.heap.size w w' := by
  obtain ⟨i0, hi, hz0, hz1, hz2⟩ := info_parts int_info
  have HI := Lib.hid h
  have HS := Lib.hid hs
  have H1 := Lib.hid h.1
  obtain ⟨hp, hn1, hn5, -⟩ := fits_parts hv
  have hl12 : len ≤ 12 := by have := (pilesB_pos hp).2.2.2.2; rw [H1.out] at this; exact this
  have HV := Lib.hid hv
  have HP := Lib.hid hp
  have hN1 : 1 ≤ N := by omega
  have hN5 : N ≤ 5 := by omega
  have HPB : Hid (∀ i, i < N → 0 ≤ (plaP N) i ∧ (plaP N) i ≤ 5) := plaP_bound hN5
  clear h hs hv hp
  obtain ⟨g, hg⟩ : ∃ g, w.heap.size = g := ⟨_, rfl⟩
  go_enter Try.func70, Try.ntmps70
  go_wp2_with (at_make; refine wpList_make_full _ rfl _ _ 26 rfl w.heap.size 3 i0 (.int .i64 0) 1 Try.underlying26 hi hz0 hz1 .i64 .i64 _ _ N rfl rfl rfl rfl (by rw [hz2]; omega) (by unfold maxLen; omega) (Nat.le_refl _) ?_; intro w3 hown hgrow)
  have hb3 : Below g w w3 := hg ▸ (Below.refl _ w).grown hgrow (Nat.le_refl _) (fun k e => by cases e)
  rw [hg] at hown
  have O3 : Hid (w3.ownsRow g 3 1 (.slice (some ⟨g, 0, none⟩) N N) N ((ptL (plaP N) (ps.take 0) N).map (Value.int .i64))) := by
    unfold Hid; rw [List.take_zero, ptL_nil, ← zeros_made]
    exact hown
  have HG := Lib.hid hg
  clear hown hgrow hg hi hz0 hz1 hz2
  go_wp2
  go_loopw [6, 7, 8, 9] (fun iv _ _ _ wr => ∃ i : Nat, i ≤ len ∧ iv = .int .i64 (i : Int) ∧ Hid (wr.ownsRow g 3 1 (.slice (some ⟨g, 0, none⟩) N N) N ((ptL (plaP N) (ps.take i) N).map (Value.int .i64))) ∧ Below g w wr) (fun iv _ _ _ _ => len - (intOf iv).toNat)
  case atStart => exact ⟨0, Nat.zero_le _, rfl, O3, hb3⟩
  case round =>
    clear O3 hb3
    obtain ⟨i, hil, rfl, hO, hB⟩ := hrel
    have hgr : g ≤ wr.heap.size := by have := hB.size; rw [HG.out] at this; exact this
    have hBw : Below w.heap.size w wr := HG.out.symm ▸ hB
    by_cases hlt : i < len
    · obtain ⟨b, off, rfl, hb, c0, c1⟩ := (HI.out.below hBw).at_text hlt
      have hbw : b < w.heap.size := by
        obtain ⟨b', off', e, hb', -⟩ := HI.out.at_text hlt
        injection e with e
        injection e with e
        omega
      obtain ⟨t, ht⟩ : ∃ t, tAt ps i = t := ⟨_, rfl⟩
      obtain ⟨m, hm⟩ : ∃ m, mAt ps i = m := ⟨_, rfl⟩
      obtain ⟨pl, hpl⟩ : ∃ pl, parseL t = pl := ⟨_, rfl⟩
      have hst : t.size ≤ 1048600 := by rw [← ht]; exact HS.out i
      have hm99 : 0 ≤ m ∧ m ≤ 99 := by rw [← hm]; exact mAt_valid HP.out i
      have hips : i < ps.length := by rw [H1.out]; exact hlt
      have hvN : validB pl (N : Int) = true := by rw [← hpl, ← ht]; exact (fits_parts HV.out).2.2.2 i hips
      have hlN : pl.length ≤ N := by have := vB_short hvN; omega
      have HNX : Hid (addTo (plaP N) m pl pl.length (ptL (plaP N) (ps.take i) N) = ptL (plaP N) (ps.take (i + 1)) N) := by
        have := ptL_next (P := (plaP N)) (n := N) hips (by rw [ht, hpl]; exact hvN)
        rw [ht, hm, hpl] at this; exact this
      have HBD : Hid (∀ x : Nat, 0 ≤ (ptL (plaP N) (ps.take i) N)[x]?.getD 0 ∧ (ptL (plaP N) (ps.take i) N)[x]?.getD 0 ≤ 5940) := fun x => ptL_bound HPB.out HV.out i x
      have HZ : Hid (∀ z ∈ pl, 0 ≤ z ∧ z < (N : Int)) := (vB_mem hvN).2.2
      obtain ⟨cs, hcs⟩ : ∃ cs, ptL (plaP N) (ps.take i) N = cs := ⟨_, rfl⟩
      have hcl : cs.length = N := by rw [← hcs]; exact ptL_length _ _ _
      rw [hcs] at hO HNX HBD
      rw [ht] at c0
      rw [hm] at c1
      have HPL := Lib.hid hpl
      clear ht hpl hm hBw hcs hips hvN
      go_wp2_with fail
      refine (specParse_as t pl _ _ hst HPL.out rfl).mono ?_
      rintro e w4 ⟨a4, c4, rfl, ho4, hb4⟩
      have cm : w4.cell? ⟨b, off + i * 2 + 1, none⟩ = some (.int .i64 m) := (hb4.cell (p := ⟨b, off + i * 2 + 1, none⟩) hb).trans c1
      have hO4 : Hid (w4.ownsRow g 3 1 (.slice (some ⟨g, 0, none⟩) N N) N ((addTo (plaP N) m pl 0 cs).map (Value.int .i64))) := owns_under hO.out hb4
      have hgl : g < wr.heap.size := (hO.out.lt g rfl).2
      have B4 : Below g w w4 := hB.trans (hb4.mono hgr)
      have I4' : w4.ownsRow (g + 1) 3 1 (.slice a4 pl.length c4) pl.length (pl.map (Value.int .i64)) := ho4.mono (by omega)
      have I4 := Lib.hid I4'
      have hbg : b < g := by rw [← HG.out]; exact hbw
      clear ho4 hb4 hO hB c0 c1 hgr I4' hb
      go_wp2
      go_loopw [9] (fun jv wr => ∃ j : Nat, j ≤ pl.length ∧ jv = .int .i64 (j : Int) ∧ Hid (wr.ownsRow g 3 1 (.slice (some ⟨g, 0, none⟩) N N) N ((addTo (plaP N) m pl j cs).map (Value.int .i64))) ∧ Hid (wr.ownsRow (g + 1) 3 1 (.slice a4 pl.length c4) pl.length (pl.map (Value.int .i64))) ∧ Hid (wr.cell? ⟨b, off + i * 2 + 1, none⟩ = some (.int .i64 m)) ∧ Below g w wr) (fun jv _ => pl.length - (intOf jv).toNat)
      case atStart => exact ⟨0, Nat.zero_le _, rfl, hO4, I4, cm, B4⟩
      case round =>
        clear hO4 I4 cm B4
        rename World => wx
        obtain ⟨j, hjl, rfl, hO, hI, hm1, hB⟩ := hrel
        by_cases hlj : j < pl.length
        · skip
          obtain ⟨b4, o4, rfl, -, hc4⟩ := (IsInts.of_owned hI.out (by omega)).2.2.2 (by omega)
          have hz := hc4 j hlj
          obtain ⟨z, hzz⟩ : ∃ z, pl[j]?.getD 0 = z := ⟨_, rfl⟩
          rw [hzz] at hz
          have hzr : 0 ≤ z ∧ z < (N : Int) := HZ.out z (by rw [← hzz]; simp [hlj])
          obtain ⟨x, rfl⟩ := Int.eq_ofNat_of_zero_le hzr.1
          have hxN : x < N := by omega
          obtain ⟨cv, hcv⟩ : ∃ cv, (addTo (plaP N) m pl j cs)[x]?.getD 0 = cv := ⟨_, rfl⟩
          have hcvb : 0 ≤ cv ∧ cv ≤ 8415 := by
            have := addTo_bound (zs := pl) hm99 HPB.out HBD.out j (by omega) x
            rw [hcv] at this; omega
          have hqb : 0 ≤ plaP N j ∧ plaP N j ≤ 5 := HPB.out j (by omega)
          have hval : m * plaP N j = m * ((N : Int) - 1 - (j : Int)) := rfl
          have hmq : 0 ≤ m * ((N : Int) - 1 - (j : Int)) ∧ m * ((N : Int) - 1 - (j : Int)) ≤ 495 := ⟨Int.mul_nonneg hm99.1 hqb.1, Int.le_trans (Int.mul_le_mul hm99.2 hqb.2 hqb.1 (by omega)) (by omega)⟩
          have hcell : wx.drew.cell? ⟨g, x, none⟩ = some (.int .i64 cv) := by
            have h1 : wx.drew.cell? ⟨g, x, none⟩ = wx.cell? ⟨g, x, none⟩ := rfl
            rw [h1, hO.out.cellAt x (by omega), ← hcv]
            have : x < (addTo (plaP N) m pl j cs).length := by rw [addTo_length]; omega
            simp [this]
          have hcell0 : wx.cell? ⟨g, x, none⟩ = some (.int .i64 cv) := hcell
          have hfz : wx.drew.frozen? ⟨g, x, none⟩ = false := hO.out.frozenAt x
          have O7 : Hid ((wx.drew.setCell ⟨g, x, none⟩ (.int .i64 (cv + m * ((N : Int) - 1 - (j : Int))))).ownsRow g 3 1 (.slice (some ⟨g, 0, none⟩) N N) N ((addTo (plaP N) m pl (j + 1) cs).map (Value.int .i64))) := by
            have h1 := (hO.out.stored x (.int .i64 (cv + m * ((N : Int) - 1 - (j : Int))))).1
            unfold Hid
            rw [addTo_succ, hzz, Int.toNat_natCast, hcv, hval, ← map_set_int]
            exact h1
          have I7 : Hid ((wx.drew.setCell ⟨g, x, none⟩ (.int .i64 (cv + m * ((N : Int) - 1 - (j : Int))))).ownsRow (g + 1) 3 1 (.slice (some ⟨b4, o4, none⟩) pl.length c4) pl.length (pl.map (Value.int .i64))) := by
            refine World.ownsRow.kept hI.out (row := some g) (w' := wx.drew.setCell ⟨g, x, none⟩ (.int .i64 (cv + m * ((N : Int) - 1 - (j : Int))))) ⟨rfl, rfl, rfl, by simp [World.setCell], fun k hk hne => Below.heap_setCell _ _ _ _ (by show k ≠ g; intro e; exact hne (by rw [e]))⟩ ?_
            cases hbl : (Value.slice (some ⟨b4, o4, none⟩) pl.length c4).ownBlock with
            | none => exact .inl rfl
            | some jj => right; intro e; injection e with e; have := (hI.out.lt jj hbl).1; omega
          have M7 : Hid ((wx.drew.setCell ⟨g, x, none⟩ (.int .i64 (cv + m * ((N : Int) - 1 - (j : Int))))).cell? ⟨b, off + i * 2 + 1, none⟩ = some (.int .i64 m)) := by
            unfold Hid
            rw [World.cell?_setCell_other _ _ _ _ (by intro e; injection e with e _; omega)]
            exact hm1.out
          have B7 : Below g w (wx.drew.setCell ⟨g, x, none⟩ (.int .i64 (cv + m * ((N : Int) - 1 - (j : Int))))) := (hB.drew).setCell (p := ⟨g, x, none⟩) (Nat.le_refl _) _
          have hm2 := hm1.out
          have hxi : (x : Int) < (N : Int) := by omega
          have hji : (j : Int) < (pl.length : Int) := by omega
          clear hc4 hcv hzz hO hI hm1 hval
          go_wp2_with fail
          refine region_quiet_tail 23 (by kernel_rfl) (by kernel_rfl) ?_
          simp only [List.take_succ_cons, List.take_zero, List.drop_succ_cons, List.drop_zero]
          repeat (go_big_quiet_step (fail))
          refine wpQuiet_nil ?_
          generalize wx.drew = w6 at O7 I7 M7 B7 hcell hfz ⊢
          go_wp2
          go_roundw
          case rel => exact ⟨j + 1, by omega, by go_num, O7, I7, M7, B7⟩
          case measure => simp [intOf]; omega
        · obtain rfl : j = pl.length := by omega
          have hO9 := hO.out
          rw [HNX.out] at hO9
          have hO8 := Lib.hid hO9
          clear hO9
          go_wp2
          go_roundw
          case rel => exact ⟨i + 1, by omega, by go_num, hO8, hB⟩
          case measure => simp [intOf]; omega
    · obtain rfl : i = len := by omega
      have hO9 : Hid (wr.ownsRow g 3 1 (.slice (some ⟨g, 0, none⟩) N N) N ((ptL (plaP N) ps N).map (Value.int .i64))) := by
        have := hO.out; rw [List.take_of_length_le (by rw [H1.out]; exact Nat.le_refl _)] at this; exact this
      go_wp2
      go_ret
      exact ⟨g, rfl, HG.out.symm ▸ hO9.out, hBw⟩

end Go.Proofs.Ytojfpnjnbpeniaa
