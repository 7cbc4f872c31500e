/-
  spec.PilesAdd: for lists of piles with an address and texts of at most 1048600 bytes; what it returns is memory of its own.
  spec.PilesMerge, spec.l3Total, spec.PilesTotal: for lists of piles with texts of at most 1048600 bytes; what PilesMerge returns is memory of its own.
  l91Piles: the reader draws piles: some list of at most 13 piles, with texts of at most 1048600 bytes and numbers from 0 to 100, in memory of its own.
  What the drawn statements of piles get: DrawPilesValid, DrawPilesTotal, DrawPilesMerge, DrawPilesTurn, DrawPilesAdd.
  The statements' own small functions (toIntS, eqIntS, toBoolS, eqBoolS, markIntS, heldIntS): what each returns, and that it writes only into memory of its own. No condition but what each theorem says.
  The statements' own small functions at bools (toBoolS, eqBoolS): what each returns, and that it writes only into memory of its own. No condition but what each theorem says.
  Who has left, drawn (l91Left): a new slice of bools; the reader has gone on. No condition but what each theorem says.
  What the drawn statements of first counts get: some list of at most 13 piles, and who has left (at most 10). DrawFirstCounts.
  A list that a call returns with a bool (Told); a block of the call's own is kept. No condition but what each theorem says.
-/
import Derived.Test.YtgkakgibgfehaaaPutL
import Derived.Test.YtgkakgibgfehaaaSh8
import Derived.StillTailTactics
import Derived.Maps.RangeWalk
import Derived.Test.YtgkakgibgfehaaaDrawB
import Derived.Deep.RegionLaw
import Derived.Deep.AppendLies
import Derived.Test.YtgkakgibgfehaaaSh5
import Derived.Laws.OwnMore
import Derived.OwnWalk
import Derived.Test.YtgkakgibgfehaaaSh3
import Derived.Test.YtgkakgibgfehaaaSh6
import Derived.Deep.Onto
namespace Go.Proofs.Ytgkakgibgfehaaa
open Go.RowKit

/-- Piles of the call's own, and whether. -/
def GaveP (w : World) (r : List Pl) (ok : Bool) (e : Ending) (w' : World) : Prop :=
  ∃ a cap, e = .returned (.tuple #[.slice a r.length cap, .bool ok]) ∧ w'.ownsRow w.heap.size 48 2 (.slice a r.length cap) r.length (cellsP r) ∧ Below w.heap.size w w' ∧ (ok = true → ∃ g, a = some ⟨g, 0, none⟩)
theorem specPiles_as (a : Option Addr) (len cap : Nat) (ps : List Pl) (v : Bool) (w : World) (h : IsPiles w a len cap ps) (hs : Small ps) (hv : pilesB ps = v) :
    Calls Tq.prog 91 #[.slice a len cap] w fun e w' => e = .returned (.bool v) ∧ Below w.heap.size w w' := by subst hv; exact specPiles_any a len cap ps w h hs
theorem Small.put {ps : List Pl} {t : ByteArray} {m : Int} (h : Small ps) (ht : t.size ≤ 1048600) : Small (putL ps t m) := Small.of fun q hq => by
  rcases put_texts q hq with e | ⟨p, hp, e⟩
  · rw [e]; exact ht
  · rw [← e]
    obtain ⟨i, hi, rfl⟩ := List.mem_iff_getElem.1 hp
    have := h i
    unfold tAt at this
    simpa [hi] using this
theorem mAt_valid {ps : List Pl} (h : pilesB ps = true) (i : Nat) : 0 ≤ mAt ps i ∧ mAt ps i ≤ 99 := by
  have hp := pilesB_pos h
  unfold mAt
  cases e : ps[i]? with
  | none => simp
  | some p => have h1 := hp.2.1 p (List.mem_of_getElem? e); have h2 := hp.2.2.1 p (List.mem_of_getElem? e); simp; omega
theorem mAt_wide {ps : List Pl} (h : ∀ i, 0 ≤ mAt ps i ∧ mAt ps i ≤ 99) : ∀ i, 0 ≤ mAt ps i ∧ mAt ps i ≤ 1000000 := fun i => ⟨(h i).1, by have := (h i).2; omega⟩
theorem empty_lit (w : World) (T : TypeId) (base : Nat) (h : base ≤ w.heap.size) : (w.alloc (.cells #[] T)).ownsRow base T 2 (.slice (some ⟨w.heap.size, 0, none⟩) 0 0) 0 [] := World.ownsRow_lit (base := base) (e := T) (size := 2) w #[] 0 h (by unfold maxLen; omega) rfl

set_option maxRecDepth 100000 in
set_option maxHeartbeats 4000000 in
/-- **spec.PilesAdd** answers as addL does. -/
theorem specAdd_as (b off len cap : Nat) (ps : List Pl) (t : ByteArray) (m : Int) (r : List Pl) (ok : Bool) (w : World) (h : IsPiles w (some ⟨b, off, none⟩) len cap ps) (hbl : b < w.heap.size) (hs : Small ps) (ht : t.size ≤ 1048600) (hr : addL ps t m = r) (hok : addB ps t m = ok) :
    Calls Tq.prog 77 #[.slice (some ⟨b, off, none⟩) len cap, .string t, .int .i64 m] w (GaveP w r ok) := by
  have HI := Lib.hid h
  have HS := Lib.hid hs
  have HR := Lib.hid hr
  have HOK := Lib.hid hok
  have H1 := Lib.hid h.1
  clear h hs hr hok
  go_enter Tq.func77, Tq.ntmps77
  cases hv : pilesB ps
  · have e : Hid (ok = false) := by rw [Hid, ← HOK.out, addB, hv]; rfl
    have e2 : Hid (r = []) := by rw [Hid, ← HR.out, addL, HOK.out, e.out]; rfl
    have HV := Lib.hid hv; clear hv
    go_wp2_with fail
    refine (specPiles_as _ len cap ps false _ HI.out HS.out HV.out).mono ?_
    rintro e1 w1 ⟨rfl, hb1⟩
    have hsz := hb1.size
    go_wp2
    go_ret2
    refine ⟨some ⟨w1.heap.size, 0, none⟩, 0, ?_, ?_, hb1.alloc hsz _, fun _ => ⟨_, rfl⟩⟩
    · rw [e.out, e2.out]; rfl
    · rw [e2.out]; exact empty_lit w1 _ _ hsz
  · have HV := Lib.hid hv
    cases hp : pileB t m
    · have e : Hid (ok = false) := by rw [Hid, ← HOK.out, addB, hv, hp]; rfl
      have e2 : Hid (r = []) := by rw [Hid, ← HR.out, addL, HOK.out, e.out]; rfl
      have HPB := Lib.hid hp; clear hv hp
      go_wp2_with fail
      refine (specPiles_as _ len cap ps true _ HI.out HS.out HV.out).mono ?_
      rintro e1 w1 ⟨rfl, hb1⟩
      go_wp2_with fail
      refine (l3Pile_as t m false _ ht HPB.out).mono ?_
      rintro e1 w2 ⟨rfl, hb2⟩
      have hB2 := hb1.trans (hb2.mono hb1.size)
      have hsz := hB2.size
      go_wp2
      go_ret2
      refine ⟨some ⟨w2.heap.size, 0, none⟩, 0, ?_, ?_, hB2.alloc hsz _, fun _ => ⟨_, rfl⟩⟩
      · rw [e.out, e2.out]; rfl
      · rw [e2.out]; exact empty_lit w2 _ _ hsz
    · have HPB := Lib.hid hp
      have hm := (pileB_iff t m).1 hp
      have hps := mAt_wide (mAt_valid hv)
      have hlen : len ≤ 12 := by have := (pilesB_pos hv).2.2.2.2; rw [H1.out] at this; exact this
      have HPS := Lib.hid hps
      have hm1 : 0 ≤ m ∧ m ≤ 1000000 := by omega
      obtain ⟨r2, hr2⟩ : ∃ r2, putL ps t m = r2 := ⟨_, rfl⟩
      obtain ⟨v2, hv2⟩ : ∃ v2, pilesB r2 = v2 := ⟨_, rfl⟩
      have HR2 := Lib.hid hr2
      have HV2 := Lib.hid hv2
      have e : Hid (ok = v2) := by rw [Hid, ← HOK.out, addB, hv, hp, hr2, hv2]; rfl
      have hl2 : r2.length ≤ 13 := by have := (put_longer ps t m).2; rw [hr2, H1.out] at this; omega
      have HS2 : Hid (Small r2) := by rw [← hr2]; exact HS.out.put ht
      clear hv hp hps hr2 hv2 hm
      go_wp2_with fail
      refine (specPiles_as _ len cap ps true _ HI.out HS.out HV.out).mono ?_
      rintro e1 w1 ⟨rfl, hb1⟩
      have I1 := Lib.hid (HI.out.below hb1)
      have hbl1 : b < w1.heap.size := Nat.lt_of_lt_of_le hbl hb1.size
      have B1 := Lib.hid hb1; clear hb1
      go_wp2_with fail
      refine (l3Pile_as t m true _ ht HPB.out).mono ?_
      rintro e1 w2 ⟨rfl, hb2⟩
      have I2 := Lib.hid (I1.out.below hb2)
      have hbl2 : b < w2.heap.size := Nat.lt_of_lt_of_le hbl1 hb2.size
      have B2 := Lib.hid (B1.out.trans (hb2.mono B1.out.size)); clear hb2
      go_wp2_with fail
      refine (l3Put_any b off len cap ps t m _ I2.out hbl2 (by omega) HPS.out hm1).mono ?_
      rintro e1 w3 ⟨g, cap', he, ho, hb3⟩
      rw [HR2.out] at he ho
      subst he
      have B3 := Lib.hid (B2.out.trans (hb3.mono B2.out.size))
      have O3 := Lib.hid (ho.mono B2.out.size)
      clear hb3 ho
      go_wp2_with fail
      refine (specPiles_as _ _ _ r2 v2 _ (IsPiles.of_owned O3.out (by omega)) HS2.out HV2.out).mono ?_
      rintro e1 w4 ⟨rfl, hb4⟩
      have O4 := Lib.hid (owns_below O3.out hb4)
      have B4 := Lib.hid (B3.out.trans (hb4.mono B3.out.size)); clear hb4
      cases v2
      · have e2 : Hid (r = []) := by rw [Hid, ← HR.out, addL, HOK.out, e.out]; rfl
        have hsz := B4.out.size
        go_wp2
        go_ret2
        refine ⟨some ⟨w4.heap.size, 0, none⟩, 0, ?_, ?_, B4.out.alloc hsz _, fun _ => ⟨_, rfl⟩⟩
        · rw [e.out, e2.out]; rfl
        · rw [e2.out]; exact empty_lit w4 _ _ hsz
      · have e2 : Hid (r = r2) := by rw [Hid, ← HR.out, addL, HOK.out, e.out, HR2.out]; rfl
        go_wp2
        go_ret2
        refine ⟨some ⟨g, 0, none⟩, cap', ?_, ?_, B4.out, fun _ => ⟨_, rfl⟩⟩
        · rw [e.out, e2.out]; rfl
        · rw [e2.out]; exact O4.out

end Go.Proofs.Ytgkakgibgfehaaa

namespace Go.Proofs.Ytgkakgibgfehaaa
open Go.RowKit

theorem take_one {ps : List Pl} {k : Nat} (h : k < ps.length) : ps.take (k + 1) = ps.take k ++ [(tAt ps k, mAt ps k)] := by
  have e : (tAt ps k, mAt ps k) = ps[k] := by simp [tAt, mAt, h]
  rw [e, List.take_succ_eq_append_getElem h]
theorem IsPiles.piles {w : World} {a : Option Addr} {len cap : Nat} {ps : List Pl} (h : IsPiles w a len cap ps) {k : Nat} (hk : k < len) : ∃ b off, a = some ⟨b, off, none⟩ ∧ b < w.heap.size ∧ w.cell? ⟨b, off + k * 2, none⟩ = some (.string (tAt ps k)) ∧ w.cell? ⟨b, off + k * 2 + 1, none⟩ = some (.int .i64 (mAt ps k)) := by
  obtain ⟨b, off, e, hb, hc⟩ := h.2.2.2 (by omega)
  exact ⟨b, off, e, hb, hc k hk⟩

end Go.Proofs.Ytgkakgibgfehaaa

namespace Go.Proofs.Ytgkakgibgfehaaa
open Go.RowKit

theorem Step.behind {R : Nat} {w w' w2 : World} (h : Step R w w') (hb : Below w'.heap.size w' w2) : Step R w w2 :=
  h.grown (row := none) ⟨hb.os, hb.tape, hb.output, hb.size, fun k hk _ => hb.block k hk⟩ (fun k e => by cases e)
theorem small_valid {ps : List Pl} (h : pilesB ps = true) : Small ps := Small.of fun p hp => by
  have hv := (pilesB_pos h).2.2.2.1 p hp
  have := vB_short hv
  rw [nums_length] at this
  omega
theorem cellsP_setT : ∀ (ps : List Pl) (k : Nat) (s : ByteArray), k < ps.length → (cellsP ps).set (k * 2) (.string s) = cellsP (ps.set k (s, mAt ps k))
  | [], k, s, h => by simp at h
  | p :: ps, 0, s, _ => rfl
  | p :: ps, k + 1, s, h => by
    rw [mAt_cons, cellsP, show (k + 1) * 2 = k * 2 + 1 + 1 by omega, List.set_cons_succ, List.set_cons_succ, cellsP_setT ps k s (by simpa using h), List.set_cons_succ, cellsP]
/-- The numbers are from 0 to 100. -/
def Few (ps : List Pl) : Prop := ∀ i, 0 ≤ mAt ps i ∧ mAt ps i ≤ 100
theorem Few.of {ps : List Pl} (h : ∀ p ∈ ps, 0 ≤ p.2 ∧ p.2 ≤ 100) : Few ps := fun i => by
  unfold mAt
  cases e : ps[i]? with
  | none => simp
  | some p => exact h p (List.mem_of_getElem? e)
theorem Few.mem {ps : List Pl} (h : Few ps) : ∀ p ∈ ps, 0 ≤ p.2 ∧ p.2 ≤ 100 := fun p hp => by
  obtain ⟨i, hi, rfl⟩ := List.mem_iff_getElem.1 hp
  have := h i
  unfold mAt at this
  simpa [hi] using this
theorem Small.mem {ps : List Pl} (h : Small ps) : ∀ p ∈ ps, p.1.size ≤ 1048600 := fun p hp => by
  obtain ⟨i, hi, rfl⟩ := List.mem_iff_getElem.1 hp
  have := h i
  unfold tAt at this
  simpa [hi] using this
theorem few_valid {ps : List Pl} (h : pilesB ps = true) : Few ps := fun i => by have := mAt_valid h i; omega
theorem Few.set {ps : List Pl} (h : Few ps) (k : Nat) {t : ByteArray} {m : Int} (hm : 0 ≤ m ∧ m ≤ 100) : Few (ps.set k (t, m)) := Few.of fun p hp => by
  rcases List.mem_or_eq_of_mem_set hp with hp | rfl
  · exact h.mem p hp
  · exact hm
theorem Small.set {ps : List Pl} (h : Small ps) (k : Nat) {t : ByteArray} {m : Int} (ht : t.size ≤ 1048600) : Small (ps.set k (t, m)) := Small.of fun p hp => by
  rcases List.mem_or_eq_of_mem_set hp with hp | rfl
  · exact h.mem p hp
  · exact ht
theorem Few.snoc {ps : List Pl} (h : Few ps) {t : ByteArray} {m : Int} (hm : 0 ≤ m ∧ m ≤ 100) : Few (ps ++ [(t, m)]) := Few.of fun p hp => by
  rcases List.mem_append.1 hp with hp | hp
  · exact h.mem p hp
  · simp at hp; subst hp; exact hm
theorem Small.snoc {ps : List Pl} (h : Small ps) {t : ByteArray} {m : Int} (ht : t.size ≤ 1048600) : Small (ps ++ [(t, m)]) := Small.of fun p hp => by
  rcases List.mem_append.1 hp with hp | hp
  · exact h.mem p hp
  · simp at hp; subst hp; exact ht

set_option maxRecDepth 100000 in
set_option maxHeartbeats 2000000 in
/-- **of**: one of three texts. -/
theorem of_any (R p q : Nat) (s0 s1 s2 : ByteArray) (w : World) (h : Rd w R p) (hp : p + 1 ≤ 1000000) (hq : q < w.heap.size) (hqR : q ≠ R) (h0 : w.cell? ⟨q, 0, none⟩ = some (.string s0)) (h1 : w.cell? ⟨q, 1, none⟩ = some (.string s1)) (h2 : w.cell? ⟨q, 2, none⟩ = some (.string s2)) :
    Calls Tq.prog 80 #[.pointer (some ⟨R, 0, none⟩), .slice (some ⟨q, 0, none⟩) 3 3] w fun e w' => ∃ s, e = .returned (.string s) ∧ (s = s0 ∨ s = s1 ∨ s = s2) ∧ Rd w' R (p + 1) ∧ Step R w w' := by
  have H := Lib.hid h; clear h
  go_enter Tq.func80, Tq.ntmps80
  go_wp2_with fail
  refine (pick_any R p 3 _ H.out hp (by omega) (by omega)).mono ?_
  rintro e w1 ⟨r, rfl, hr, hrd, hst⟩
  have k0 : w1.cell? ⟨q, 0, none⟩ = some (.string s0) := (World.cell?_of_block (a := ⟨q, 0, none⟩) (hst.block q hq (by simp; omega))).trans h0
  have k1 : w1.cell? ⟨q, 1, none⟩ = some (.string s1) := (World.cell?_of_block (a := ⟨q, 1, none⟩) (hst.block q hq (by simp; omega))).trans h1
  have k2 : w1.cell? ⟨q, 2, none⟩ = some (.string s2) := (World.cell?_of_block (a := ⟨q, 2, none⟩) (hst.block q hq (by simp; omega))).trans h2
  have HRD := Lib.hid hrd
  have HST := Lib.hid hst
  clear hrd hst h0 h1 h2
  have hr3 : r = 0 ∨ r = 1 ∨ r = 2 := by omega
  rcases hr3 with rfl | rfl | rfl
  · go_wp2
    go_ret
    exact ⟨s0, rfl, .inl rfl, HRD.out, HST.out⟩
  · go_wp2
    go_ret
    exact ⟨s1, rfl, .inr (.inl rfl), HRD.out, HST.out⟩
  · go_wp2
    go_ret
    exact ⟨s2, rfl, .inr (.inr rfl), HRD.out, HST.out⟩

theorem specText_as' (a : Option Addr) (len cap : Nat) (zs : List Int) (t : ByteArray) (w : World) (h : IsInts w a len cap zs) (ht : txtB zs = t) :
    Calls Tq.prog 78 #[.slice a len cap] w fun e w' => e = .returned (.string t) ∧ Dr w w' := by subst ht; exact specText_any a len cap zs w h
theorem txtB_short' (zs : List Int) : (txtB zs).size ≤ zs.length := by
  unfold txtB
  split
  · rw [txtOf_size]; exact Nat.le_refl _
  · exact Nat.zero_le _
/-- Piles of the reader's. -/
def DrawnP (R p : Nat) (w : World) (e : Ending) (w' : World) : Prop := ∃ (ps : List Pl) (g cap p' : Nat), e = .returned (.slice (some ⟨g, 0, none⟩) ps.length cap) ∧
  w'.ownsRow w.heap.size 48 2 (.slice (some ⟨g, 0, none⟩) ps.length cap) ps.length (cellsP ps) ∧ Small ps ∧ Few ps ∧ ps.length ≤ 13 ∧ Rd w' R p' ∧ p' ≤ p + 3000 ∧ Step R w w'
theorem addL_valid {ps : List Pl} {t : ByteArray} {m : Int} (h : addB ps t m = true) : pilesB (addL ps t m) = true := by rw [addL, h]; exact ((addB_iff ps t m).1 h).2.2

set_option maxRecDepth 100000 in
set_option maxHeartbeats 8000000 in
/-- **l91Piles**. -/
theorem l91Piles_any (R p : Nat) (n : Int) (w : World) (h : Rd w R p) (hp : p + 3000 ≤ 1000000) (hn : 0 ≤ n) (hn5 : n ≤ 7) :
    Calls Tq.prog 49 #[.pointer (some ⟨R, 0, none⟩), .int .i64 n] w (DrawnP R p w) := by
  obtain ⟨i0, hi, hz0, hz1, hz2⟩ := info_parts pile_info
  obtain ⟨G, hG⟩ : ∃ G, w.heap.size = G := ⟨_, rfl⟩
  have hRG : R < G := by rw [← hG]; exact h.1
  have HO0 := Lib.hid (empty_lit w 48 G (by omega))
  have H0 : Hid (Rd (w.alloc (.cells #[] 48)) R p) := h.below ((Below.refl _ w).alloc (Nat.le_refl _) _)
  have S0 : Hid (Step R w (w.alloc (.cells #[] 48))) := (Step.refl R w).alloc _
  rw [hG] at HO0
  clear h
  go_enter Tq.func49, Tq.ntmps49
  go_wp2_with fail
  refine (pick_any R p 8 _ H0.out (by omega) (by omega) (by omega)).mono ?_
  rintro e w1 ⟨m1, rfl, hm1, hr, hs⟩
  have R1 := Lib.hid hr
  have S1 := Lib.hid (S0.out.trans hs)
  have O1 := Lib.hid (owns_step HO0.out hs hRG)
  clear hr hs
  go_wp2_with fail
  refine (pick_any R (p + 1) 14 _ R1.out (by omega) (by omega) (by omega)).mono ?_
  rintro e w2 ⟨m2, rfl, hm2, hr, hs⟩
  have R2 := Lib.hid hr
  have S2 := Lib.hid (S1.out.trans hs)
  have O2 := Lib.hid (owns_step O1.out hs hRG)
  clear hr hs R1 S1 O1 HO0 H0 S0
  cases h14 : ((m2 : Int) == 0)
  · go_wp2
    obtain ⟨mn, hmn, h0m, hm40⟩ : ∃ mn : Int, (m1 : Int) = mn ∧ ((0 : Nat) : Int) ≤ mn ∧ mn ≤ 40 := ⟨_, rfl, by omega, by omega⟩
    rw [hmn]
    clear hmn h14
    go_loopw [5, 7] (fun v i wr => ∃ k p' : Nat, (k : Int) ≤ mn ∧ i = .int .i64 k ∧ p' ≤ p + 2 + 30 * k ∧ Hid (Rd wr R p') ∧ Hid (Step R w wr) ∧
        (∃ (cur : List Pl) (g c : Nat), v = .slice (some ⟨g, 0, none⟩) cur.length c ∧ Hid (pilesB cur = true) ∧ Hid (wr.ownsRow G 48 2 (.slice (some ⟨g, 0, none⟩) cur.length c) cur.length (cellsP cur))))
      (fun _ i _ => mn.toNat - (intOf i).toNat)
    case atStart => exact ⟨0, p + 1 + 1, h0m, rfl, by omega, R2, S2, [], _, _, rfl, rfl, O2⟩
    case round =>
      clear R2 S2 O2
      obtain ⟨k, p', hk, rfl, hpp, HR, HS, cur, g, c, rfl, HV, HO⟩ := hrel
      have hl12 : cur.length ≤ 12 := (pilesB_pos HV.out).2.2.2.2
      have HSM := Lib.hid (small_valid HV.out)
      by_cases hlt : (k : Int) < mn
      · go_wp2_with fail
        refine (l91Ballot_any R p' n _ HR.out (by omega) hn hn5).mono ?_
        rintro e w3 ⟨zs, az, cz, p3, rfl, hoz, hz10, hr, hp3, hs⟩
        have R3 := Lib.hid hr
        have S3 := Lib.hid (HS.out.trans hs)
        have O3 := Lib.hid (owns_step HO.out hs hRG)
        have I3 := Lib.hid (IsInts.of_owned hoz (by omega))
        obtain ⟨t, ht⟩ : ∃ t, txtB zs = t := ⟨_, rfl⟩
        have hts : t.size ≤ 1048600 := by rw [← ht]; have := txtB_short' zs; omega
        have HT := Lib.hid ht
        clear hr hs hoz ht
        go_wp2_with fail
        refine (specText_as' az zs.length cz zs t _ I3.out HT.out).mono ?_
        rintro e w4 ⟨rfl, hd⟩
        have R4 := Lib.hid (R3.out.below (hd.below _))
        have S4 := Lib.hid (S3.out.behind (hd.below _))
        have O4 := Lib.hid (owns_below O3.out (hd.below _))
        clear hd R3 S3 O3 I3
        go_wp2_with fail
        refine (pick_any R p3 9 _ R4.out (by omega) (by omega) (by omega)).mono ?_
        rintro e w5 ⟨r9, rfl, hr9, hr, hs⟩
        have R5 := Lib.hid hr
        have S5 := Lib.hid (S4.out.trans hs)
        have O5 := Lib.hid (owns_step O4.out hs hRG)
        clear hr hs R4 S4 O4
        have hw9 : IntKind.i64.wrap (1 + (r9 : Int)) = 1 + (r9 : Int) := IntWalk.i64_in _ (by omega)
        obtain ⟨nx, hnx⟩ : ∃ nx, addL cur t (1 + (r9 : Int)) = nx := ⟨_, rfl⟩
        obtain ⟨ok, hok⟩ : ∃ ok, addB cur t (1 + (r9 : Int)) = ok := ⟨_, rfl⟩
        have HNX := Lib.hid hnx
        have HOK := Lib.hid hok
        have HV5 : Hid (ok = true → pilesB nx = true) := fun hh => by rw [← hnx]; exact addL_valid (hok.trans hh)
        clear hnx hok
        go_wp2_with fail
        refine (specAdd_as g 0 cur.length c cur t (1 + (r9 : Int)) nx ok _ (IsPiles.of_owned O5.out (by omega)) (O5.out.lt g rfl).2 HSM.out hts HNX.out HOK.out).mono ?_
        rintro e w6 ⟨a6, c6, rfl, ho6, hb6, hn6⟩
        have hG5 : G ≤ w5.heap.size := by have := S5.out.size; omega
        have R6 := Lib.hid (R5.out.below hb6)
        have S6 := Lib.hid (S5.out.behind hb6)
        have O6 := Lib.hid (owns_below O5.out hb6)
        have N6 := Lib.hid (ho6.mono hG5)
        have HN6 := Lib.hid hn6
        clear ho6 hb6 hn6 R5 S5 O5
        cases ok
        · go_wp2
          go_roundw
          case rel => exact ⟨k + 1, _, by omega, by go_num, by omega, R6, S6, cur, g, c, rfl, HV, O6⟩
          case measure => simp [intOf]; omega
        · obtain ⟨g6, rfl⟩ := HN6.out rfl
          go_wp2
          go_roundw
          case rel => exact ⟨k + 1, _, by omega, by go_num, by omega, R6, S6, nx, g6, c6, rfl, HV5.out (by trivial), N6⟩
          case measure => simp [intOf]; omega
      · have HF := Lib.hid (few_valid HV.out)
        rcases Nat.eq_zero_or_pos cur.length with hz | hz
        · have hgt : decide ((0 : Int) < (cur.length : Int)) = false := decide_eq_false (by omega)
          have hgt' : decide (0 < cur.length) = false := decide_eq_false (by omega)
          clear hz
          go_wp2
          go_ret
          exact ⟨cur, g, c, p', rfl, by rw [hG]; exact HO.out, HSM.out, HF.out, by omega, HR.out, by omega, HS.out⟩
        · have hgt : decide ((0 : Int) < (cur.length : Int)) = true := decide_eq_true (by omega)
          have hgt' : decide (0 < cur.length) = true := decide_eq_true (by omega)
          go_wp2_with fail
          refine (pick_any R p' (cur.length : Int) _ HR.out (by omega) (by omega) (by omega)).mono ?_
          rintro e w3 ⟨j, rfl, hj, hr, hs⟩
          have R3 := Lib.hid hr
          have S3 := Lib.hid (HS.out.trans hs)
          have O3 := Lib.hid (owns_step HO.out hs hRG)
          clear hr hs
          go_wp2_with fail
          refine (pick_any R (p' + 1) 30 _ R3.out (by omega) (by omega) (by omega)).mono ?_
          rintro e w4 ⟨d, rfl, hd, hr, hs⟩
          have R4 := Lib.hid hr
          have S4 := Lib.hid (S3.out.trans hs)
          have O4 := Lib.hid (owns_step O3.out hs hRG)
          clear hr hs R3 S3 O3 HO
          have hjl : j < cur.length := by omega
          have hjc : (j : Int) < (c : Int) := by have := (IsPiles.of_owned O4.out (by omega)).2.1; omega
          have hG4 : G ≤ w4.heap.size := by have := S4.out.size; omega
          have hgG : G ≤ g := (O4.out.lt g rfl).1
          have hg4 : g < w4.heap.size := (O4.out.lt g rfl).2
          obtain ⟨tj, htj⟩ : ∃ tj, tAt cur j = tj := ⟨_, rfl⟩
          obtain ⟨mj, hmj⟩ : ∃ mj, mAt cur j = mj := ⟨_, rfl⟩
          have htjs : tj.size ≤ 1048600 := by rw [← htj]; exact HSM.out j
          have hmjs : 0 ≤ mj ∧ mj ≤ 100 := by rw [← hmj]; exact HF.out j
          have HTJ := Lib.hid htj
          have HMJ := Lib.hid hmj
          have q0 : w4.cell? ⟨g, j * 2, none⟩ = some (.string tj) := by rw [O4.out.cellAt (j * 2) (by omega), cellsP_text cur j hjl, htj]
          have q1 : w4.cell? ⟨g, j * 2 + 1, none⟩ = some (.int .i64 mj) := by rw [O4.out.cellAt (j * 2 + 1) (by omega), cellsP_many cur j hjl, hmj]
          clear htj hmj
          rcases Nat.lt_or_ge d 3 with hd3 | hd3
          · have hd4 : d = 0 ∨ d = 1 ∨ d = 2 := by omega
            rcases hd4 with rfl | rfl | rfl
            · have hRa : Rd (w4.alloc (.cells #[.int .i64 0, .int .i64 99, .int .i64 100] 3)) R (p' + 1 + 1) := R4.out.below ((Below.refl _ w4).alloc (Nat.le_refl _) _)
              go_wp2_with fail
              refine (pick_any R (p' + 1 + 1) 3 _ hRa (by omega) (by omega) (by omega)).mono ?_
              rintro e w5 ⟨r3, rfl, hr3, hr, hs⟩
              have x0 : w5.cell? ⟨w4.heap.size, 0, none⟩ = some (.int .i64 0) := (World.cell?_of_block (a := ⟨w4.heap.size, 0, none⟩) (hs.block w4.heap.size (by simp) (by simp; omega))).trans (World.cell?_alloc_new w4 _ _ 0)
              have x1 : w5.cell? ⟨w4.heap.size, 1, none⟩ = some (.int .i64 99) := (World.cell?_of_block (a := ⟨w4.heap.size, 1, none⟩) (hs.block w4.heap.size (by simp) (by simp; omega))).trans (World.cell?_alloc_new w4 _ _ 1)
              have x2 : w5.cell? ⟨w4.heap.size, 2, none⟩ = some (.int .i64 100) := (World.cell?_of_block (a := ⟨w4.heap.size, 2, none⟩) (hs.block w4.heap.size (by simp) (by simp; omega))).trans (World.cell?_alloc_new w4 _ _ 2)
              have R5 := Lib.hid hr
              have S5 := Lib.hid ((S4.out.alloc (.cells #[.int .i64 0, .int .i64 99, .int .i64 100] 3)).trans hs)
              have O5 := Lib.hid (owns_step (O4.out.alloc (.cells #[.int .i64 0, .int .i64 99, .int .i64 100] 3)) hs hRG)
              clear hr hs hRa
              have q1' : w5.cell? ⟨g, j * 2 + 1, none⟩ = some (.int .i64 mj) := by rw [O5.out.cellAt (j * 2 + 1) (by omega), cellsP_many cur j hjl, HMJ.out]
              have f1 : w5.frozen? ⟨g, j * 2 + 1, none⟩ = false := O5.out.frozenAt (j * 2 + 1)
              clear q0 q1
              have hr4 : r3 = 0 ∨ r3 = 1 ∨ r3 = 2 := by omega
              rcases hr4 with rfl | rfl | rfl
              · have HST := Lib.hid (O5.out.stored (j * 2 + 1) (.int .i64 0))
                go_wp2
                go_ret
                refine ⟨cur.set j (tj, 0), g, c, _, by rw [List.length_set]; rfl, ?_, HSM.out.set j htjs, HF.out.set j (by omega), by rw [List.length_set]; omega, R5.out.grown HST.out.2 (fun i ei => by cases ei; omega), by omega, S5.out.grown HST.out.2 (fun i ei => .inl (by cases ei; omega))⟩
                rw [List.length_set, hG, ← HTJ.out, ← cellsP_set cur j 0 hjl]
                exact HST.out.1
              · have HST := Lib.hid (O5.out.stored (j * 2 + 1) (.int .i64 99))
                go_wp2
                go_ret
                refine ⟨cur.set j (tj, 99), g, c, _, by rw [List.length_set]; rfl, ?_, HSM.out.set j htjs, HF.out.set j (by omega), by rw [List.length_set]; omega, R5.out.grown HST.out.2 (fun i ei => by cases ei; omega), by omega, S5.out.grown HST.out.2 (fun i ei => .inl (by cases ei; omega))⟩
                rw [List.length_set, hG, ← HTJ.out, ← cellsP_set cur j 99 hjl]
                exact HST.out.1
              · have HST := Lib.hid (O5.out.stored (j * 2 + 1) (.int .i64 100))
                go_wp2
                go_ret
                refine ⟨cur.set j (tj, 100), g, c, _, by rw [List.length_set]; rfl, ?_, HSM.out.set j htjs, HF.out.set j (by omega), by rw [List.length_set]; omega, R5.out.grown HST.out.2 (fun i ei => by cases ei; omega), by omega, S5.out.grown HST.out.2 (fun i ei => .inl (by cases ei; omega))⟩
                rw [List.length_set, hG, ← HTJ.out, ← cellsP_set cur j 100 hjl]
                exact HST.out.1
            · have hM : cur.length + 1 ≤ maxLen := by unfold maxLen; omega
              have hNb : (cur.length + 1) * 24 ≤ 140737488355328 := by omega
              have hGa : G ≤ (w4.alloc (.cells #[.string tj, .int .i64 mj] 48)).heap.size := by simp; omega
              go_wp2_with (first | (at_builtin; refine wpList_append_own _ rfl _ _ 23 rfl G 48 i0 (.agg #[.string ⟨#[]⟩, .int .i64 0]) 2 24 Tq.underlying23 hi hz0 hz1 hz2 rfl Nat.two_pos _ _ _ rfl (O4.out.alloc _) ⟨w4.heap.size, 0, none⟩ 1 1 [.string tj, .int .i64 mj] rfl rfl (two_new _ _ _ _) (by simp [Value.oneCell']) hM hNb hGa ?_; intro v5 w5 hown5 hgr5 _; obtain ⟨g5, c5, rfl⟩ := some_of_owns hown5 (Nat.succ_pos _); have HO5 := Lib.hid hown5; have R5 : Hid (Rd w5 R (p' + 1 + 1)) := (R4.out.below ((Below.refl _ w4).alloc (Nat.le_refl _) _)).grown hgr5 (fun i ei => own_ge ei (Nat.lt_of_lt_of_le hRG hgG)); have S5 : Hid (Step R w w5) := (S4.out.alloc _).grown hgr5 (fun i ei => .inl (own_ge ei (hG ▸ hgG))); clear hown5 hgr5) | go_in)
              go_ret
              refine ⟨cur ++ [(tj, mj)], g5, c5, _, by rw [List.length_append]; rfl, ?_, HSM.out.snoc htjs, HF.out.snoc hmjs, by rw [List.length_append]; simp; omega, R5.out, by omega, S5.out⟩
              rw [List.length_append, hG, cellsP_app]
              exact HO5.out
            · have hRa : Rd (w4.alloc (.cells #[.string ⟨#[97, 97]⟩, .string ⟨#[102]⟩, .string ⟨#[120]⟩] 9)) R (p' + 1 + 1) := R4.out.below ((Below.refl _ w4).alloc (Nat.le_refl _) _)
              go_wp2_with fail
              refine (of_any R (p' + 1 + 1) w4.heap.size ⟨#[97, 97]⟩ ⟨#[102]⟩ ⟨#[120]⟩ _ hRa (by omega) (by simp) (by omega) (World.cell?_alloc_new w4 _ _ 0) (World.cell?_alloc_new w4 _ _ 1) (World.cell?_alloc_new w4 _ _ 2)).mono ?_
              rintro e w5 ⟨s, rfl, hs3, hr, hs⟩
              have hss : s.size ≤ 1048600 := by
                rcases hs3 with rfl | rfl | rfl <;> decide
              have R5 := Lib.hid hr
              have S5 := Lib.hid ((S4.out.alloc (.cells #[.string ⟨#[97, 97]⟩, .string ⟨#[102]⟩, .string ⟨#[120]⟩] 9)).trans hs)
              have O5 := Lib.hid (owns_step (O4.out.alloc (.cells #[.string ⟨#[97, 97]⟩, .string ⟨#[102]⟩, .string ⟨#[120]⟩] 9)) hs hRG)
              clear hr hs hRa hs3
              have q0' : w5.cell? ⟨g, j * 2, none⟩ = some (.string tj) := by rw [O5.out.cellAt (j * 2) (by omega), cellsP_text cur j hjl, HTJ.out]
              have f0 : w5.frozen? ⟨g, j * 2, none⟩ = false := O5.out.frozenAt (j * 2)
              clear q0 q1
              have HST := Lib.hid (O5.out.stored (j * 2) (.string s))
              go_wp2
              go_ret
              refine ⟨cur.set j (s, mj), g, c, _, by rw [List.length_set]; rfl, ?_, HSM.out.set j hss, HF.out.set j hmjs, by rw [List.length_set]; omega, R5.out.grown HST.out.2 (fun i ei => by cases ei; omega), by omega, S5.out.grown HST.out.2 (fun i ei => .inl (by cases ei; omega))⟩
              rw [List.length_set, hG, ← HMJ.out, ← cellsP_setT cur j s hjl]
              exact HST.out.1
          · have e0 : ((d : Int) == 0) = false := by simp; omega
            have e1 : ((d : Int) == 1) = false := by simp; omega
            have e2 : ((d : Int) == 2) = false := by simp; omega
            clear hd3 hd
            go_wp2
            go_ret
            exact ⟨cur, g, c, p' + 1 + 1, rfl, by rw [hG]; exact O4.out, HSM.out, HF.out, by omega, R4.out, by omega, S4.out⟩
  · go_wp2
    obtain ⟨mn, hmn, h0m, hm40⟩ : ∃ mn : Int, (40 : Int) = mn ∧ ((0 : Nat) : Int) ≤ mn ∧ mn ≤ 40 := ⟨_, rfl, by omega, by omega⟩
    rw [hmn]
    clear hmn h14
    go_loopw [5, 7] (fun v i wr => ∃ k p' : Nat, (k : Int) ≤ mn ∧ i = .int .i64 k ∧ p' ≤ p + 2 + 30 * k ∧ Hid (Rd wr R p') ∧ Hid (Step R w wr) ∧
        (∃ (cur : List Pl) (g c : Nat), v = .slice (some ⟨g, 0, none⟩) cur.length c ∧ Hid (pilesB cur = true) ∧ Hid (wr.ownsRow G 48 2 (.slice (some ⟨g, 0, none⟩) cur.length c) cur.length (cellsP cur))))
      (fun _ i _ => mn.toNat - (intOf i).toNat)
    case atStart => exact ⟨0, p + 1 + 1, h0m, rfl, by omega, R2, S2, [], _, _, rfl, rfl, O2⟩
    case round =>
      clear R2 S2 O2
      obtain ⟨k, p', hk, rfl, hpp, HR, HS, cur, g, c, rfl, HV, HO⟩ := hrel
      have hl12 : cur.length ≤ 12 := (pilesB_pos HV.out).2.2.2.2
      have HSM := Lib.hid (small_valid HV.out)
      by_cases hlt : (k : Int) < mn
      · go_wp2_with fail
        refine (l91Ballot_any R p' n _ HR.out (by omega) hn hn5).mono ?_
        rintro e w3 ⟨zs, az, cz, p3, rfl, hoz, hz10, hr, hp3, hs⟩
        have R3 := Lib.hid hr
        have S3 := Lib.hid (HS.out.trans hs)
        have O3 := Lib.hid (owns_step HO.out hs hRG)
        have I3 := Lib.hid (IsInts.of_owned hoz (by omega))
        obtain ⟨t, ht⟩ : ∃ t, txtB zs = t := ⟨_, rfl⟩
        have hts : t.size ≤ 1048600 := by rw [← ht]; have := txtB_short' zs; omega
        have HT := Lib.hid ht
        clear hr hs hoz ht
        go_wp2_with fail
        refine (specText_as' az zs.length cz zs t _ I3.out HT.out).mono ?_
        rintro e w4 ⟨rfl, hd⟩
        have R4 := Lib.hid (R3.out.below (hd.below _))
        have S4 := Lib.hid (S3.out.behind (hd.below _))
        have O4 := Lib.hid (owns_below O3.out (hd.below _))
        clear hd R3 S3 O3 I3
        go_wp2_with fail
        refine (pick_any R p3 9 _ R4.out (by omega) (by omega) (by omega)).mono ?_
        rintro e w5 ⟨r9, rfl, hr9, hr, hs⟩
        have R5 := Lib.hid hr
        have S5 := Lib.hid (S4.out.trans hs)
        have O5 := Lib.hid (owns_step O4.out hs hRG)
        clear hr hs R4 S4 O4
        have hw9 : IntKind.i64.wrap (1 + (r9 : Int)) = 1 + (r9 : Int) := IntWalk.i64_in _ (by omega)
        obtain ⟨nx, hnx⟩ : ∃ nx, addL cur t (1 + (r9 : Int)) = nx := ⟨_, rfl⟩
        obtain ⟨ok, hok⟩ : ∃ ok, addB cur t (1 + (r9 : Int)) = ok := ⟨_, rfl⟩
        have HNX := Lib.hid hnx
        have HOK := Lib.hid hok
        have HV5 : Hid (ok = true → pilesB nx = true) := fun hh => by rw [← hnx]; exact addL_valid (hok.trans hh)
        clear hnx hok
        go_wp2_with fail
        refine (specAdd_as g 0 cur.length c cur t (1 + (r9 : Int)) nx ok _ (IsPiles.of_owned O5.out (by omega)) (O5.out.lt g rfl).2 HSM.out hts HNX.out HOK.out).mono ?_
        rintro e w6 ⟨a6, c6, rfl, ho6, hb6, hn6⟩
        have hG5 : G ≤ w5.heap.size := by have := S5.out.size; omega
        have R6 := Lib.hid (R5.out.below hb6)
        have S6 := Lib.hid (S5.out.behind hb6)
        have O6 := Lib.hid (owns_below O5.out hb6)
        have N6 := Lib.hid (ho6.mono hG5)
        have HN6 := Lib.hid hn6
        clear ho6 hb6 hn6 R5 S5 O5
        cases ok
        · go_wp2
          go_roundw
          case rel => exact ⟨k + 1, _, by omega, by go_num, by omega, R6, S6, cur, g, c, rfl, HV, O6⟩
          case measure => simp [intOf]; omega
        · obtain ⟨g6, rfl⟩ := HN6.out rfl
          go_wp2
          go_roundw
          case rel => exact ⟨k + 1, _, by omega, by go_num, by omega, R6, S6, nx, g6, c6, rfl, HV5.out (by trivial), N6⟩
          case measure => simp [intOf]; omega
      · have HF := Lib.hid (few_valid HV.out)
        rcases Nat.eq_zero_or_pos cur.length with hz | hz
        · have hgt : decide ((0 : Int) < (cur.length : Int)) = false := decide_eq_false (by omega)
          have hgt' : decide (0 < cur.length) = false := decide_eq_false (by omega)
          clear hz
          go_wp2
          go_ret
          exact ⟨cur, g, c, p', rfl, by rw [hG]; exact HO.out, HSM.out, HF.out, by omega, HR.out, by omega, HS.out⟩
        · have hgt : decide ((0 : Int) < (cur.length : Int)) = true := decide_eq_true (by omega)
          have hgt' : decide (0 < cur.length) = true := decide_eq_true (by omega)
          go_wp2_with fail
          refine (pick_any R p' (cur.length : Int) _ HR.out (by omega) (by omega) (by omega)).mono ?_
          rintro e w3 ⟨j, rfl, hj, hr, hs⟩
          have R3 := Lib.hid hr
          have S3 := Lib.hid (HS.out.trans hs)
          have O3 := Lib.hid (owns_step HO.out hs hRG)
          clear hr hs
          go_wp2_with fail
          refine (pick_any R (p' + 1) 30 _ R3.out (by omega) (by omega) (by omega)).mono ?_
          rintro e w4 ⟨d, rfl, hd, hr, hs⟩
          have R4 := Lib.hid hr
          have S4 := Lib.hid (S3.out.trans hs)
          have O4 := Lib.hid (owns_step O3.out hs hRG)
          clear hr hs R3 S3 O3 HO
          have hjl : j < cur.length := by omega
          have hjc : (j : Int) < (c : Int) := by have := (IsPiles.of_owned O4.out (by omega)).2.1; omega
          have hG4 : G ≤ w4.heap.size := by have := S4.out.size; omega
          have hgG : G ≤ g := (O4.out.lt g rfl).1
          have hg4 : g < w4.heap.size := (O4.out.lt g rfl).2
          obtain ⟨tj, htj⟩ : ∃ tj, tAt cur j = tj := ⟨_, rfl⟩
          obtain ⟨mj, hmj⟩ : ∃ mj, mAt cur j = mj := ⟨_, rfl⟩
          have htjs : tj.size ≤ 1048600 := by rw [← htj]; exact HSM.out j
          have hmjs : 0 ≤ mj ∧ mj ≤ 100 := by rw [← hmj]; exact HF.out j
          have HTJ := Lib.hid htj
          have HMJ := Lib.hid hmj
          have q0 : w4.cell? ⟨g, j * 2, none⟩ = some (.string tj) := by rw [O4.out.cellAt (j * 2) (by omega), cellsP_text cur j hjl, htj]
          have q1 : w4.cell? ⟨g, j * 2 + 1, none⟩ = some (.int .i64 mj) := by rw [O4.out.cellAt (j * 2 + 1) (by omega), cellsP_many cur j hjl, hmj]
          clear htj hmj
          rcases Nat.lt_or_ge d 3 with hd3 | hd3
          · have hd4 : d = 0 ∨ d = 1 ∨ d = 2 := by omega
            rcases hd4 with rfl | rfl | rfl
            · have hRa : Rd (w4.alloc (.cells #[.int .i64 0, .int .i64 99, .int .i64 100] 3)) R (p' + 1 + 1) := R4.out.below ((Below.refl _ w4).alloc (Nat.le_refl _) _)
              go_wp2_with fail
              refine (pick_any R (p' + 1 + 1) 3 _ hRa (by omega) (by omega) (by omega)).mono ?_
              rintro e w5 ⟨r3, rfl, hr3, hr, hs⟩
              have x0 : w5.cell? ⟨w4.heap.size, 0, none⟩ = some (.int .i64 0) := (World.cell?_of_block (a := ⟨w4.heap.size, 0, none⟩) (hs.block w4.heap.size (by simp) (by simp; omega))).trans (World.cell?_alloc_new w4 _ _ 0)
              have x1 : w5.cell? ⟨w4.heap.size, 1, none⟩ = some (.int .i64 99) := (World.cell?_of_block (a := ⟨w4.heap.size, 1, none⟩) (hs.block w4.heap.size (by simp) (by simp; omega))).trans (World.cell?_alloc_new w4 _ _ 1)
              have x2 : w5.cell? ⟨w4.heap.size, 2, none⟩ = some (.int .i64 100) := (World.cell?_of_block (a := ⟨w4.heap.size, 2, none⟩) (hs.block w4.heap.size (by simp) (by simp; omega))).trans (World.cell?_alloc_new w4 _ _ 2)
              have R5 := Lib.hid hr
              have S5 := Lib.hid ((S4.out.alloc (.cells #[.int .i64 0, .int .i64 99, .int .i64 100] 3)).trans hs)
              have O5 := Lib.hid (owns_step (O4.out.alloc (.cells #[.int .i64 0, .int .i64 99, .int .i64 100] 3)) hs hRG)
              clear hr hs hRa
              have q1' : w5.cell? ⟨g, j * 2 + 1, none⟩ = some (.int .i64 mj) := by rw [O5.out.cellAt (j * 2 + 1) (by omega), cellsP_many cur j hjl, HMJ.out]
              have f1 : w5.frozen? ⟨g, j * 2 + 1, none⟩ = false := O5.out.frozenAt (j * 2 + 1)
              clear q0 q1
              have hr4 : r3 = 0 ∨ r3 = 1 ∨ r3 = 2 := by omega
              rcases hr4 with rfl | rfl | rfl
              · have HST := Lib.hid (O5.out.stored (j * 2 + 1) (.int .i64 0))
                go_wp2
                go_ret
                refine ⟨cur.set j (tj, 0), g, c, _, by rw [List.length_set]; rfl, ?_, HSM.out.set j htjs, HF.out.set j (by omega), by rw [List.length_set]; omega, R5.out.grown HST.out.2 (fun i ei => by cases ei; omega), by omega, S5.out.grown HST.out.2 (fun i ei => .inl (by cases ei; omega))⟩
                rw [List.length_set, hG, ← HTJ.out, ← cellsP_set cur j 0 hjl]
                exact HST.out.1
              · have HST := Lib.hid (O5.out.stored (j * 2 + 1) (.int .i64 99))
                go_wp2
                go_ret
                refine ⟨cur.set j (tj, 99), g, c, _, by rw [List.length_set]; rfl, ?_, HSM.out.set j htjs, HF.out.set j (by omega), by rw [List.length_set]; omega, R5.out.grown HST.out.2 (fun i ei => by cases ei; omega), by omega, S5.out.grown HST.out.2 (fun i ei => .inl (by cases ei; omega))⟩
                rw [List.length_set, hG, ← HTJ.out, ← cellsP_set cur j 99 hjl]
                exact HST.out.1
              · have HST := Lib.hid (O5.out.stored (j * 2 + 1) (.int .i64 100))
                go_wp2
                go_ret
                refine ⟨cur.set j (tj, 100), g, c, _, by rw [List.length_set]; rfl, ?_, HSM.out.set j htjs, HF.out.set j (by omega), by rw [List.length_set]; omega, R5.out.grown HST.out.2 (fun i ei => by cases ei; omega), by omega, S5.out.grown HST.out.2 (fun i ei => .inl (by cases ei; omega))⟩
                rw [List.length_set, hG, ← HTJ.out, ← cellsP_set cur j 100 hjl]
                exact HST.out.1
            · have hM : cur.length + 1 ≤ maxLen := by unfold maxLen; omega
              have hNb : (cur.length + 1) * 24 ≤ 140737488355328 := by omega
              have hGa : G ≤ (w4.alloc (.cells #[.string tj, .int .i64 mj] 48)).heap.size := by simp; omega
              go_wp2_with (first | (at_builtin; refine wpList_append_own _ rfl _ _ 23 rfl G 48 i0 (.agg #[.string ⟨#[]⟩, .int .i64 0]) 2 24 Tq.underlying23 hi hz0 hz1 hz2 rfl Nat.two_pos _ _ _ rfl (O4.out.alloc _) ⟨w4.heap.size, 0, none⟩ 1 1 [.string tj, .int .i64 mj] rfl rfl (two_new _ _ _ _) (by simp [Value.oneCell']) hM hNb hGa ?_; intro v5 w5 hown5 hgr5 _; obtain ⟨g5, c5, rfl⟩ := some_of_owns hown5 (Nat.succ_pos _); have HO5 := Lib.hid hown5; have R5 : Hid (Rd w5 R (p' + 1 + 1)) := (R4.out.below ((Below.refl _ w4).alloc (Nat.le_refl _) _)).grown hgr5 (fun i ei => own_ge ei (Nat.lt_of_lt_of_le hRG hgG)); have S5 : Hid (Step R w w5) := (S4.out.alloc _).grown hgr5 (fun i ei => .inl (own_ge ei (hG ▸ hgG))); clear hown5 hgr5) | go_in)
              go_ret
              refine ⟨cur ++ [(tj, mj)], g5, c5, _, by rw [List.length_append]; rfl, ?_, HSM.out.snoc htjs, HF.out.snoc hmjs, by rw [List.length_append]; simp; omega, R5.out, by omega, S5.out⟩
              rw [List.length_append, hG, cellsP_app]
              exact HO5.out
            · have hRa : Rd (w4.alloc (.cells #[.string ⟨#[97, 97]⟩, .string ⟨#[102]⟩, .string ⟨#[120]⟩] 9)) R (p' + 1 + 1) := R4.out.below ((Below.refl _ w4).alloc (Nat.le_refl _) _)
              go_wp2_with fail
              refine (of_any R (p' + 1 + 1) w4.heap.size ⟨#[97, 97]⟩ ⟨#[102]⟩ ⟨#[120]⟩ _ hRa (by omega) (by simp) (by omega) (World.cell?_alloc_new w4 _ _ 0) (World.cell?_alloc_new w4 _ _ 1) (World.cell?_alloc_new w4 _ _ 2)).mono ?_
              rintro e w5 ⟨s, rfl, hs3, hr, hs⟩
              have hss : s.size ≤ 1048600 := by
                rcases hs3 with rfl | rfl | rfl <;> decide
              have R5 := Lib.hid hr
              have S5 := Lib.hid ((S4.out.alloc (.cells #[.string ⟨#[97, 97]⟩, .string ⟨#[102]⟩, .string ⟨#[120]⟩] 9)).trans hs)
              have O5 := Lib.hid (owns_step (O4.out.alloc (.cells #[.string ⟨#[97, 97]⟩, .string ⟨#[102]⟩, .string ⟨#[120]⟩] 9)) hs hRG)
              clear hr hs hRa hs3
              have q0' : w5.cell? ⟨g, j * 2, none⟩ = some (.string tj) := by rw [O5.out.cellAt (j * 2) (by omega), cellsP_text cur j hjl, HTJ.out]
              have f0 : w5.frozen? ⟨g, j * 2, none⟩ = false := O5.out.frozenAt (j * 2)
              clear q0 q1
              have HST := Lib.hid (O5.out.stored (j * 2) (.string s))
              go_wp2
              go_ret
              refine ⟨cur.set j (s, mj), g, c, _, by rw [List.length_set]; rfl, ?_, HSM.out.set j hss, HF.out.set j hmjs, by rw [List.length_set]; omega, R5.out.grown HST.out.2 (fun i ei => by cases ei; omega), by omega, S5.out.grown HST.out.2 (fun i ei => .inl (by cases ei; omega))⟩
              rw [List.length_set, hG, ← HMJ.out, ← cellsP_setT cur j s hjl]
              exact HST.out.1
          · have e0 : ((d : Int) == 0) = false := by simp; omega
            have e1 : ((d : Int) == 1) = false := by simp; omega
            have e2 : ((d : Int) == 2) = false := by simp; omega
            clear hd3 hd
            go_wp2
            go_ret
            exact ⟨cur, g, c, p' + 1 + 1, rfl, by rw [hG]; exact O4.out, HSM.out, HF.out, by omega, R4.out, by omega, S4.out⟩

end Go.Proofs.Ytgkakgibgfehaaa

namespace Go.Proofs.Ytgkakgibgfehaaa
open Go.RowKit

/-- A list of piles of the call's own. -/
def HasP (w0 w : World) (ps : List Pl) (g cap : Nat) : Prop := w.ownsRow w0.heap.size 48 2 (.slice (some ⟨g, 0, none⟩) ps.length cap) ps.length (cellsP ps) ∧ Small ps ∧ Few ps ∧ ps.length ≤ 13
theorem HasP.below {w0 w w' : World} {ps : List Pl} {g cap : Nat} (h : HasP w0 w ps g cap) (hb : Below w.heap.size w w') : HasP w0 w' ps g cap := ⟨owns_below h.1 hb, h.2⟩
theorem HasP.piles {w0 w : World} {ps : List Pl} {g cap : Nat} (h : HasP w0 w ps g cap) : IsPiles w (some ⟨g, 0, none⟩) ps.length cap ps := IsPiles.of_owned h.1 (by have := h.2.2.2; omega)
end Go.Proofs.Ytgkakgibgfehaaa

namespace Go.Proofs.Ytgkakgibgfehaaa
open Go.RowKit

end Go.Proofs.Ytgkakgibgfehaaa

namespace Go.Proofs.Ytgkakgibgfehaaa
open Go.RowKit

theorem bool_info : (Tq.prog.info? 4).map (fun i => (i.zero, i.size, i.bytes)) = some (some (.bool false), 1, 1) := by kernel_rfl

/-- What a row that is owned says to a reader. -/
theorem IsBools.of_owns {w : World} {base g len cap : Nat} {zs : List Bool} (h : w.ownsRow base 4 1 (.slice (some ⟨g, 0, none⟩) len cap) len (zs.map Value.bool)) (hl : len ≤ 1048600) : IsBools w (some ⟨g, 0, none⟩) len cap zs := by
  have hlen : zs.length = len := by have := h.1; simpa using this
  have hcap : len ≤ cap := by
    rcases h.2 with ⟨e, _⟩ | ⟨_, c, _, e, _, _, hc, _⟩
    · cases e
    · injection e with _ _ e3; omega
  refine ⟨hlen, hcap, hl, fun hp => ⟨g, 0, rfl, ?_, fun j hj => ?_⟩⟩
  · exact (h.lt g rfl).2
  · rw [Nat.zero_add, h.cellAt j (by omega)]
    simp [show j < zs.length from by omega]

end Go.Proofs.Ytgkakgibgfehaaa

namespace Go.Proofs.Ytgkakgibgfehaaa
open Go.RowKit

theorem IsBools.of_owned {w : World} {base len cap : Nat} {a : Option Addr} {zs : List Bool} (h : w.ownsRow base 4 1 (.slice a len cap) len (zs.map Value.bool)) (hl : len ≤ 1048600) : IsBools w a len cap zs := by
  rcases h.2 with ⟨e, e0⟩ | ⟨g, c, _, e, _⟩
  · subst e0
    have hz : zs = [] := by have := h.1; simpa using this
    subst hz
    exact ⟨rfl, Nat.zero_le _, hl, fun hp => by omega⟩
  · injection e with e1 e2 e3
    subst e1
    exact IsBools.of_owns h hl

/-- Who has left, drawn: in memory of the call's own; the reader has gone on. -/
def DrawnLeft (R p : Nat) (w : World) (e : Ending) (w' : World) : Prop := ∃ (zs : List Bool) (a : Option Addr) (cap p' : Nat), e = .returned (.slice a zs.length cap) ∧ w'.ownsRow w.heap.size 4 1 (.slice a zs.length cap) zs.length (zs.map Value.bool) ∧ zs.length ≤ 10 ∧ Rd w' R p' ∧ p' ≤ p + 10 ∧ Step R w w'

set_option maxHeartbeats 2000000 in
/-- **l91Left**. -/
theorem l91Left_any (R p n : Nat) (w : World) (h : Rd w R p) (hp : p + 30 ≤ 1000000) (hn : n ≤ 10) :
    Calls Tq.prog 50 #[.pointer (some ⟨R, 0, none⟩), .int .i64 (n : Int)] w (DrawnLeft R p w) := by
  obtain ⟨i0, hi, hz0, hz1, hz2⟩ := info_parts bool_info
  have hRw := h.1
  have HO0 := Lib.hid (World.ownsRow_lit (base := w.heap.size) (e := 4) (size := 1) w #[] 0 (Nat.le_refl _) (by unfold maxLen; omega) rfl)
  have H0 : Hid (Rd (w.alloc (.cells #[] 4)) R p) := h.below ((Below.refl _ w).alloc (Nat.le_refl _) _)
  have S0 : Hid (Step R w (w.alloc (.cells #[] 4))) := (Step.refl R w).alloc _
  clear h
  go_enter Tq.func50, Tq.ntmps50
  go_wp2
  go_loopw [5, 6] (fun o i wr => ∃ (k : Nat) (zs : List Bool) (a : Option Addr) (cap p' : Nat), k ≤ n ∧ i = .int .i64 k ∧ o = .slice a zs.length cap ∧ Hid (wr.ownsRow w.heap.size 4 1 (.slice a zs.length cap) zs.length (zs.map Value.bool)) ∧ zs.length ≤ k ∧ Hid (Rd wr R p') ∧ p' ≤ p + k ∧ Hid (Step R w wr)) (fun _ i _ => n - (intOf i).toNat)
  case atStart => exact ⟨0, [], _, _, p, by omega, rfl, rfl, HO0, by simp, H0, by omega, S0⟩
  case round =>
    obtain ⟨k, zs, a, cap, p', hkn, rfl, rfl, ho, hzk, hr, hp', hs⟩ := hrel
    by_cases hlt : k < n
    · go_wp2_with fail
      refine (pick_any R p' 3 _ hr.out (by omega) (by omega) (by omega)).mono ?_
      rintro e w2 ⟨c, rfl, hc, hr2, hs2⟩
      have R2 := Lib.hid hr2
      have O2 := Lib.hid (owns_step ho.out hs2 hRw)
      have S2 := Lib.hid (hs.out.trans hs2)
      clear hr ho hs hr2 hs2
      go_wp2_with (at_builtin; refine wpList_append_own _ rfl _ _ 24 rfl w.heap.size 4 i0 (.bool false) 1 1 Tq.underlying24 hi hz0 hz1 hz2 rfl (by decide) _ _ _ rfl (O2.out.alloc _) ⟨w2.heap.size, 0, none⟩ 1 1 [.bool ((c : Int) == 0)] rfl rfl (cell_one_new _ _ _) (by simp [Value.oneCell']) (by unfold maxLen; omega) (by omega) (by have := S2.out.size; simp; omega) ?_; intro v' w4 hown' hgrow _; obtain ⟨a4, cap4, rfl⟩ := owns_slice hown')
      have hrow : ∀ j, (Value.slice a zs.length cap).ownBlock = some j → w.heap.size ≤ j := fun j ej => (O2.out.lt j ej).1
      have R4 : Hid (Rd w4 R (p' + 1)) := (R2.out.below ((Below.refl _ w2).alloc (Nat.le_refl _) _)).grown hgrow (fun j ej => by have := hrow j ej; omega)
      have S4 : Hid (Step R w w4) := (S2.out.alloc _).grown hgrow (fun j ej => .inl (hrow j ej))
      have hlen : (zs ++ [(c : Int) == 0]).length = zs.length + 1 := by simp
      have O4 : Hid (w4.ownsRow w.heap.size 4 1 (.slice a4 (zs ++ [(c : Int) == 0]).length cap4) (zs ++ [(c : Int) == 0]).length ((zs ++ [(c : Int) == 0]).map Value.bool)) := by
        unfold Hid; rw [hlen, List.map_append]; exact hown'
      have HL := Lib.hid hlen
      clear hown' hgrow hrow hlen
      go_wp2
      go_roundw
      case rel => exact ⟨k + 1, zs ++ [(c : Int) == 0], a4, cap4, p' + 1, by omega, by go_num, by rw [HL.out], O4, by rw [HL.out]; omega, R4, by omega, S4⟩
      case measure => simp [intOf]; omega
    · go_wp2
      go_ret
      exact ⟨zs, a, cap, p', rfl, ho.out, by omega, hr.out, by omega, hs.out⟩

end Go.Proofs.Ytgkakgibgfehaaa

namespace Go.Proofs.Ytgkakgibgfehaaa
open Go.RowKit

attribute [local go_sem] Oper.semAt_some

/-- What is drawn: piles, and who has left. -/
def DrewF (w : World) (e : Ending) (w' : World) : Prop := ∃ (ps : List Pl) (g cap : Nat) (L : List Bool) (a : Option Addr) (c : Nat), e = .returned (.tuple #[.slice (some ⟨g, 0, none⟩) ps.length cap, .slice a L.length c]) ∧
  HasP w w' ps g cap ∧ w'.ownsRow w.heap.size 4 1 (.slice a L.length c) L.length (L.map Value.bool) ∧ L.length ≤ 10 ∧ Below w.heap.size w w'

set_option maxRecDepth 100000 in
set_option maxHeartbeats 4000000 in
/-- **DrawFirstCounts**. -/
theorem drawFc_any (a : Option Addr) (len cap : Nat) (bs : List Int) (w : World) (h : IsBytes w a len bs) (hcap : len ≤ cap) (hl : len ≤ 1048600) :
    Calls Tq.prog 14 #[.slice a len cap] w (DrewF w) := by
  have H := Lib.hid h; clear h
  go_enter Tq.func14, Tq.ntmps14
  go_wp2_with fail
  refine (open_any a len cap bs _ H.out hcap hl).mono ?_
  rintro e w1 ⟨rfl, hr, hb⟩
  have R1 := Lib.hid hr
  have B1 := Lib.hid hb
  have hw1 : w.heap.size < w1.heap.size := hr.1
  clear hr hb
  go_wp2_with fail
  refine (pick_any w.heap.size 0 5 _ R1.out (by omega) (by omega) (by omega)).mono ?_
  rintro e w2 ⟨m, rfl, hm, hr, hs⟩
  have R2 := Lib.hid hr
  have B2 := Lib.hid (B1.out.trans (hs.below (Nat.le_refl _) (Nat.le_of_lt hw1)))
  have hw2 : w.heap.size < w2.heap.size := hr.1
  clear hr hs R1 B1
  go_wp2_with fail
  refine (l91Piles_any w.heap.size (0 + 1) (1 + (m : Int)) _ R2.out (by omega) (by omega) (by omega)).mono ?_
  rintro e w3 ⟨ps, g, c, p3, rfl, ho, hsm, hf, hl13, hr, hp3, hs⟩
  have R3 := Lib.hid hr
  have O3 := Lib.hid ho
  have B3 := Lib.hid (B2.out.trans (hs.below (Nat.le_refl _) (Nat.le_of_lt hw2)))
  have HM := Lib.hid hsm
  have HF := Lib.hid hf
  clear ho hs hr hsm hf R2 B2
  go_wp2_with fail
  refine (pick_any w.heap.size p3 16 _ R3.out (by omega) (by omega) (by omega)).mono ?_
  rintro e w4 ⟨d, rfl, hd, hr, hs⟩
  have R4 := Lib.hid hr
  have O4 := Lib.hid (owns_step O3.out hs hw2)
  have B4 := Lib.hid (B3.out.trans (hs.below (Nat.le_refl _) B3.out.size))
  clear hs hr R3 B3 O3
  cases hd0 : ((d : Int) == 0)
  · go_wp2_with fail
    rw [show (1 + (m : Int)) = ((1 + m : Nat) : Int) from by omega]
    refine (l91Left_any w.heap.size (p3 + 1) (1 + m) _ R4.out (by omega) (by omega)).mono ?_
    rintro e w5 ⟨L, a5, c5, p5, rfl, ho, hL, hr, hp5, hs⟩
    have O5 := Lib.hid (owns_step O4.out hs hw2)
    have P5 := Lib.hid (ho.mono (base' := w.heap.size) B4.out.size)
    have B5 := Lib.hid (B4.out.trans (hs.below (Nat.le_refl _) B4.out.size))
    clear hs hr ho
    go_wp2
    go_ret2
    exact ⟨ps, g, c, L, a5, c5, rfl, ⟨O5.out.mono (Nat.le_of_lt hw2), HM.out, HF.out, hl13⟩, P5.out, hL, B5.out⟩
  · go_wp2_with fail
    refine (pick_any w.heap.size (p3 + 1) 7 _ R4.out (by omega) (by omega) (by omega)).mono ?_
    rintro e w5 ⟨q, rfl, hq, hr, hs⟩
    have R5 := Lib.hid hr
    have O5 := Lib.hid (owns_step O4.out hs hw2)
    have B5 := Lib.hid (B4.out.trans (hs.below (Nat.le_refl _) B4.out.size))
    clear hs hr R4 B4 O4
    go_wp2_with fail
    refine (l91Left_any w.heap.size (p3 + 1 + 1) q _ R5.out (by omega) (by omega)).mono ?_
    rintro e w6 ⟨L, a5, c5, p5, rfl, ho, hL, hr, hp5, hs⟩
    have O6 := Lib.hid (owns_step O5.out hs hw2)
    have P6 := Lib.hid (ho.mono (base' := w.heap.size) B5.out.size)
    have B6 := Lib.hid (B5.out.trans (hs.below (Nat.le_refl _) B5.out.size))
    clear hs hr ho
    go_wp2
    go_ret2
    exact ⟨ps, g, c, L, a5, c5, rfl, ⟨O6.out.mono (Nat.le_of_lt hw2), HM.out, HF.out, hl13⟩, P6.out, hL, B6.out⟩

end Go.Proofs.Ytgkakgibgfehaaa

namespace Go.Proofs.Ytgkakgibgfehaaa
open Go.RowKit

theorem owns_under {w w' : World} {base n size : Nat} {e : TypeId} {v : Value} {xs : List Value} (h : w.ownsRow base e size v n xs) (hb : Below w.heap.size w w') : w'.ownsRow base e size v n xs := by
  refine h.kept (row := none) ⟨hb.os, hb.tape, hb.output, hb.size, fun k hk _ => hb.block k hk⟩ ?_
  cases v.ownBlock <;> simp

/-- What is told of a list that is returned with a bool. -/
def Told (w : World) (pl : List Int) (ok : Bool) (e : Ending) (w' : World) : Prop := ∃ a cap, e = .returned (.tuple #[.slice a pl.length cap, .bool ok]) ∧ w'.ownsRow w.heap.size 3 1 (.slice a pl.length cap) pl.length (pl.map (Value.int .i64)) ∧ Below w.heap.size w w'

theorem zeros_made (n : Nat) : (madeCells (Value.int .i64 0).cells (n * 1)).toList = (List.replicate n (0 : Int)).map (Value.int .i64) := by
  rw [show (Value.int .i64 0).cells = #[.int .i64 0] from rfl, toList_madeCells_one]; simp
theorem map_set_int (l : List Int) (i : Nat) (z : Int) : (l.map (Value.int .i64)).set i (.int .i64 z) = (l.set i z).map (Value.int .i64) := by rw [List.map_set]

end Go.Proofs.Ytgkakgibgfehaaa
