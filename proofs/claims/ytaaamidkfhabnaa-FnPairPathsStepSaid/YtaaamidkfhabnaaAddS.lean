/-
  spec.PilesAdd: for lists of piles with an address and texts of at most 1048600 bytes; what it returns is memory of its own.
-/
import Derived.Test.YtaaamidkfhabnaaPutL
namespace Go.Proofs.Ytaaamidkfhabnaa
open Go.RowKit

/-- Piles of the call's own, and whether. -/
def GaveP (w : World) (r : List Pl) (ok : Bool) (e : Ending) (w' : World) : Prop :=
  ∃ a cap, e = .returned (.tuple #[.slice a r.length cap, .bool ok]) ∧ w'.ownsRow w.heap.size 59 2 (.slice a r.length cap) r.length (cellsP r) ∧ Below w.heap.size w w' ∧ (ok = true → ∃ g, a = some ⟨g, 0, none⟩)
theorem specPiles_as (a : Option Addr) (len cap : Nat) (ps : List Pl) (v : Bool) (w : World) (h : IsPiles w a len cap ps) (hs : Small ps) (hv : pilesB ps = v) :
    Calls Try.prog 86 #[.slice a len cap] w fun e w' => e = .returned (.bool v) ∧ Below w.heap.size w w' := by subst hv; exact specPiles_any a len cap ps w h hs
theorem Small.put {ps : List Pl} {t : ByteArray} {m : Int} (h : Small ps) (ht : t.size ≤ 1048600) : Small (putL ps t m) := Small.of fun q hq => by
  rcases put_texts q hq with e | ⟨p, hp, e⟩
  · rw [e]; exact ht
  · rw [← e]
    obtain ⟨i, hi, rfl⟩ := List.mem_iff_getElem.1 hp
    have := h i
    unfold tAt at this
    simpa [hi] using this
theorem mAt_valid {ps : List Pl} (h : pilesB ps = true) (i : Nat) : 0 ≤ mAt ps i ∧ mAt ps i ≤ 99 := by
  have hp := pilesB_pos h
  unfold mAt
  cases e : ps[i]? with
  | none => simp
  | some p => have h1 := hp.2.1 p (List.mem_of_getElem? e); have h2 := hp.2.2.1 p (List.mem_of_getElem? e); simp; omega
theorem mAt_wide {ps : List Pl} (h : ∀ i, 0 ≤ mAt ps i ∧ mAt ps i ≤ 99) : ∀ i, 0 ≤ mAt ps i ∧ mAt ps i ≤ 1000000 := fun i => ⟨(h i).1, by have := (h i).2; omega⟩
theorem ret_piles {a a' : Option Addr} {n n' c : Nat} {b b' : Bool} (h : a = a') (hn : n = n') (hb : b = b') : Ending.returned (.tuple #[.slice a n c, .bool b]) = .returned (.tuple #[.slice a' n' c, .bool b']) := by rw [h, hn, hb]
theorem empty_lit (w : World) (T : TypeId) (base : Nat) (h : base ≤ w.heap.size) : (w.alloc (.cells #[] T)).ownsRow base T 2 (.slice (some ⟨w.heap.size, 0, none⟩) 0 0) 0 [] := World.ownsRow_lit (base := base) (e := T) (size := 2) w #[] 0 h (by unfold maxLen; omega) rfl

set_option maxRecDepth 100000 in
set_option maxHeartbeats 4000000 in
/-- **spec.PilesAdd** answers as addL does. -/
theorem specAdd_as (b off len cap : Nat) (ps : List Pl) (t : ByteArray) (m : Int) (r : List Pl) (ok : Bool) (w : World) (h : IsPiles w (some ⟨b, off, none⟩) len cap ps) (hbl : b < w.heap.size) (hs : Small ps) (ht : t.size ≤ 1048600) (hr : addL ps t m = r) (hok : addB ps t m = ok) :
    Calls Try.prog 97 #[.slice (some ⟨b, off, none⟩) len cap, .string t, .int .i64 m] w (GaveP w r ok) := by
  have HI := Lib.hid h
  have HS := Lib.hid hs
  have HR := Lib.hid hr
  have HOK := Lib.hid hok
  have H1 := Lib.hid h.1
  clear h hs hr hok
  go_enter Try.func97, Try.ntmps97
  cases hv : pilesB ps
  · have e : Hid (ok = false) := by rw [Hid, ← HOK.out, addB, hv]; rfl
    have e2 : Hid (r = []) := by rw [Hid, ← HR.out, addL, HOK.out, e.out]; rfl
    have HV := Lib.hid hv; clear hv
    go_wp2_with fail
    refine (specPiles_as _ len cap ps false _ HI.out HS.out HV.out).mono ?_
    rintro e1 w1 ⟨rfl, hb1⟩
    have hsz := hb1.size
    go_wp2
    go_ret2
    refine ⟨some ⟨w1.heap.size, 0, none⟩, 0, ?_, ?_, hb1.alloc hsz _, fun _ => ⟨_, rfl⟩⟩
    · rw [e.out, e2.out]; rfl
    · rw [e2.out]; exact empty_lit w1 _ _ hsz
  · have HV := Lib.hid hv
    cases hp : pileB t m
    · have e : Hid (ok = false) := by rw [Hid, ← HOK.out, addB, hv, hp]; rfl
      have e2 : Hid (r = []) := by rw [Hid, ← HR.out, addL, HOK.out, e.out]; rfl
      have HPB := Lib.hid hp; clear hv hp
      go_wp2_with fail
      refine (specPiles_as _ len cap ps true _ HI.out HS.out HV.out).mono ?_
      rintro e1 w1 ⟨rfl, hb1⟩
      go_wp2_with fail
      refine (l3Pile_as t m false _ ht HPB.out).mono ?_
      rintro e1 w2 ⟨rfl, hb2⟩
      have hB2 := hb1.trans (hb2.mono hb1.size)
      have hsz := hB2.size
      go_wp2
      go_ret2
      refine ⟨some ⟨w2.heap.size, 0, none⟩, 0, ?_, ?_, hB2.alloc hsz _, fun _ => ⟨_, rfl⟩⟩
      · rw [e.out, e2.out]; rfl
      · rw [e2.out]; exact empty_lit w2 _ _ hsz
    · have HPB := Lib.hid hp
      have hm := (pileB_iff t m).1 hp
      have hps := mAt_wide (mAt_valid hv)
      have hlen : len ≤ 12 := by have := (pilesB_pos hv).2.2.2.2; rw [H1.out] at this; exact this
      have HPS := Lib.hid hps
      have hm1 : 0 ≤ m ∧ m ≤ 1000000 := by omega
      obtain ⟨r2, hr2⟩ : ∃ r2, putL ps t m = r2 := ⟨_, rfl⟩
      obtain ⟨v2, hv2⟩ : ∃ v2, pilesB r2 = v2 := ⟨_, rfl⟩
      have HR2 := Lib.hid hr2
      have HV2 := Lib.hid hv2
      have e : Hid (ok = v2) := by rw [Hid, ← HOK.out, addB, hv, hp, hr2, hv2]; rfl
      have hl2 : r2.length ≤ 13 := by have := (put_longer ps t m).2; rw [hr2, H1.out] at this; omega
      have HS2 : Hid (Small r2) := by rw [← hr2]; exact HS.out.put ht
      clear hv hp hps hr2 hv2 hm
      go_wp2_with fail
      refine (specPiles_as _ len cap ps true _ HI.out HS.out HV.out).mono ?_
      rintro e1 w1 ⟨rfl, hb1⟩
      have I1 := Lib.hid (HI.out.below hb1)
      have hbl1 : b < w1.heap.size := Nat.lt_of_lt_of_le hbl hb1.size
      have B1 := Lib.hid hb1; clear hb1
      go_wp2_with fail
      refine (l3Pile_as t m true _ ht HPB.out).mono ?_
      rintro e1 w2 ⟨rfl, hb2⟩
      have I2 := Lib.hid (I1.out.below hb2)
      have hbl2 : b < w2.heap.size := Nat.lt_of_lt_of_le hbl1 hb2.size
      have B2 := Lib.hid (B1.out.trans (hb2.mono B1.out.size)); clear hb2
      go_wp2_with fail
      refine (l3Put_any b off len cap ps t m _ I2.out hbl2 (by omega) HPS.out hm1).mono ?_
      rintro e1 w3 ⟨g, cap', he, ho, hb3⟩
      rw [HR2.out] at he ho
      subst he
      have B3 := Lib.hid (B2.out.trans (hb3.mono B2.out.size))
      have O3 := Lib.hid (ho.mono B2.out.size)
      clear hb3 ho
      go_wp2_with fail
      refine (specPiles_as _ _ _ r2 v2 _ (IsPiles.of_owned O3.out (by omega)) HS2.out HV2.out).mono ?_
      rintro e1 w4 ⟨rfl, hb4⟩
      have O4 := Lib.hid (owns_below O3.out hb4)
      have B4 := Lib.hid (B3.out.trans (hb4.mono B3.out.size)); clear hb4
      cases v2
      · have e2 : Hid (r = []) := by rw [Hid, ← HR.out, addL, HOK.out, e.out]; rfl
        have hsz := B4.out.size
        go_wp2
        go_ret2
        refine ⟨some ⟨w4.heap.size, 0, none⟩, 0, ?_, ?_, B4.out.alloc hsz _, fun _ => ⟨_, rfl⟩⟩
        · rw [e.out, e2.out]; rfl
        · rw [e2.out]; exact empty_lit w4 _ _ hsz
      · have e2 : Hid (r = r2) := by rw [Hid, ← HR.out, addL, HOK.out, e.out, HR2.out]; rfl
        go_wp2
        go_ret2
        refine ⟨some ⟨g, 0, none⟩, cap', ?_, ?_, B4.out, fun _ => ⟨_, rfl⟩⟩
        · rw [e.out, e2.out]; rfl
        · rw [e2.out]; exact O4.out

end Go.Proofs.Ytaaamidkfhabnaa
