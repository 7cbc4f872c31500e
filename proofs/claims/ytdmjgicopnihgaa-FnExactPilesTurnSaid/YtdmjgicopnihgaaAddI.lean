/-
  impl.PilesAdd: for lists of piles with texts of at most 1048600 bytes; what it returns is memory of its own.
-/
import Derived.Test.YtdmjgicopnihgaaMergeI
namespace Go.Proofs.Ytdmjgicopnihgaa
open Go.RowKit Go.Maps

theorem tAt_one (t : ByteArray) (m : Int) : tAt [(t, m)] 0 = t := rfl
theorem mAt_one (t : ByteArray) (m : Int) : mAt [(t, m)] 0 = m := rfl
theorem piles_one (t : ByteArray) (m : Int) : pilesB [(t, m)] = pileB t m := by
  rw [pilesB, show ([(t, m)] : List Pl).length = 0 + 1 from rfl, ascTo_succ, tAt_one, mAt_one]
  simp [ascTo]
theorem join_one (ps : List Pl) (t : ByteArray) (m : Int) : joinB ps [(t, m)] = addB ps t m := by rw [joinB, addB, piles_one]; rfl
theorem joinL_one (ps : List Pl) (t : ByteArray) (m : Int) : joinL ps [(t, m)] = addL ps t m := by rw [joinL, addL, join_one]; rfl
theorem one_piles {w : World} {g : Nat} {t : ByteArray} {m : Int} (hg : g < w.heap.size) (h0 : w.cell? ⟨g, 0, none⟩ = some (.string t)) (h1 : w.cell? ⟨g, 1, none⟩ = some (.int .i64 m)) : IsPiles w (some ⟨g, 0, none⟩) 1 1 [(t, m)] :=
  ⟨rfl, Nat.le_refl _, by omega, fun _ => ⟨g, 0, rfl, hg, fun j hj => by
    obtain rfl : j = 0 := by omega
    exact ⟨h0, h1⟩⟩⟩
theorem Small.one {t : ByteArray} {m : Int} (h : t.size ≤ 1048600) : Small [(t, m)] := Small.of fun p hp => by simp at hp; subst hp; exact h
theorem GaveP.up {w w1 : World} {r : List Pl} {ok : Bool} {e : Ending} {w' : World} (h : GaveP w1 r ok e w') (hb : Below w.heap.size w w1) : GaveP w r ok e w' := by
  obtain ⟨a, cap, he, ho, hB, hn⟩ := h
  exact ⟨a, cap, he, ho.mono hb.size, hb.trans (hB.mono hb.size), hn⟩

set_option maxRecDepth 100000 in
set_option maxHeartbeats 2000000 in
/-- **impl.PilesAdd** answers as addL does. -/
theorem implAdd_as (a1 : Option Addr) (la ca : Nat) (xs : List Pl) (t : ByteArray) (m : Int) (r : List Pl) (ok : Bool) (w : World) (h : IsPiles w a1 la ca xs) (hs : Small xs) (ht : t.size ≤ 1048600) (hr : addL xs t m = r) (hok : addB xs t m = ok) :
    Calls Try.prog 17 #[.slice a1 la ca, .string t, .int .i64 m] w (GaveP w r ok) := by
  have HI := Lib.hid h
  have HS := Lib.hid hs
  have HR := Lib.hid ((joinL_one xs t m).trans hr)
  have HOK := Lib.hid ((join_one xs t m).trans hok)
  clear h hs hr hok
  have hb0 : Below w.heap.size w (w.alloc (.cells #[.string t, .int .i64 m] 37)) := (Below.refl _ w).alloc (Nat.le_refl _) _
  have I2 := Lib.hid (one_piles (t := t) (m := m) (w := w.alloc (.cells #[.string t, .int .i64 m] 37)) (g := w.heap.size) (by simp) (World.cell?_alloc_new w _ _ 0) (World.cell?_alloc_new w _ _ 1))
  go_enter Try.func17, Try.ntmps17
  go_wp2_with fail
  refine (implMerge_as a1 la ca xs _ 1 1 [(t, m)] r ok _ (HI.out.below hb0) HS.out I2.out (Small.one ht) HR.out HOK.out).mono ?_
  rintro e w1 hg
  obtain ⟨a, cap, rfl, ho, hB, hn⟩ := hg.up hb0
  have HO := Lib.hid ho
  have HN := Lib.hid hn
  clear ho hn hg
  go_wp2
  go_ret2
  exact ⟨a, cap, rfl, HO.out, hB, HN.out⟩

end Go.Proofs.Ytdmjgicopnihgaa
