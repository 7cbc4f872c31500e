/-
  spec.PilesAdd: for lists of piles with an address and texts of at most 1048600 bytes; what it returns is memory of its own.
-/
import Derived.Test.YtaaamidkfhabnabPutL
namespace Go.Proofs.Ytaaamidkfhabnab
open Go.RowKit

/-- Piles of the call's own, and whether. -/
def GaveP (w : World) (r : List Pl) (ok : Bool) (e : Ending) (w' : World) : Prop :=
  ∃ a cap, e = .returned (.tuple #[.slice a r.length cap, .bool ok]) ∧ w'.ownsRow w.heap.size 45 2 (.slice a r.length cap) r.length (cellsP r) ∧ Below w.heap.size w w' ∧ (ok = true → ∃ g, a = some ⟨g, 0, none⟩)
theorem specPiles_as (a : Option Addr) (len cap : Nat) (ps : List Pl) (v : Bool) (w : World) (h : IsPiles w a len cap ps) (hs : Small ps) (hv : pilesB ps = v) :
    Calls Try.prog 52 #[.slice a len cap] w fun e w' => e = .returned (.bool v) ∧ Below w.heap.size w w' := by subst hv; exact specPiles_any a len cap ps w h hs
theorem Small.put {ps : List Pl} {t : ByteArray} {m : Int} (h : Small ps) (ht : t.size ≤ 1048600) : Small (putL ps t m) := Small.of fun q hq => by
  rcases put_texts q hq with e | ⟨p, hp, e⟩
  · rw [e]; exact ht
  · rw [← e]
    obtain ⟨i, hi, rfl⟩ := List.mem_iff_getElem.1 hp
    have := h i
    unfold tAt at this
    simpa [hi] using this
theorem mAt_valid {ps : List Pl} (h : pilesB ps = true) (i : Nat) : 0 ≤ mAt ps i ∧ mAt ps i ≤ 99 := by
  have hp := pilesB_pos h
  unfold mAt
  cases e : ps[i]? with
  | none => simp
  | some p => have h1 := hp.2.1 p (List.mem_of_getElem? e); have h2 := hp.2.2.1 p (List.mem_of_getElem? e); simp; omega
theorem mAt_wide {ps : List Pl} (h : ∀ i, 0 ≤ mAt ps i ∧ mAt ps i ≤ 99) : ∀ i, 0 ≤ mAt ps i ∧ mAt ps i ≤ 1000000 := fun i => ⟨(h i).1, by have := (h i).2; omega⟩
theorem ret_piles {a a' : Option Addr} {n n' c : Nat} {b b' : Bool} (h : a = a') (hn : n = n') (hb : b = b') : Ending.returned (.tuple #[.slice a n c, .bool b]) = .returned (.tuple #[.slice a' n' c, .bool b']) := by rw [h, hn, hb]
theorem empty_lit (w : World) (T : TypeId) (base : Nat) (h : base ≤ w.heap.size) : (w.alloc (.cells #[] T)).ownsRow base T 2 (.slice (some ⟨w.heap.size, 0, none⟩) 0 0) 0 [] := World.ownsRow_lit (base := base) (e := T) (size := 2) w #[] 0 h (by unfold maxLen; omega) rfl

end Go.Proofs.Ytaaamidkfhabnab
