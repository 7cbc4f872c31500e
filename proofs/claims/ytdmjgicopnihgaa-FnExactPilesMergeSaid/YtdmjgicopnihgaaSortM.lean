/-
  A slice of piles of the call's own, sorted by the library: what it holds then. No function of the seat but Pile.compare.
-/
import Derived.Test.YtdmjgicopnihgaaCmp
import Derived.Test.YtdmjgicopnihgaaPiles
import Derived.Shelf.SlSortCmp.WholeK
namespace Go.Proofs.Ytdmjgicopnihgaa
open Go.RowKit Go.Shelf Go.Sort

def encP (p : Pl) : List Value := [.string p.1, .int .i64 p.2]
theorem flat_get (ps : List Pl) : ∀ t, t < ps.length * 2 → (flatK encP 2 ps.toArray)[t]! = (cellsP ps)[t]?.getD undef := by
  intro t ht
  rw [get_flatK encP 2 ps.toArray t (by simpa using ht)]
  have hi : t / 2 < ps.length := by omega
  have e : ps.toArray[t / 2]! = (tAt ps (t / 2), mAt ps (t / 2)) := by
    rw [getElem!_pos ps.toArray (t / 2) (by simpa using hi)]
    simp [tAt, mAt, hi]
  rw [e]
  rcases Nat.mod_two_eq_zero_or_one t with h | h
  · have e2 : (cellsP ps)[t]? = some (.string (tAt ps (t / 2))) := by
      have := cellsP_text ps (t / 2) hi
      rwa [show t / 2 * 2 = t by omega] at this
    rw [h, e2]; rfl
  · have e2 : (cellsP ps)[t]? = some (.int .i64 (mAt ps (t / 2))) := by
      have := cellsP_many ps (t / 2) hi
      rwa [show t / 2 * 2 + 1 = t by omega] at this
    rw [h, e2]; rfl
theorem flat_cells (ps : List Pl) : flatK encP 2 ps.toArray = (cellsP ps).toArray := by
  refine ext_get! (by simp [cellsP_length]) fun t ht => ?_
  have ht' : t < ps.length * 2 := by simpa using ht
  rw [flat_get ps t ht']
  have hl : t < (cellsP ps).length := by rw [cellsP_length]; exact ht'
  rw [getElem!_pos (cellsP ps).toArray t (by simpa using hl)]
  simp [hl]
theorem holdsP_of_block {w : World} {g : Nat} {cur : Array Value} {e : TypeId} {ps : List Pl} (hb : w.heap[g]? = some (.cells cur e (0, 0))) (ht : cur.toList.take (ps.length * 2) = cellsP ps) : HoldsK encP 2 w g 0 ps.toArray := by
  unfold HoldsK
  rw [flat_cells]
  intro j hj
  have hj' : j < (cellsP ps).length := by simpa using hj
  have hj2 : j < ps.length * 2 := by rw [cellsP_length] at hj'; exact hj'
  refine ⟨?_, by simp [World.frozen?, hb]⟩
  have h1 : (cur.toList.take (ps.length * 2))[j]? = (cellsP ps)[j]? := by rw [ht]
  rw [List.getElem?_take_of_lt hj2] at h1
  simp only [World.cell?, hb, Nat.zero_add]
  simp only [Option.isSome_none, Bool.false_eq_true, if_false]
  rw [← Array.getElem?_toList, h1]
  simp [hj']
theorem heap_sortedP {w : World} {g n : Nat} {os : Array Obj} {cur : Array Value} {e : TypeId} {fr : Nat × Nat} (d : Array Pl) (hb : w.heap[g]? = some (.cells cur e fr)) :
    (sortWorldK encP 2 w g 0 n d os).heap[g]? = some (.cells (putCells id 0 (flatK encP 2 d) cur) e fr) := by
  have hg : g < w.heap.size := (Array.getElem?_eq_some_iff.1 hb).1
  unfold sortWorldK putRowK
  rw [heap_grow_old _ _ (by simpa using hg)]
  simp [putRow, mapBlock, Sort.ahead, Array.getElem?_modify, hb, onCells]
theorem grownBy_sortedP {w : World} {g n : Nat} {os : Array Obj} (d : Array Pl) : w.grownBy (sortWorldK encP 2 w g 0 n d os) (some g) := by
  refine ⟨rfl, rfl, rfl, by simp [sortWorldK, putRowK], fun k hk hne => ?_⟩
  unfold sortWorldK putRowK
  rw [heap_grow_old _ _ (by simpa using hk)]
  have : g ≠ k := fun e => hne (by rw [e])
  simp [putRow, mapBlock, Sort.ahead, Array.getElem?_modify, this]
theorem take_putP (cur : Array Value) (ts : List Pl) (h : ts.length * 2 ≤ cur.size) : (putCells id 0 (flatK encP 2 ts.toArray) cur).toList.take (ts.length * 2) = cellsP ts := by
  rw [flat_cells]
  apply List.ext_getElem?
  intro j
  by_cases hj : j < ts.length * 2
  · have hl : j < (cellsP ts).length := by rw [cellsP_length]; exact hj
    rw [List.getElem?_take_of_lt hj, Array.getElem?_toList]
    simp [putCells, hl, show j < cur.size by omega]
  · rw [List.getElem?_take_eq_none (by omega), List.getElem?_eq_none (by rw [cellsP_length]; omega)]
/-- BEHIND THE SORT the same slice owns the sorted piles. -/
theorem owns_sortedP {w : World} {base g cap n : Nat} {e : TypeId} {os : Array Obj} {ps ts : List Pl} {len : Nat} (h : w.ownsRow base e 2 (.slice (some ⟨g, 0, none⟩) len cap) len (cellsP ps)) (hl : ts.length = len) :
    (sortWorldK encP 2 w g 0 n ts.toArray os).ownsRow base e 2 (.slice (some ⟨g, 0, none⟩) len cap) len (cellsP ts) := by
  rcases h.2 with ⟨e0, _⟩ | ⟨g', cap', cur, e1, hbase, hb, h1, h2, h3, h4⟩
  · cases e0
  · cases e1
    refine ⟨by rw [cellsP_length, hl], .inr ⟨g, cap, _, rfl, hbase, heap_sortedP _ hb, h1, h2, by simp [putCells, h3], ?_⟩⟩
    rw [← hl]
    exact take_putP cur ts (by omega)
theorem holdsP_of_owns {w : World} {base g cap : Nat} {e : TypeId} {ps : List Pl} {len : Nat} (h : w.ownsRow base e 2 (.slice (some ⟨g, 0, none⟩) len cap) len (cellsP ps)) (hl : ps.length = len) : HoldsK encP 2 w g 0 ps.toArray := by
  rcases h.2 with ⟨e0, _⟩ | ⟨g', cap', cur, e1, hbase, hb, h1, h2, h3, h4⟩
  · cases e0
  · cases e1
    exact holdsP_of_block hb (by rw [hl]; exact h4)
theorem cmpLaysP (blk off size : Nat) (w : World) : CmpLays Try.prog 45 #[] encP 2 cmpP blk off size w :=
  fun _ _ _ _ x y => compare_any x y _
theorem ltOf_P : Go.Proofs.ltOf cmpP = ltP := by
  funext x y
  unfold Go.Proofs.ltOf
  exact lt_cmpP x y

set_option maxHeartbeats 1000000 in
/-- **slices.SortFunc** of piles of the call's own, by Pile.compare. -/
theorem sortPiles_any (base g cap : Nat) (e : TypeId) (ps : List Pl) (w : World) (h : w.ownsRow base e 2 (.slice (some ⟨g, 0, none⟩) ps.length cap) ps.length (cellsP ps)) (hlen : ps.length ≤ 1000000) :
    Calls Try.prog 61 #[.slice (some ⟨g, 0, none⟩) ps.length cap, .func (.func 45) #[] #[]] w fun e' w' => e' = .returned (.tuple #[]) ∧
      ∃ ts : List Pl, ts.Perm ps ∧ SortedIn ltP 0 ts.length ts.toArray ∧ w'.ownsRow base e 2 (.slice (some ⟨g, 0, none⟩) ps.length cap) ps.length (cellsP ts) ∧ w.grownBy w' (some g) := by
  have hg : g < w.heap.size := (h.lt g rfl).2
  have hcon := AnyQ.slices_SortFunc Try.sortPile 2 Try.isAgg37 Try.sizeOf37 encP (fun _ => rfl) (fun x v hv => by simp [encP] at hv; rcases hv with rfl | rfl <;> rfl) cmpP (by rw [ltOf_P]; exact swo_cmpP) 45 #[] g 0 cap ps.toArray w enters_compare (cmpLaysP g 0 ps.toArray.size w) (holdsP_of_owns h rfl) hg (by simp; omega)
  change Calls Try.prog 61 _ _ _ at hcon
  rw [ltOf_P] at hcon
  refine hcon.mono ?_
  rintro e' w' ⟨he, d', n, os, hp, hs, hw⟩
  have hsz : d'.size = ps.length := by simpa using hp.1
  have hperm : d'.toList.Perm ps := by
    have := hp.2.2
    simp [← hsz] at this
    rwa [List.take_of_length_le (by omega)] at this
  refine ⟨he, d'.toList, hperm, by simpa [hsz] using hs, ?_, ?_⟩
  · subst hw
    exact owns_sortedP h (by simpa using hsz)
  · subst hw; exact grownBy_sortedP _

end Go.Proofs.Ytdmjgicopnihgaa
