/-
  What the drawn statements of piles get: DrawPilesAdd.
  samePiles: whether two lists of piles are equal.
  A slice of piles of the call's own, sorted by the library: what it holds then. No function of the seat but Pile.compare.
  impl.sortedPiles: the piles of a map from texts to numbers, in the order of their texts, in memory of its own.
  impl.PilesMerge and impl.PilesAdd: for lists of piles with texts of at most 1048600 bytes; what they return is memory of their own.
  impl.PilesAdd: for lists of piles with texts of at most 1048600 bytes; what it returns is memory of its own.
-/
import Derived.Test.YtafnmongglhlaaaGrp5
import Derived.Laws.StructEq
import Derived.Test.YtafnmongglhlaaaGrp2
import Derived.Shelf.SlSortCmp.WholeK
import Derived.Maps.RangeWalk
import Derived.Maps.OwnSet
import Derived.Maps.Ext
import Derived.Sort.KeysCollected
import Derived.Test.YtafnmongglhlaaaGrp6
import Derived.Maps.OwnOps
namespace Go.Proofs.Ytafnmongglhlaaa
open Go.RowKit

/-- One of the numbers 0, 99, 100, 95. -/
def p4 (d : Nat) : Int := if d = 0 then 0 else if d = 1 then 99 else if d = 2 then 100 else 95
theorem p4_range (d : Nat) : 0 ≤ p4 d ∧ p4 d ≤ 100 := by unfold p4; split <;> (try split) <;> (try split) <;> omega
theorem p4_cell (w : World) (T : TypeId) (d : Nat) (hd : d < 4) : (w.alloc (.cells #[.int .i64 0, .int .i64 99, .int .i64 100, .int .i64 95] T)).cell? ⟨w.heap.size, d, none⟩ = some (.int .i64 (p4 d)) := by
  rw [World.cell?_alloc_new]
  have : d = 0 ∨ d = 1 ∨ d = 2 ∨ d = 3 := by omega
  rcases this with rfl | rfl | rfl | rfl <;> rfl

end Go.Proofs.Ytafnmongglhlaaa

namespace Go.Proofs.Ytafnmongglhlaaa
open Go.RowKit

def eqP (xs ys : List Pl) : Bool := decide (xs = ys)
theorem eqP_self (xs : List Pl) : eqP xs xs = true := by simp [eqP]
theorem takeP_step {xs ys : List Pl} {k : Nat} (hx : k < xs.length) (hy : k < ys.length) (h : xs.take k = ys.take k) (ht : tAt xs k = tAt ys k) (hm : mAt xs k = mAt ys k) : xs.take (k + 1) = ys.take (k + 1) := by
  rw [take_one hx, take_one hy, h, ht, hm]
theorem takeP_part {xs ys : List Pl} {k : Nat} (h : ¬ (tAt xs k = tAt ys k ∧ mAt xs k = mAt ys k)) : eqP xs ys = false := by
  simp only [eqP, decide_eq_false_iff_not]
  rintro rfl
  exact h ⟨rfl, rfl⟩

theorem pile_under : Try.prog.underlying 49 = some (.struct (Try.prog.fieldsOf 49)) := by kernel_rfl
theorem pile_stood : Try.prog.stoodInHeld 49 = false := by kernel_rfl
theorem pile_guard : Try.prog.eqGuardType Try.prog.depth 49 = false := by kernel_rfl
theorem text_ne {a b : ByteArray} (h : ¬ a = b) : ¬ a.toList = b.toList := fun e => h (list_text e)

theorem run_neqP (t1 t2 : ByteArray) (m1 m2 : Int) (v : Bool) (hv : (!(decide (t1 = t2) && decide (m1 = m2))) = v) (w : World) : (binOp .neq 49 (.agg #[.string t1, .int .i64 m1]) (.agg #[.string t2, .int .i64 m2])).run Try.prog w = .ok (.bool v) w := by
  subst hv
  rw [run_neq_struct, run_equalIn_agg _ _ _ _ _ pile_under pile_stood]
  simp [go_sem, Program.fieldsOf, Try.underlying49, Try.underlying9, Try.underlying3, Op.eqFields]
  by_cases h : t1 = t2
  · subst h
    by_cases h2 : m1 = m2 <;> simp [h2]
  · simp [text_ne h, h]
theorem run_guardP (x y : Operand) (xs ys : Array Value) (w : World) : (eqGuard .neq 49 x y (.agg xs) (.agg ys)).run Try.prog w = .ok () w := run_eqGuard_agg w .neq _ x y xs ys pile_guard

end Go.Proofs.Ytafnmongglhlaaa

namespace Go.Proofs.Ytafnmongglhlaaa
open Go.RowKit Go.Shelf Go.Sort

def encP (p : Pl) : List Value := [.string p.1, .int .i64 p.2]
theorem flat_get (ps : List Pl) : ∀ t, t < ps.length * 2 → (flatK encP 2 ps.toArray)[t]! = (cellsP ps)[t]?.getD undef := by
  intro t ht
  rw [get_flatK encP 2 ps.toArray t (by simpa using ht)]
  have hi : t / 2 < ps.length := by omega
  have e : ps.toArray[t / 2]! = (tAt ps (t / 2), mAt ps (t / 2)) := by
    rw [getElem!_pos ps.toArray (t / 2) (by simpa using hi)]
    simp [tAt, mAt, hi]
  rw [e]
  rcases Nat.mod_two_eq_zero_or_one t with h | h
  · have e2 : (cellsP ps)[t]? = some (.string (tAt ps (t / 2))) := by
      have := cellsP_text ps (t / 2) hi
      rwa [show t / 2 * 2 = t by omega] at this
    rw [h, e2]; rfl
  · have e2 : (cellsP ps)[t]? = some (.int .i64 (mAt ps (t / 2))) := by
      have := cellsP_many ps (t / 2) hi
      rwa [show t / 2 * 2 + 1 = t by omega] at this
    rw [h, e2]; rfl
theorem flat_cells (ps : List Pl) : flatK encP 2 ps.toArray = (cellsP ps).toArray := by
  refine ext_get! (by simp [cellsP_length]) fun t ht => ?_
  have ht' : t < ps.length * 2 := by simpa using ht
  rw [flat_get ps t ht']
  have hl : t < (cellsP ps).length := by rw [cellsP_length]; exact ht'
  rw [getElem!_pos (cellsP ps).toArray t (by simpa using hl)]
  simp [hl]
theorem holdsP_of_block {w : World} {g : Nat} {cur : Array Value} {e : TypeId} {ps : List Pl} (hb : w.heap[g]? = some (.cells cur e (0, 0))) (ht : cur.toList.take (ps.length * 2) = cellsP ps) : HoldsK encP 2 w g 0 ps.toArray := by
  unfold HoldsK
  rw [flat_cells]
  intro j hj
  have hj' : j < (cellsP ps).length := by simpa using hj
  have hj2 : j < ps.length * 2 := by rw [cellsP_length] at hj'; exact hj'
  refine ⟨?_, by simp [World.frozen?, hb]⟩
  have h1 : (cur.toList.take (ps.length * 2))[j]? = (cellsP ps)[j]? := by rw [ht]
  rw [List.getElem?_take_of_lt hj2] at h1
  simp only [World.cell?, hb, Nat.zero_add]
  simp only [Option.isSome_none, Bool.false_eq_true, if_false]
  rw [← Array.getElem?_toList, h1]
  simp [hj']
theorem heap_sortedP {w : World} {g n : Nat} {os : Array Obj} {cur : Array Value} {e : TypeId} {fr : Nat × Nat} (d : Array Pl) (hb : w.heap[g]? = some (.cells cur e fr)) :
    (sortWorldK encP 2 w g 0 n d os).heap[g]? = some (.cells (putCells id 0 (flatK encP 2 d) cur) e fr) := by
  have hg : g < w.heap.size := (Array.getElem?_eq_some_iff.1 hb).1
  unfold sortWorldK putRowK
  rw [heap_grow_old _ _ (by simpa using hg)]
  simp [putRow, mapBlock, Sort.ahead, Array.getElem?_modify, hb, onCells]
theorem grownBy_sortedP {w : World} {g n : Nat} {os : Array Obj} (d : Array Pl) : w.grownBy (sortWorldK encP 2 w g 0 n d os) (some g) := by
  refine ⟨rfl, rfl, rfl, by simp [sortWorldK, putRowK], fun k hk hne => ?_⟩
  unfold sortWorldK putRowK
  rw [heap_grow_old _ _ (by simpa using hk)]
  have : g ≠ k := fun e => hne (by rw [e])
  simp [putRow, mapBlock, Sort.ahead, Array.getElem?_modify, this]
theorem take_putP (cur : Array Value) (ts : List Pl) (h : ts.length * 2 ≤ cur.size) : (putCells id 0 (flatK encP 2 ts.toArray) cur).toList.take (ts.length * 2) = cellsP ts := by
  rw [flat_cells]
  apply List.ext_getElem?
  intro j
  by_cases hj : j < ts.length * 2
  · have hl : j < (cellsP ts).length := by rw [cellsP_length]; exact hj
    rw [List.getElem?_take_of_lt hj, Array.getElem?_toList]
    simp [putCells, hl, show j < cur.size by omega]
  · rw [List.getElem?_take_eq_none (by omega), List.getElem?_eq_none (by rw [cellsP_length]; omega)]
/-- BEHIND THE SORT the same slice owns the sorted piles. -/
theorem owns_sortedP {w : World} {base g cap n : Nat} {e : TypeId} {os : Array Obj} {ps ts : List Pl} {len : Nat} (h : w.ownsRow base e 2 (.slice (some ⟨g, 0, none⟩) len cap) len (cellsP ps)) (hl : ts.length = len) :
    (sortWorldK encP 2 w g 0 n ts.toArray os).ownsRow base e 2 (.slice (some ⟨g, 0, none⟩) len cap) len (cellsP ts) := by
  rcases h.2 with ⟨e0, _⟩ | ⟨g', cap', cur, e1, hbase, hb, h1, h2, h3, h4⟩
  · cases e0
  · cases e1
    refine ⟨by rw [cellsP_length, hl], .inr ⟨g, cap, _, rfl, hbase, heap_sortedP _ hb, h1, h2, by simp [putCells, h3], ?_⟩⟩
    rw [← hl]
    exact take_putP cur ts (by omega)
theorem holdsP_of_owns {w : World} {base g cap : Nat} {e : TypeId} {ps : List Pl} {len : Nat} (h : w.ownsRow base e 2 (.slice (some ⟨g, 0, none⟩) len cap) len (cellsP ps)) (hl : ps.length = len) : HoldsK encP 2 w g 0 ps.toArray := by
  rcases h.2 with ⟨e0, _⟩ | ⟨g', cap', cur, e1, hbase, hb, h1, h2, h3, h4⟩
  · cases e0
  · cases e1
    exact holdsP_of_block hb (by rw [hl]; exact h4)
theorem cmpLaysP (blk off size : Nat) (w : World) : CmpLays Try.prog 88 #[] encP 2 cmpP blk off size w :=
  fun _ _ _ _ x y => compare_any x y _
theorem ltOf_P : Go.Proofs.ltOf cmpP = ltP := by
  funext x y
  unfold Go.Proofs.ltOf
  exact lt_cmpP x y

end Go.Proofs.Ytafnmongglhlaaa

namespace Go.Proofs.Ytafnmongglhlaaa
open Go.RowKit Go.Maps Go.Sort

theorem lawS : Keyed Try.prog 9 := string_keyed Try.underlying9
theorem size_le {w : World} {P : Program} {k : TypeId} {R : Value → Option (DataW Unit × List MemPlace)} {b n : Nat} {D : DataW Unit} (h : w.ownsMap P k R b n D) : Maps.size D ≤ n := by
  obtain ⟨es, clock, _, _, hn, rfl⟩ := h
  rw [Maps.size_eq, length_sorted]
  simpa using hn
theorem enc_text (x : List UInt8) : encStr x = .string ⟨x.toArray⟩ := rfl
theorem kT_list (x : List UInt8) : kT ⟨x.toArray⟩ = .string x := by simp [kT]
theorem rowP_ne_iter {P : Program} {k : TypeId} {R : Value → Option (DataW Unit × List MemPlace)} {w : World} {b r n : Nat} {D : DataW Unit} {left : Lit → Bool} {cnt base : Nat} {e : TypeId} {size : Nat} {v : Value} {m : Nat} {xs : List Value}
    (h : w.ownsRow base e size v m xs) (hr : w.ranges P k R b r n D left cnt) : some r ≠ v.ownBlock := by
  obtain ⟨_, _, _, _, _, _, _, _, _, hit, _⟩ := hr
  rcases h.2 with ⟨rfl, _⟩ | ⟨g, cap, cur, rfl, _, hb, _⟩
  · simp [Value.ownBlock]
  · intro e1
    have : r = g := by simpa [Value.ownBlock] using e1
    subst this
    rw [hit] at hb
    cases hb
theorem rowP_ne_low {w : World} {base : Nat} {e : TypeId} {size : Nat} {v : Value} {n : Nat} {xs : List Value} (h : w.ownsRow base e size v n xs) {b : Nat} (hb : b < base) : some b ≠ v.ownBlock := fun e1 => by
  have := (h.lt b e1.symm).1
  omega

theorem not_nil' {w : World} {base n size : Nat} {e : TypeId} {v : Value} {xs : List Value} (h : w.ownsRow base e size v n xs) (hn : v ≠ .slice none 0 0) : ∃ g c, v = .slice (some ⟨g, 0, none⟩) n c := by
  rcases h.2 with ⟨e0, _⟩ | ⟨g, c, _, e, _⟩
  · exact absurd e0 hn
  · exact ⟨g, c, e⟩

end Go.Proofs.Ytafnmongglhlaaa

namespace Go.Proofs.Ytafnmongglhlaaa
open Go.RowKit Go.Maps

theorem zeroE (w : World) : (zeroValue 3).run Try.prog w = .ok (.int .i64 0) w := by kernel_rfl
theorem merged_eq {ts xs ys : List Pl} (h : Asc ts ∧ (∀ u, tot ts u = tot (xs ++ ys) u) ∧ ∀ q ∈ ts, ∃ p ∈ xs ++ ys, p.1 = q.1) (hx : pilesB xs = true) (hy : pilesB ys = true) : ts = mergeL xs ys := by
  have px := pilesB_pos hx
  have py := pilesB_pos hy
  refine piles_ext h.1 (asc_merge px.1 _) (fun q hq => ?_) (pos_merge px.2.1 py.2.1) (fun u => by rw [h.2.1, tot_app, tot_merge])
  rw [← tot_mem h.1 q hq, h.2.1]
  refine tot_pos (fun p hp => ?_) (h.2.2 q hq)
  rcases List.mem_append.1 hp with hp | hp
  · exact px.2.1 p hp
  · exact py.2.1 p hp
/-- The piles before list number r, of two. -/
def before2 (xs : List Pl) (r : Nat) (ys : List Pl) : List Pl := if r = 0 then [] else if r = 1 then xs else xs ++ ys
theorem tot_small {xs ys : List Pl} {r j : Nat} {zs : List Pl} (hx : pilesB xs = true) (hy : pilesB ys = true) (hz : zs = xs ∨ zs = ys) (u : ByteArray) : 0 ≤ tot (before2 xs r ys ++ zs.take j) u ∧ tot (before2 xs r ys ++ zs.take j) u ≤ 1000000 := by
  have px := pilesB_pos hx
  have py := pilesB_pos hy
  have hin : ∀ p ∈ before2 xs r ys, p ∈ xs ∨ p ∈ ys := fun p hp => by
    unfold before2 at hp
    split at hp
    · cases hp
    · split at hp
      · exact .inl hp
      · exact List.mem_append.1 hp
  have hz1 : ∀ p ∈ zs.take j, p ∈ xs ∨ p ∈ ys := fun p hp => by
    have := List.mem_of_mem_take hp
    rcases hz with e | e
    · rw [e] at this; exact .inl this
    · rw [e] at this; exact .inr this
  have hm : ∀ p ∈ before2 xs r ys ++ zs.take j, 0 ≤ p.2 ∧ p.2 ≤ 99 := fun p hp => by
    have : p ∈ xs ∨ p ∈ ys := (List.mem_append.1 hp).elim (hin p) (hz1 p)
    rcases this with h | h
    · have h1 := px.2.1 p h; have h2 := px.2.2.1 p h; omega
    · have h1 := py.2.1 p h; have h2 := py.2.2.1 p h; omega
  have hb := tot_bound hm u
  have h1 := px.2.2.2.2
  have h2 := py.2.2.2.2
  have h3 : (zs.take j).length ≤ 12 := by
    rw [List.length_take]
    rcases hz with e | e <;> rw [e] <;> omega
  have h4 : (before2 xs r ys).length ≤ 24 := by
    unfold before2
    split
    · simp
    · split
      · omega
      · rw [List.length_append]; omega
  rw [List.length_append] at hb
  omega

theorem look_eq {D : DataW Unit} {ps : List Pl} {t : ByteArray} {s c : Int} (hM : MapIs D ps) (hs : tot ps t = s) (hat : D.atKey (.string t.data.toList) (.lit (.int .i64 0)) = .lit (.int .i64 c)) : c = s := by
  have h1 : D.atKey (kT t) (iL 0) = iL c := hat
  rw [hM.2 t, hs] at h1
  injection h1 with h1
  injection h1 with _ h1
  exact h1.symm

end Go.Proofs.Ytafnmongglhlaaa

namespace Go.Proofs.Ytafnmongglhlaaa
open Go.RowKit Go.Maps

theorem tAt_one (t : ByteArray) (m : Int) : tAt [(t, m)] 0 = t := rfl
theorem mAt_one (t : ByteArray) (m : Int) : mAt [(t, m)] 0 = m := rfl
theorem piles_one (t : ByteArray) (m : Int) : pilesB [(t, m)] = pileB t m := by
  rw [pilesB, show ([(t, m)] : List Pl).length = 0 + 1 from rfl, ascTo_succ, tAt_one, mAt_one]
  simp [ascTo]
theorem join_one (ps : List Pl) (t : ByteArray) (m : Int) : joinB ps [(t, m)] = addB ps t m := by rw [joinB, addB, piles_one]; rfl
theorem joinL_one (ps : List Pl) (t : ByteArray) (m : Int) : joinL ps [(t, m)] = addL ps t m := by rw [joinL, addL, join_one]; rfl
theorem one_piles {w : World} {g : Nat} {t : ByteArray} {m : Int} (hg : g < w.heap.size) (h0 : w.cell? ⟨g, 0, none⟩ = some (.string t)) (h1 : w.cell? ⟨g, 1, none⟩ = some (.int .i64 m)) : IsPiles w (some ⟨g, 0, none⟩) 1 1 [(t, m)] :=
  ⟨rfl, Nat.le_refl _, by omega, fun _ => ⟨g, 0, rfl, hg, fun j hj => by
    obtain rfl : j = 0 := by omega
    exact ⟨h0, h1⟩⟩⟩
theorem Small.one {t : ByteArray} {m : Int} (h : t.size ≤ 1048600) : Small [(t, m)] := Small.of fun p hp => by simp at hp; subst hp; exact h
theorem GaveP.up {w w1 : World} {r : List Pl} {ok : Bool} {e : Ending} {w' : World} (h : GaveP w1 r ok e w') (hb : Below w.heap.size w w1) : GaveP w r ok e w' := by
  obtain ⟨a, cap, he, ho, hB, hn⟩ := h
  exact ⟨a, cap, he, ho.mono hb.size, hb.trans (hB.mono hb.size), hn⟩

end Go.Proofs.Ytafnmongglhlaaa
