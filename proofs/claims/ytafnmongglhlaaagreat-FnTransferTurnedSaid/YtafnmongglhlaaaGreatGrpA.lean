/-
  What the drawn statements of piles get: DrawPilesAdd.
  samePiles: whether two lists of piles are equal.
  A slice of piles of the call's own, sorted by the library: what it holds then. No function of the seat but Pile.compare.
  impl.sortedPiles: the piles of a map from texts to numbers, in the order of their texts, in memory of its own.
  impl.PilesMerge and impl.PilesAdd: for lists of piles with texts of at most 1048600 bytes; what they return is memory of their own.
  impl.PilesAdd: for lists of piles with texts of at most 1048600 bytes; what it returns is memory of its own.
-/
import Derived.Test.YtafnmongglhlaaaGreatGrp5
import Derived.Laws.StructEq
import Derived.Test.YtafnmongglhlaaaGreatGrp2
import Derived.Shelf.SlSortCmp.WholeK
import Derived.Maps.RangeWalk
import Derived.Maps.OwnSet
import Derived.Maps.Ext
import Derived.Sort.KeysCollected
import Derived.Test.YtafnmongglhlaaaGreatGrp6
import Derived.Maps.OwnOps
namespace Go.Proofs.YtafnmongglhlaaaGreat
open Go.RowKit

/-- One of the numbers 0, 99, 100, 95. -/
def p4 (d : Nat) : Int := if d = 0 then 0 else if d = 1 then 99 else if d = 2 then 100 else 95
theorem p4_range (d : Nat) : 0 ≤ p4 d ∧ p4 d ≤ 100 := by unfold p4; split <;> (try split) <;> (try split) <;> omega
theorem p4_cell (w : World) (T : TypeId) (d : Nat) (hd : d < 4) : (w.alloc (.cells #[.int .i64 0, .int .i64 99, .int .i64 100, .int .i64 95] T)).cell? ⟨w.heap.size, d, none⟩ = some (.int .i64 (p4 d)) := by
  rw [World.cell?_alloc_new]
  have : d = 0 ∨ d = 1 ∨ d = 2 ∨ d = 3 := by omega
  rcases this with rfl | rfl | rfl | rfl <;> rfl

end Go.Proofs.YtafnmongglhlaaaGreat

namespace Go.Proofs.YtafnmongglhlaaaGreat
open Go.RowKit

def eqP (xs ys : List Pl) : Bool := decide (xs = ys)
theorem eqP_self (xs : List Pl) : eqP xs xs = true := by simp [eqP]
theorem takeP_step {xs ys : List Pl} {k : Nat} (hx : k < xs.length) (hy : k < ys.length) (h : xs.take k = ys.take k) (ht : tAt xs k = tAt ys k) (hm : mAt xs k = mAt ys k) : xs.take (k + 1) = ys.take (k + 1) := by
  rw [take_one hx, take_one hy, h, ht, hm]
theorem takeP_part {xs ys : List Pl} {k : Nat} (h : ¬ (tAt xs k = tAt ys k ∧ mAt xs k = mAt ys k)) : eqP xs ys = false := by
  simp only [eqP, decide_eq_false_iff_not]
  rintro rfl
  exact h ⟨rfl, rfl⟩

theorem pile_under : Tryz.prog.underlying 59 = some (.struct (Tryz.prog.fieldsOf 59)) := by kernel_rfl
theorem pile_stood : Tryz.prog.stoodInHeld 59 = false := by kernel_rfl
theorem pile_guard : Tryz.prog.eqGuardType Tryz.prog.depth 59 = false := by kernel_rfl
theorem text_ne {a b : ByteArray} (h : ¬ a = b) : ¬ a.toList = b.toList := fun e => h (list_text e)

theorem run_neqP (t1 t2 : ByteArray) (m1 m2 : Int) (v : Bool) (hv : (!(decide (t1 = t2) && decide (m1 = m2))) = v) (w : World) : (binOp .neq 59 (.agg #[.string t1, .int .i64 m1]) (.agg #[.string t2, .int .i64 m2])).run Tryz.prog w = .ok (.bool v) w := by
  subst hv
  rw [run_neq_struct, run_equalIn_agg _ _ _ _ _ pile_under pile_stood]
  simp [go_sem, Program.fieldsOf, Tryz.underlying59, Tryz.underlying9, Tryz.underlying3, Op.eqFields]
  by_cases h : t1 = t2
  · subst h
    by_cases h2 : m1 = m2 <;> simp [h2]
  · simp [text_ne h, h]
theorem run_guardP (x y : Operand) (xs ys : Array Value) (w : World) : (eqGuard .neq 59 x y (.agg xs) (.agg ys)).run Tryz.prog w = .ok () w := run_eqGuard_agg w .neq _ x y xs ys pile_guard

end Go.Proofs.YtafnmongglhlaaaGreat

namespace Go.Proofs.YtafnmongglhlaaaGreat
open Go.RowKit Go.Shelf Go.Sort

def encP (p : Pl) : List Value := [.string p.1, .int .i64 p.2]
theorem flat_get (ps : List Pl) : ∀ t, t < ps.length * 2 → (flatK encP 2 ps.toArray)[t]! = (cellsP ps)[t]?.getD undef := by
  intro t ht
  rw [get_flatK encP 2 ps.toArray t (by simpa using ht)]
  have hi : t / 2 < ps.length := by omega
  have e : ps.toArray[t / 2]! = (tAt ps (t / 2), mAt ps (t / 2)) := by
    rw [getElem!_pos ps.toArray (t / 2) (by simpa using hi)]
    simp [tAt, mAt, hi]
  rw [e]
  rcases Nat.mod_two_eq_zero_or_one t with h | h
  · have e2 : (cellsP ps)[t]? = some (.string (tAt ps (t / 2))) := by
      have := cellsP_text ps (t / 2) hi
      rwa [show t / 2 * 2 = t by omega] at this
    rw [h, e2]; rfl
  · have e2 : (cellsP ps)[t]? = some (.int .i64 (mAt ps (t / 2))) := by
      have := cellsP_many ps (t / 2) hi
      rwa [show t / 2 * 2 + 1 = t by omega] at this
    rw [h, e2]; rfl
theorem flat_cells (ps : List Pl) : flatK encP 2 ps.toArray = (cellsP ps).toArray := by
  refine ext_get! (by simp [cellsP_length]) fun t ht => ?_
  have ht' : t < ps.length * 2 := by simpa using ht
  rw [flat_get ps t ht']
  have hl : t < (cellsP ps).length := by rw [cellsP_length]; exact ht'
  rw [getElem!_pos (cellsP ps).toArray t (by simpa using hl)]
  simp [hl]
theorem holdsP_of_block {w : World} {g : Nat} {cur : Array Value} {e : TypeId} {ps : List Pl} (hb : w.heap[g]? = some (.cells cur e (0, 0))) (ht : cur.toList.take (ps.length * 2) = cellsP ps) : HoldsK encP 2 w g 0 ps.toArray := by
  unfold HoldsK
  rw [flat_cells]
  intro j hj
  have hj' : j < (cellsP ps).length := by simpa using hj
  have hj2 : j < ps.length * 2 := by rw [cellsP_length] at hj'; exact hj'
  refine ⟨?_, by simp [World.frozen?, hb]⟩
  have h1 : (cur.toList.take (ps.length * 2))[j]? = (cellsP ps)[j]? := by rw [ht]
  rw [List.getElem?_take_of_lt hj2] at h1
  simp only [World.cell?, hb, Nat.zero_add]
  simp only [Option.isSome_none, Bool.false_eq_true, if_false]
  rw [← Array.getElem?_toList, h1]
  simp [hj']
theorem heap_sortedP {w : World} {g n : Nat} {os : Array Obj} {cur : Array Value} {e : TypeId} {fr : Nat × Nat} (d : Array Pl) (hb : w.heap[g]? = some (.cells cur e fr)) :
    (sortWorldK encP 2 w g 0 n d os).heap[g]? = some (.cells (putCells id 0 (flatK encP 2 d) cur) e fr) := by
  have hg : g < w.heap.size := (Array.getElem?_eq_some_iff.1 hb).1
  unfold sortWorldK putRowK
  rw [heap_grow_old _ _ (by simpa using hg)]
  simp [putRow, mapBlock, Sort.ahead, Array.getElem?_modify, hb, onCells]
theorem grownBy_sortedP {w : World} {g n : Nat} {os : Array Obj} (d : Array Pl) : w.grownBy (sortWorldK encP 2 w g 0 n d os) (some g) := by
  refine ⟨rfl, rfl, rfl, by simp [sortWorldK, putRowK], fun k hk hne => ?_⟩
  unfold sortWorldK putRowK
  rw [heap_grow_old _ _ (by simpa using hk)]
  have : g ≠ k := fun e => hne (by rw [e])
  simp [putRow, mapBlock, Sort.ahead, Array.getElem?_modify, this]
theorem take_putP (cur : Array Value) (ts : List Pl) (h : ts.length * 2 ≤ cur.size) : (putCells id 0 (flatK encP 2 ts.toArray) cur).toList.take (ts.length * 2) = cellsP ts := by
  rw [flat_cells]
  apply List.ext_getElem?
  intro j
  by_cases hj : j < ts.length * 2
  · have hl : j < (cellsP ts).length := by rw [cellsP_length]; exact hj
    rw [List.getElem?_take_of_lt hj, Array.getElem?_toList]
    simp [putCells, hl, show j < cur.size by omega]
  · rw [List.getElem?_take_eq_none (by omega), List.getElem?_eq_none (by rw [cellsP_length]; omega)]
/-- BEHIND THE SORT the same slice owns the sorted piles. -/
theorem owns_sortedP {w : World} {base g cap n : Nat} {e : TypeId} {os : Array Obj} {ps ts : List Pl} {len : Nat} (h : w.ownsRow base e 2 (.slice (some ⟨g, 0, none⟩) len cap) len (cellsP ps)) (hl : ts.length = len) :
    (sortWorldK encP 2 w g 0 n ts.toArray os).ownsRow base e 2 (.slice (some ⟨g, 0, none⟩) len cap) len (cellsP ts) := by
  rcases h.2 with ⟨e0, _⟩ | ⟨g', cap', cur, e1, hbase, hb, h1, h2, h3, h4⟩
  · cases e0
  · cases e1
    refine ⟨by rw [cellsP_length, hl], .inr ⟨g, cap, _, rfl, hbase, heap_sortedP _ hb, h1, h2, by simp [putCells, h3], ?_⟩⟩
    rw [← hl]
    exact take_putP cur ts (by omega)
theorem holdsP_of_owns {w : World} {base g cap : Nat} {e : TypeId} {ps : List Pl} {len : Nat} (h : w.ownsRow base e 2 (.slice (some ⟨g, 0, none⟩) len cap) len (cellsP ps)) (hl : ps.length = len) : HoldsK encP 2 w g 0 ps.toArray := by
  rcases h.2 with ⟨e0, _⟩ | ⟨g', cap', cur, e1, hbase, hb, h1, h2, h3, h4⟩
  · cases e0
  · cases e1
    exact holdsP_of_block hb (by rw [hl]; exact h4)
theorem cmpLaysP (blk off size : Nat) (w : World) : CmpLays Tryz.prog 50 #[] encP 2 cmpP blk off size w :=
  fun _ _ _ _ x y => compare_any x y _
theorem ltOf_P : Go.Proofs.ltOf cmpP = ltP := by
  funext x y
  unfold Go.Proofs.ltOf
  exact lt_cmpP x y

set_option maxHeartbeats 1000000 in
/-- **slices.SortFunc** of piles of the call's own, by Pile.compare. -/
theorem sortPiles_any (base g cap : Nat) (e : TypeId) (ps : List Pl) (w : World) (h : w.ownsRow base e 2 (.slice (some ⟨g, 0, none⟩) ps.length cap) ps.length (cellsP ps)) (hlen : ps.length ≤ 1000000) :
    Calls Tryz.prog 53 #[.slice (some ⟨g, 0, none⟩) ps.length cap, .func (.func 50) #[] #[]] w fun e' w' => e' = .returned (.tuple #[]) ∧
      ∃ ts : List Pl, ts.Perm ps ∧ SortedIn ltP 0 ts.length ts.toArray ∧ w'.ownsRow base e 2 (.slice (some ⟨g, 0, none⟩) ps.length cap) ps.length (cellsP ts) ∧ w.grownBy w' (some g) := by
  have hg : g < w.heap.size := (h.lt g rfl).2
  have hcon := AnyQ.slices_SortFunc Tryz.sortPile 2 Tryz.isAgg59 Tryz.sizeOf59 encP (fun _ => rfl) (fun x v hv => by simp [encP] at hv; rcases hv with rfl | rfl <;> rfl) cmpP (by rw [ltOf_P]; exact swo_cmpP) 50 #[] g 0 cap ps.toArray w enters_compare (cmpLaysP g 0 ps.toArray.size w) (holdsP_of_owns h rfl) hg (by simp; omega)
  change Calls Tryz.prog 53 _ _ _ at hcon
  rw [ltOf_P] at hcon
  refine hcon.mono ?_
  rintro e' w' ⟨he, d', n, os, hp, hs, hw⟩
  have hsz : d'.size = ps.length := by simpa using hp.1
  have hperm : d'.toList.Perm ps := by
    have := hp.2.2
    simp [← hsz] at this
    rwa [List.take_of_length_le (by omega)] at this
  refine ⟨he, d'.toList, hperm, by simpa [hsz] using hs, ?_, ?_⟩
  · subst hw
    exact owns_sortedP h (by simpa using hsz)
  · subst hw; exact grownBy_sortedP _

end Go.Proofs.YtafnmongglhlaaaGreat

namespace Go.Proofs.YtafnmongglhlaaaGreat
open Go.RowKit Go.Maps Go.Sort

theorem lawS : Keyed Tryz.prog 9 := string_keyed Tryz.underlying9
theorem size_le {w : World} {P : Program} {k : TypeId} {R : Value → Option (DataW Unit × List MemPlace)} {b n : Nat} {D : DataW Unit} (h : w.ownsMap P k R b n D) : Maps.size D ≤ n := by
  obtain ⟨es, clock, _, _, hn, rfl⟩ := h
  rw [Maps.size_eq, length_sorted]
  simpa using hn
theorem enc_text (x : List UInt8) : encStr x = .string ⟨x.toArray⟩ := rfl
theorem kT_list (x : List UInt8) : kT ⟨x.toArray⟩ = .string x := by simp [kT]
theorem rowP_ne_iter {P : Program} {k : TypeId} {R : Value → Option (DataW Unit × List MemPlace)} {w : World} {b r n : Nat} {D : DataW Unit} {left : Lit → Bool} {cnt base : Nat} {e : TypeId} {size : Nat} {v : Value} {m : Nat} {xs : List Value}
    (h : w.ownsRow base e size v m xs) (hr : w.ranges P k R b r n D left cnt) : some r ≠ v.ownBlock := by
  obtain ⟨_, _, _, _, _, _, _, _, _, hit, _⟩ := hr
  rcases h.2 with ⟨rfl, _⟩ | ⟨g, cap, cur, rfl, _, hb, _⟩
  · simp [Value.ownBlock]
  · intro e1
    have : r = g := by simpa [Value.ownBlock] using e1
    subst this
    rw [hit] at hb
    cases hb
theorem rowP_ne_low {w : World} {base : Nat} {e : TypeId} {size : Nat} {v : Value} {n : Nat} {xs : List Value} (h : w.ownsRow base e size v n xs) {b : Nat} (hb : b < base) : some b ≠ v.ownBlock := fun e1 => by
  have := (h.lt b e1.symm).1
  omega

theorem not_nil' {w : World} {base n size : Nat} {e : TypeId} {v : Value} {xs : List Value} (h : w.ownsRow base e size v n xs) (hn : v ≠ .slice none 0 0) : ∃ g c, v = .slice (some ⟨g, 0, none⟩) n c := by
  rcases h.2 with ⟨e0, _⟩ | ⟨g, c, _, e, _⟩
  · exact absurd e0 hn
  · exact ⟨g, c, e⟩

set_option maxRecDepth 100000 in
set_option maxHeartbeats 4000000 in
theorem sortedPiles_any (B n : Nat) (D : DataW Unit) (ps : List Pl) (w : World) (hown : w.ownsMap Tryz.prog 9 (plainElem Tryz.prog 3) B n D) (hM : MapIs D ps) (hn : n ≤ 1000) :
    Calls Tryz.prog 26 #[.map (some B)] w fun e w' => ∃ (ts : List Pl) (g cap : Nat), e = .returned (.slice (some ⟨g, 0, none⟩) ts.length cap) ∧ (Asc ts ∧ (∀ u, tot ts u = tot ps u) ∧ ∀ q ∈ ts, ∃ p ∈ ps, p.1 = q.1) ∧ ts.length ≤ n ∧
      w'.ownsRow w.heap.size 59 2 (.slice (some ⟨g, 0, none⟩) ts.length cap) ts.length (cellsP ts) ∧ Below w.heap.size w w' := by
  obtain ⟨i0, hi, hz0, hz1, hz2⟩ := info_parts pile_info
  have hbl := hown.lt
  have hsz := size_le hown
  have hmax : Maps.size D ≤ maxLen := by unfold maxLen; omega
  have hby : 24 * Maps.size D ≤ 140737488355328 := by omega
  have HM := Lib.hid hM; clear hM
  go_enter Tryz.func26, Tryz.ntmps26
  go_wp2_with (first
    | (at_len; refine wpList_len_own _ rfl _ 57 rfl 9 3 Tryz.underlying57 _ B n _ rfl hown ?_)
    | (at_make; refine wpList_make_own _ rfl _ _ 23 rfl w.heap.size 59 i0 (.agg #[.string ⟨#[]⟩, .int .i64 0]) 2 Tryz.underlying23 hi hz0 hz1 _ _ _ (Maps.size D) rfl rfl rfl (by rw [hz2]; omega) hmax (Nat.le_refl _) ?_; intro w1 hrow1 hg1)
    | (at_range; refine wpList_range_own _ rfl _ 57 rfl 9 3 lawS Tryz.underlying57 _ B n _ rfl (hown.kept hg1 (by simp)) ?_; intro w0 hrg0 hg0 hs0)
    | go_in)
  go_frame
  go_loopw [3] (fun v wr => ∃ (left : Lit → Bool) (cnt : Nat) (qs : List Pl), wr.ranges Tryz.prog 9 (plainElem Tryz.prog 3) B w1.heap.size n D left cnt ∧ qs.length + cnt ≤ Maps.size D ∧
      wr.ownsRow w.heap.size 59 2 v qs.length (cellsP qs) ∧ v ≠ .slice none 0 0 ∧ Coll D left qs ∧ Below w.heap.size w wr)
    (fun _ wr => wr.rangeLeft B w1.heap.size)
  case atStart =>
    exact ⟨_, _, [], hrg0, by simp, hrow1.kept hg0 (Or.inr (by simp [Value.ownBlock])), by simp, coll_start D,
      ((Below.refl _ _).grown hg1 (Nat.le_refl _) (fun j hj => by cases hj)).grown hg0 hg1.size (fun j hj => by cases hj)⟩
  case round =>
    obtain ⟨left, cnt, qs, hrg, hcs, hrow, hnn, hC, hnx⟩ := hrel
    go_wp2_with (first
      | (at_next; refine wpList_next_ranges _ rfl _ rfl 9 lawS (plainElem Tryz.prog 3) encStr (Value.int .i64) (fun key kl hk => by obtain ⟨x, hx, _⟩ := Maps.keyOf_str Tryz.underlying9 hk; exact ⟨x, hx⟩) (fun v y hv => by obtain ⟨c, rfl, _⟩ := plainElem_int_inv Tryz.underlying3 hv; exact ⟨c, rfl⟩) B w1.heap.size n _ _ _ rfl hrg ?_ ?_)
      | go_in)
    · -- nothing is left
      intro hc0 hl0
      obtain ⟨g, cap, rfl⟩ := not_nil' hrow hnn
      have hq := sortPiles_any w.heap.size g cap _ qs wr hrow (by omega)
      have HQ := Lib.hid hq; clear hq
      go_wp2_with fail
      refine HQ.out.mono ?_
      rintro e w2 ⟨rfl, ts, hp, hs, ho, hgr⟩
      have hl : ts.length = qs.length := hp.length_eq
      have HR : Hid (Asc ts ∧ (∀ u, tot ts u = tot ps u) ∧ ∀ q ∈ ts, ∃ p ∈ ps, p.1 = q.1) := coll_sorted (d' := ts.toArray) HM.out hC hl0 hp (by simpa using hs)
      have HL := Lib.hid hl
      have HO := Lib.hid ho
      have HB : Hid (Below w.heap.size w w2) := hnx.grown hgr hnx.size (fun j hj => by cases hj; exact (hrow.lt g rfl).1)
      clear hp hs ho hgr hl HQ
      go_wp2
      go_ret
      refine ⟨ts, g, cap, by rw [HL.out]; rfl, HR.out, by rw [HL.out]; omega, ?_, HB.out⟩
      rw [HL.out]; exact HO.out
    · -- an entry has come
      intro x c kl yd yp w2 cnt2 hkey hlk hv hat hrg2 hlt hg2 hs2 hen
      obtain ⟨x', ex, rfl, _⟩ := Maps.keyOf_str Tryz.underlying9 hkey
      obtain rfl : x = x' := encStr_inj ex
      obtain ⟨c', ec, hy, hwc⟩ := plainElem_int_inv Tryz.underlying3 hv
      cases ec
      have hrow2 := hrow.kept hg2 (Or.inr (rowP_ne_iter hrow hrg).symm)
      obtain ⟨t, ht⟩ : ∃ t : ByteArray, (⟨x.toArray⟩ : ByteArray) = t := ⟨_, rfl⟩
      have hk : Lit.string x = kT t := by rw [← ht, kT_list]
      rw [hk] at hlk hat hrg2
      have hat' : ∀ zd, D.atKey (kT t) zd = iL c := fun zd => by rw [hat zd]; exact (Prod.mk.inj hy).1
      have hC2 := Lib.hid (coll_step hC hlk hat')
      have hxt : encStr x = .string t := by rw [enc_text, ht]
      rw [hxt] at hen ⊢
      clear hs2 hk hxt hkey hat hat' hlk ht hv hy
      go_wp2_with (first
        | (at_builtin; refine wpList_append_own _ rfl _ _ 23 rfl w.heap.size 59 i0 (.agg #[.string ⟨#[]⟩, .int .i64 0]) 2 24 Tryz.underlying23 hi hz0 hz1 hz2 rfl Nat.two_pos _ _ _ rfl (hrow2.alloc _) ⟨w2.heap.size, 0, none⟩ 1 1 [.string t, .int .i64 c] rfl rfl (two_new _ _ _ _) (by simp [Value.oneCell']) (by unfold maxLen at *; omega) (by omega) (by have := hnx.size; have := hg2.size; simp; omega) ?_; intro v' w3 hown' hg3 hnil3; go_frame)
        | go_in)
      have hrg3 := (hrg2.alloc _).kept hg3 (rowP_ne_low hrow2 hbl) (rowP_ne_iter hrow2 hrg2)
      go_roundw
      case rel =>
        refine ⟨_, cnt2, qs ++ [(t, c)], hrg3, by simp; omega, ?_, fun hv' => by have := (hnil3.1 hv').2; omega, hC2.out, ?_⟩
        · rw [List.length_append, cellsP_app]; exact hown'
        · exact ((hnx.grown hg2 hnx.size (fun j hj => by cases hj; exact hg1.size)).alloc (by have := hnx.size; have := hg2.size; omega) _).grown hg3 (by have := hnx.size; have := hg2.size; simp; omega) (fun j hj => (hrow2.lt j hj).1)
      case measure => rw [hrg3.left_eq, hrg.left_eq]; exact hlt

end Go.Proofs.YtafnmongglhlaaaGreat

namespace Go.Proofs.YtafnmongglhlaaaGreat
open Go.RowKit Go.Maps

theorem zeroE (w : World) : (zeroValue 3).run Tryz.prog w = .ok (.int .i64 0) w := by kernel_rfl
theorem merged_eq {ts xs ys : List Pl} (h : Asc ts ∧ (∀ u, tot ts u = tot (xs ++ ys) u) ∧ ∀ q ∈ ts, ∃ p ∈ xs ++ ys, p.1 = q.1) (hx : pilesB xs = true) (hy : pilesB ys = true) : ts = mergeL xs ys := by
  have px := pilesB_pos hx
  have py := pilesB_pos hy
  refine piles_ext h.1 (asc_merge px.1 _) (fun q hq => ?_) (pos_merge px.2.1 py.2.1) (fun u => by rw [h.2.1, tot_app, tot_merge])
  rw [← tot_mem h.1 q hq, h.2.1]
  refine tot_pos (fun p hp => ?_) (h.2.2 q hq)
  rcases List.mem_append.1 hp with hp | hp
  · exact px.2.1 p hp
  · exact py.2.1 p hp
/-- The piles before list number r, of two. -/
def before2 (xs : List Pl) (r : Nat) (ys : List Pl) : List Pl := if r = 0 then [] else if r = 1 then xs else xs ++ ys
theorem tot_small {xs ys : List Pl} {r j : Nat} {zs : List Pl} (hx : pilesB xs = true) (hy : pilesB ys = true) (hz : zs = xs ∨ zs = ys) (u : ByteArray) : 0 ≤ tot (before2 xs r ys ++ zs.take j) u ∧ tot (before2 xs r ys ++ zs.take j) u ≤ 1000000 := by
  have px := pilesB_pos hx
  have py := pilesB_pos hy
  have hin : ∀ p ∈ before2 xs r ys, p ∈ xs ∨ p ∈ ys := fun p hp => by
    unfold before2 at hp
    split at hp
    · cases hp
    · split at hp
      · exact .inl hp
      · exact List.mem_append.1 hp
  have hz1 : ∀ p ∈ zs.take j, p ∈ xs ∨ p ∈ ys := fun p hp => by
    have := List.mem_of_mem_take hp
    rcases hz with e | e
    · rw [e] at this; exact .inl this
    · rw [e] at this; exact .inr this
  have hm : ∀ p ∈ before2 xs r ys ++ zs.take j, 0 ≤ p.2 ∧ p.2 ≤ 99 := fun p hp => by
    have : p ∈ xs ∨ p ∈ ys := (List.mem_append.1 hp).elim (hin p) (hz1 p)
    rcases this with h | h
    · have h1 := px.2.1 p h; have h2 := px.2.2.1 p h; omega
    · have h1 := py.2.1 p h; have h2 := py.2.2.1 p h; omega
  have hb := tot_bound hm u
  have h1 := px.2.2.2.2
  have h2 := py.2.2.2.2
  have h3 : (zs.take j).length ≤ 12 := by
    rw [List.length_take]
    rcases hz with e | e <;> rw [e] <;> omega
  have h4 : (before2 xs r ys).length ≤ 24 := by
    unfold before2
    split
    · simp
    · split
      · omega
      · rw [List.length_append]; omega
  rw [List.length_append] at hb
  omega

theorem look_eq {D : DataW Unit} {ps : List Pl} {t : ByteArray} {s c : Int} (hM : MapIs D ps) (hs : tot ps t = s) (hat : D.atKey (.string t.data.toList) (.lit (.int .i64 0)) = .lit (.int .i64 c)) : c = s := by
  have h1 : D.atKey (kT t) (iL 0) = iL c := hat
  rw [hM.2 t, hs] at h1
  injection h1 with h1
  injection h1 with _ h1
  exact h1.symm

end Go.Proofs.YtafnmongglhlaaaGreat

namespace Go.Proofs.YtafnmongglhlaaaGreat
open Go.RowKit Go.Maps

theorem tAt_one (t : ByteArray) (m : Int) : tAt [(t, m)] 0 = t := rfl
theorem mAt_one (t : ByteArray) (m : Int) : mAt [(t, m)] 0 = m := rfl
theorem piles_one (t : ByteArray) (m : Int) : pilesB [(t, m)] = pileB t m := by
  rw [pilesB, show ([(t, m)] : List Pl).length = 0 + 1 from rfl, ascTo_succ, tAt_one, mAt_one]
  simp [ascTo]
theorem join_one (ps : List Pl) (t : ByteArray) (m : Int) : joinB ps [(t, m)] = addB ps t m := by rw [joinB, addB, piles_one]; rfl
theorem joinL_one (ps : List Pl) (t : ByteArray) (m : Int) : joinL ps [(t, m)] = addL ps t m := by rw [joinL, addL, join_one]; rfl
theorem one_piles {w : World} {g : Nat} {t : ByteArray} {m : Int} (hg : g < w.heap.size) (h0 : w.cell? ⟨g, 0, none⟩ = some (.string t)) (h1 : w.cell? ⟨g, 1, none⟩ = some (.int .i64 m)) : IsPiles w (some ⟨g, 0, none⟩) 1 1 [(t, m)] :=
  ⟨rfl, Nat.le_refl _, by omega, fun _ => ⟨g, 0, rfl, hg, fun j hj => by
    obtain rfl : j = 0 := by omega
    exact ⟨h0, h1⟩⟩⟩
theorem Small.one {t : ByteArray} {m : Int} (h : t.size ≤ 1048600) : Small [(t, m)] := Small.of fun p hp => by simp at hp; subst hp; exact h
theorem GaveP.up {w w1 : World} {r : List Pl} {ok : Bool} {e : Ending} {w' : World} (h : GaveP w1 r ok e w') (hb : Below w.heap.size w w1) : GaveP w r ok e w' := by
  obtain ⟨a, cap, he, ho, hB, hn⟩ := h
  exact ⟨a, cap, he, ho.mono hb.size, hb.trans (hB.mono hb.size), hn⟩

end Go.Proofs.YtafnmongglhlaaaGreat
