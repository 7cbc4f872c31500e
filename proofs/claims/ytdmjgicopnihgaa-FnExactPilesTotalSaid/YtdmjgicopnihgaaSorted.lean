/-
  impl.sortedPiles: the piles of a map from texts to numbers, in the order of their texts, in memory of its own.
-/
import Derived.Test.YtdmjgicopnihgaaSortM
import Derived.Test.YtdmjgicopnihgaaPutL
import Derived.Maps.RangeWalk
import Derived.Maps.OwnSet
import Derived.Maps.Ext
import Derived.Sort.KeysCollected
namespace Go.Proofs.Ytdmjgicopnihgaa
open Go.RowKit Go.Maps Go.Sort

theorem lawS : Keyed Try.prog 9 := string_keyed Try.underlying9
theorem size_le {w : World} {P : Program} {k : TypeId} {R : Value → Option (DataW Unit × List MemPlace)} {b n : Nat} {D : DataW Unit} (h : w.ownsMap P k R b n D) : Maps.size D ≤ n := by
  obtain ⟨es, clock, _, _, hn, rfl⟩ := h
  rw [Maps.size_eq, length_sorted]
  simpa using hn
theorem enc_text (x : List UInt8) : encStr x = .string ⟨x.toArray⟩ := rfl
theorem kT_list (x : List UInt8) : kT ⟨x.toArray⟩ = .string x := by simp [kT]
theorem rowP_ne_iter {P : Program} {k : TypeId} {R : Value → Option (DataW Unit × List MemPlace)} {w : World} {b r n : Nat} {D : DataW Unit} {left : Lit → Bool} {cnt base : Nat} {e : TypeId} {size : Nat} {v : Value} {m : Nat} {xs : List Value}
    (h : w.ownsRow base e size v m xs) (hr : w.ranges P k R b r n D left cnt) : some r ≠ v.ownBlock := by
  obtain ⟨_, _, _, _, _, _, _, _, _, hit, _⟩ := hr
  rcases h.2 with ⟨rfl, _⟩ | ⟨g, cap, cur, rfl, _, hb, _⟩
  · simp [Value.ownBlock]
  · intro e1
    have : r = g := by simpa [Value.ownBlock] using e1
    subst this
    rw [hit] at hb
    cases hb
theorem rowP_ne_low {w : World} {base : Nat} {e : TypeId} {size : Nat} {v : Value} {n : Nat} {xs : List Value} (h : w.ownsRow base e size v n xs) {b : Nat} (hb : b < base) : some b ≠ v.ownBlock := fun e1 => by
  have := (h.lt b e1.symm).1
  omega

theorem not_nil' {w : World} {base n size : Nat} {e : TypeId} {v : Value} {xs : List Value} (h : w.ownsRow base e size v n xs) (hn : v ≠ .slice none 0 0) : ∃ g c, v = .slice (some ⟨g, 0, none⟩) n c := by
  rcases h.2 with ⟨e0, _⟩ | ⟨g, c, _, e, _⟩
  · exact absurd e0 hn
  · exact ⟨g, c, e⟩

set_option maxRecDepth 100000 in
set_option maxHeartbeats 4000000 in
theorem sortedPiles_any (B n : Nat) (D : DataW Unit) (ps : List Pl) (w : World) (hown : w.ownsMap Try.prog 9 (plainElem Try.prog 3) B n D) (hM : MapIs D ps) (hn : n ≤ 1000) :
    Calls Try.prog 46 #[.map (some B)] w fun e w' => ∃ (ts : List Pl) (g cap : Nat), e = .returned (.slice (some ⟨g, 0, none⟩) ts.length cap) ∧ (Asc ts ∧ (∀ u, tot ts u = tot ps u) ∧ ∀ q ∈ ts, ∃ p ∈ ps, p.1 = q.1) ∧ ts.length ≤ n ∧
      w'.ownsRow w.heap.size 37 2 (.slice (some ⟨g, 0, none⟩) ts.length cap) ts.length (cellsP ts) ∧ Below w.heap.size w w' := by
  obtain ⟨i0, hi, hz0, hz1, hz2⟩ := info_parts pile_info
  have hbl := hown.lt
  have hsz := size_le hown
  have hmax : Maps.size D ≤ maxLen := by unfold maxLen; omega
  have hby : 24 * Maps.size D ≤ 140737488355328 := by omega
  have HM := Lib.hid hM; clear hM
  go_enter Try.func46, Try.ntmps46
  go_wp2_with (first
    | (at_len; refine wpList_len_own _ rfl _ 61 rfl 9 3 Try.underlying61 _ B n _ rfl hown ?_)
    | (at_make; refine wpList_make_own _ rfl _ _ 23 rfl w.heap.size 37 i0 (.agg #[.string ⟨#[]⟩, .int .i64 0]) 2 Try.underlying23 hi hz0 hz1 _ _ _ (Maps.size D) rfl rfl rfl (by rw [hz2]; omega) hmax (Nat.le_refl _) ?_; intro w1 hrow1 hg1)
    | (at_range; refine wpList_range_own _ rfl _ 61 rfl 9 3 lawS Try.underlying61 _ B n _ rfl (hown.kept hg1 (by simp)) ?_; intro w0 hrg0 hg0 hs0)
    | go_in)
  go_frame
  go_loopw [3] (fun v wr => ∃ (left : Lit → Bool) (cnt : Nat) (qs : List Pl), wr.ranges Try.prog 9 (plainElem Try.prog 3) B w1.heap.size n D left cnt ∧ qs.length + cnt ≤ Maps.size D ∧
      wr.ownsRow w.heap.size 37 2 v qs.length (cellsP qs) ∧ v ≠ .slice none 0 0 ∧ Coll D left qs ∧ Below w.heap.size w wr)
    (fun _ wr => wr.rangeLeft B w1.heap.size)
  case atStart =>
    exact ⟨_, _, [], hrg0, by simp, hrow1.kept hg0 (Or.inr (by simp [Value.ownBlock])), by simp, coll_start D,
      ((Below.refl _ _).grown hg1 (Nat.le_refl _) (fun j hj => by cases hj)).grown hg0 hg1.size (fun j hj => by cases hj)⟩
  case round =>
    obtain ⟨left, cnt, qs, hrg, hcs, hrow, hnn, hC, hnx⟩ := hrel
    go_wp2_with (first
      | (at_next; refine wpList_next_ranges _ rfl _ rfl 9 lawS (plainElem Try.prog 3) encStr (Value.int .i64) (fun key kl hk => by obtain ⟨x, hx, _⟩ := Maps.keyOf_str Try.underlying9 hk; exact ⟨x, hx⟩) (fun v y hv => by obtain ⟨c, rfl, _⟩ := plainElem_int_inv Try.underlying3 hv; exact ⟨c, rfl⟩) B w1.heap.size n _ _ _ rfl hrg ?_ ?_)
      | go_in)
    · -- nothing is left
      intro hc0 hl0
      obtain ⟨g, cap, rfl⟩ := not_nil' hrow hnn
      have hq := sortPiles_any w.heap.size g cap _ qs wr hrow (by omega)
      have HQ := Lib.hid hq; clear hq
      go_wp2_with fail
      refine HQ.out.mono ?_
      rintro e w2 ⟨rfl, ts, hp, hs, ho, hgr⟩
      have hl : ts.length = qs.length := hp.length_eq
      have HR : Hid (Asc ts ∧ (∀ u, tot ts u = tot ps u) ∧ ∀ q ∈ ts, ∃ p ∈ ps, p.1 = q.1) := coll_sorted (d' := ts.toArray) HM.out hC hl0 hp (by simpa using hs)
      have HL := Lib.hid hl
      have HO := Lib.hid ho
      have HB : Hid (Below w.heap.size w w2) := hnx.grown hgr hnx.size (fun j hj => by cases hj; exact (hrow.lt g rfl).1)
      clear hp hs ho hgr hl HQ
      go_wp2
      go_ret
      refine ⟨ts, g, cap, by rw [HL.out]; rfl, HR.out, by rw [HL.out]; omega, ?_, HB.out⟩
      rw [HL.out]; exact HO.out
    · -- an entry has come
      intro x c kl yd yp w2 cnt2 hkey hlk hv hat hrg2 hlt hg2 hs2 hen
      obtain ⟨x', ex, rfl, _⟩ := Maps.keyOf_str Try.underlying9 hkey
      obtain rfl : x = x' := encStr_inj ex
      obtain ⟨c', ec, hy, hwc⟩ := plainElem_int_inv Try.underlying3 hv
      cases ec
      have hrow2 := hrow.kept hg2 (Or.inr (rowP_ne_iter hrow hrg).symm)
      obtain ⟨t, ht⟩ : ∃ t : ByteArray, (⟨x.toArray⟩ : ByteArray) = t := ⟨_, rfl⟩
      have hk : Lit.string x = kT t := by rw [← ht, kT_list]
      rw [hk] at hlk hat hrg2
      have hat' : ∀ zd, D.atKey (kT t) zd = iL c := fun zd => by rw [hat zd]; exact (Prod.mk.inj hy).1
      have hC2 := Lib.hid (coll_step hC hlk hat')
      have hxt : encStr x = .string t := by rw [enc_text, ht]
      rw [hxt] at hen ⊢
      clear hs2 hk hxt hkey hat hat' hlk ht hv hy
      go_wp2_with (first
        | (at_builtin; refine wpList_append_own _ rfl _ _ 23 rfl w.heap.size 37 i0 (.agg #[.string ⟨#[]⟩, .int .i64 0]) 2 24 Try.underlying23 hi hz0 hz1 hz2 rfl Nat.two_pos _ _ _ rfl (hrow2.alloc _) ⟨w2.heap.size, 0, none⟩ 1 1 [.string t, .int .i64 c] rfl rfl (two_new _ _ _ _) (by simp [Value.oneCell']) (by unfold maxLen at *; omega) (by omega) (by have := hnx.size; have := hg2.size; simp; omega) ?_; intro v' w3 hown' hg3 hnil3; go_frame)
        | go_in)
      have hrg3 := (hrg2.alloc _).kept hg3 (rowP_ne_low hrow2 hbl) (rowP_ne_iter hrow2 hrg2)
      go_roundw
      case rel =>
        refine ⟨_, cnt2, qs ++ [(t, c)], hrg3, by simp; omega, ?_, fun hv' => by have := (hnil3.1 hv').2; omega, hC2.out, ?_⟩
        · rw [List.length_append, cellsP_app]; exact hown'
        · exact ((hnx.grown hg2 hnx.size (fun j hj => by cases hj; exact hg1.size)).alloc (by have := hnx.size; have := hg2.size; omega) _).grown hg3 (by have := hnx.size; have := hg2.size; simp; omega) (fun j hj => (hrow2.lt j hj).1)
      case measure => rw [hrg3.left_eq, hrg.left_eq]; exact hlt

end Go.Proofs.Ytdmjgicopnihgaa
