/-
  A step law: append to a slice of the call's own, in a region that draws its order; the parts of a list without, and with twice, one of its members. No condition but what each theorem says.
-/
import Derived.Test.YtppnngccjlnejaaParseB
import Derived.Deep.RegionLaw
namespace Go.Proofs.Ytppnngccjlnejaa
open Go.RowKit

/-- append to a slice of the call's own, as one step of a region that draws. -/
theorem step_append_own {P : Program} {ops : Array Oper} {o : Oper} {a : Act} {w : World} {K : Act → World → Prop} {Q : Exit → Act → World → Prop} {E : Prop}
    (hg : o.guard = none) (s x : Operand) (t : TypeId) (ho : o.op = .call { callee := .builtin .append, args := #[s, x], argTypes := #[t, t] })
    (base : Nat) (e : TypeId) (i : TypeInfo) (z : Value) (size bytes : Nat) (ht : P.underlying t = some (.slice e)) (hi : P.info? e = some i) (hz : i.zero = some z)
    (hsize : i.size = size) (hby : i.bytes = bytes) (hzs : z.cells.size = size) (hsz : 0 < size)
    (v : Value) (n : Nat) (xs : List Value) (hs : a.eval s = v) (hown : w.ownsRow base e size v n xs)
    (ad : Addr) (m c : Nat) (news : List Value) (hx : a.eval x = .slice (some ad) m c) (hl : news.length = m * size) (hnews : ∀ j u, news[j]? = some u → w.cell? (ad.add j) = some u) (h1 : ∀ u ∈ news, u.oneCell' = true)
    (h63 : n + m ≤ maxLen) (hbytes : (n + m) * bytes ≤ 140737488355328) (hbase : base ≤ w.heap.size)
    (h : ∀ v' w', w'.ownsRow base e size v' (n + m) (xs ++ news) → w.grownBy w' v.ownBlock → (v' = .slice none 0 0 ↔ v = .slice none 0 0 ∧ m = 0) → K (a.put o.dst v') w') :
    if Region.wanted o (yielded ops a.tmps) = true then Oper.wp P o a w K Q else E := by
  have hw : Region.wanted o (yielded ops a.tmps) = true := by simp [Region.wanted, hg]
  rw [if_pos hw]
  exact wp_append_own w s x t ho base e i z size bytes ht hi hz hsize hby hzs hsz v n xs hs hown ad m c news hx hl hnews h1 h63 hbytes hbase h

theorem ints_one (zs : List Int) : ∀ u ∈ zs.map (Value.int .i64), u.oneCell' = true := by
  intro u hu
  obtain ⟨z, _, rfl⟩ := List.mem_map.1 hu
  simp [Value.oneCell']

/-- The cells behind a piece of a slice of ints: from off + p on, the first m of what is left. -/
theorem piece_cells {w : World} {b off len : Nat} {zs : List Int} (hz : zs.length = len) (hc : ∀ j, j < len → w.cell? ⟨b, off + j, none⟩ = some (.int .i64 (zs[j]?.getD 0))) (p m q : Nat) (hpm : p + m ≤ len) (hq : q = off + p) :
    ∀ j u, (((zs.drop p).take m).map (Value.int .i64))[j]? = some u → w.cell? ((⟨b, q, none⟩ : Addr).add j) = some u := by
  intro j u hj
  have hjm : j < m := by
    rcases Nat.lt_or_ge j m with h | h
    · exact h
    · rw [List.getElem?_eq_none (by simp; omega)] at hj; cases hj
  have hadd : (⟨b, q, none⟩ : Addr).add j = ⟨b, off + (p + j), none⟩ := by
    subst hq
    by_cases h : j = 0
    · subst h; simp [Addr.add]
    · simp [Addr.add, h]; omega
  rw [hadd, hc (p + j) (by omega)]
  rw [List.getElem?_map, List.getElem?_take_of_lt hjm, List.getElem?_drop] at hj
  have hlt : p + j < zs.length := by omega
  rw [List.getElem?_eq_getElem hlt] at hj ⊢
  simpa using hj

/-- .. all that is left from p on. -/
theorem piece_rest {w : World} {b off len : Nat} {zs : List Int} (hz : zs.length = len) (hc : ∀ j, j < len → w.cell? ⟨b, off + j, none⟩ = some (.int .i64 (zs[j]?.getD 0))) (p q : Nat) (hp : p ≤ len) (hq : q = off + p) :
    ∀ j u, ((zs.drop p).map (Value.int .i64))[j]? = some u → w.cell? ((⟨b, q, none⟩ : Addr).add j) = some u := by
  have h := piece_cells hz hc p (len - p) q (by omega) hq
  have e : (zs.drop p).take (len - p) = zs.drop p := List.take_of_length_le (by simp; omega)
  rwa [e] at h
theorem rest_none {zs : List Int} {p : Nat} (hp : zs.length ≤ p) : ∀ (j : Nat) (u : Value), ((zs.drop p).map (Value.int .i64))[j]? = some u → False := by
  intro j u h
  rw [List.drop_of_length_le hp] at h
  simp at h
theorem joined {w : World} {base n c : Nat} {a : Option Addr} {A B : List Int} (h : w.ownsRow base 3 1 (.slice a n c) n (A.map (Value.int .i64) ++ B.map (Value.int .i64))) (hn : n ≤ 1048600) : IsInts w a n c (A ++ B) := by
  refine IsInts.of_owned (base := base) ?_ hn
  rw [List.map_append]
  exact h

/-- An append to a new slice leaves the cells of an older block as they were. -/
theorem kept_cells {w w5 : World} {t : TypeId} {g off len n c : Nat} {zs : List Int} (hg : g < w.heap.size) (h : (w.alloc (.cells #[] t)).drew.grownBy w5 (Value.slice (some ⟨w.heap.size, 0, none⟩) n c).ownBlock)
    (hc : ∀ j, j < len → w.cell? ⟨g, off + j, none⟩ = some (.int .i64 (zs[j]?.getD 0))) : ∀ j, j < len → w5.cell? ⟨g, off + j, none⟩ = some (.int .i64 (zs[j]?.getD 0)) := fun j hj =>
  (World.cell?_of_block (w := w) ((h.block g (by show g < (w.alloc _).heap.size; simp; omega) (fun e => by
    have : (some g : Option Nat) = some w.heap.size := e
    injection this with e2
    omega)).trans (Below.heap_alloc w _ g hg))).trans (hc j hj)
theorem kept_below {w w5 : World} {t : TypeId} {n c : Nat} (h : (w.alloc (.cells #[] t)).drew.grownBy w5 (Value.slice (some ⟨w.heap.size, 0, none⟩) n c).ownBlock) : Below w.heap.size w w5 :=
  ((Below.refl w.heap.size w).alloc (Nat.le_refl _) _).drew.grown h (by show w.heap.size ≤ (w.alloc _).heap.size; simp) (fun k e => by
    have : (some w.heap.size : Option Nat) = some k := e
    injection this with e2
    omega)

/-- Leaving one out keeps a ballot valid. -/
theorem goodL_iff (zs : List Int) (m : Int) : goodL zs m = true ↔ (∀ z ∈ zs, 0 ≤ z ∧ z ≤ m) ∧ zs.Nodup := by
  constructor
  · intro h; exact ⟨goodTo_mem h, goodTo_nodup h⟩
  · rintro ⟨h1, h2⟩
    simp only [goodL, goodTo, List.all_eq_true, List.mem_range, Bool.and_eq_true, Bool.not_eq_true']
    intro i hi
    have e : zs[i]?.getD 0 = zs[i] := by simp [hi]
    rw [e]
    refine ⟨by have := h1 _ (List.getElem_mem hi); simp [inB]; omega, ?_⟩
    simp only [hasB, List.contains_eq_mem, decide_eq_false_iff_not]
    intro hm
    obtain ⟨j, hj, hje⟩ := List.mem_take_iff_getElem.1 hm
    rw [List.Nodup, List.pairwise_iff_getElem] at h2
    exact h2 j i (by omega) hi (by omega) hje
theorem left_out {zs : List Int} {n : Int} (k : Nat) (h : validB zs n = true) : validB (zs.take k ++ zs.drop (k + 1)) n = true := by
  obtain ⟨h1, h5, _⟩ := validB_mem h
  rw [validB_in h1 h5] at h ⊢
  rw [goodL_iff] at h ⊢
  have hsub : (zs.take k ++ zs.drop (k + 1)).Sublist zs := by
    conv => rhs; rw [← List.take_append_drop k zs]
    refine List.Sublist.append (List.Sublist.refl _) ?_
    rw [← List.drop_drop]
    exact List.drop_sublist 1 _
  exact ⟨fun z hz => h.1 z (hsub.subset hz), h.2.sublist hsub⟩
theorem put_twice {zs : List Int} {n : Int} (k : Nat) (hk : k < zs.length) (h : validB zs n = true) : validB (zs.take (k + 1) ++ zs.drop k) n = false := by
  obtain ⟨h1, h5, _⟩ := validB_mem h
  rw [validB_in h1 h5]
  cases hg : goodL (zs.take (k + 1) ++ zs.drop k) (n - 1) with
  | false => rfl
  | true =>
    rw [goodL_iff] at hg
    have hn := hg.2
    rw [List.nodup_append] at hn
    have ha : zs[k] ∈ zs.take (k + 1) := List.mem_take_iff_getElem.2 ⟨k, by omega, rfl⟩
    have hb : zs[k] ∈ zs.drop k := by rw [List.drop_eq_getElem_cons hk]; exact List.mem_cons_self
    exact absurd rfl (hn.2.2 _ ha _ hb)
theorem valid_five {zs : List Int} {n : Int} (h : validB zs n = true) : validB zs 5 = true := by
  obtain ⟨h1, h5, _⟩ := validB_mem h
  rw [validB_in h1 h5] at h
  rw [validB_in (by omega) (by omega)]
  rw [goodL_iff] at h ⊢
  exact ⟨fun z hz => by have := h.1 z hz; omega, h.2⟩

end Go.Proofs.Ytppnngccjlnejaa
