/-
  toIntSS makes new rows; markIntSS writes into these rows alone. No condition but what each theorem says.
-/
import Derived.Test.YtpgnneaaemfkoaaGridL
namespace Go.Proofs.Ytpgnneaaemfkoaa
open Go.RowKit

/-- Between the blocks B1 and B2 alone the world may have turned. -/
structure Mid (B1 B2 : Nat) (w w' : World) : Prop where
  os : w'.os = w.os
  tape : w'.tape = w.tape
  output : w'.output = w.output
  size : w.heap.size ≤ w'.heap.size
  block : ∀ k, k < w.heap.size → (k < B1 ∨ B2 ≤ k) → w'.heap[k]? = w.heap[k]?
theorem Mid.refl (B1 B2 : Nat) (w : World) : Mid B1 B2 w w := ⟨rfl, rfl, rfl, Nat.le_refl _, fun _ _ _ => rfl⟩
theorem Mid.step {B1 B2 g : Nat} {a b c : World} (h : Mid B1 B2 a b) (hs : Step g b c) (h1 : B1 ≤ g) (h2 : g < B2) : Mid B1 B2 a c :=
  ⟨hs.os.trans h.os, hs.tape.trans h.tape, hs.output.trans h.output, Nat.le_trans h.size hs.size, fun k hk hne => (hs.block k (Nat.lt_of_lt_of_le hk h.size) (fun e => by cases e; omega)).trans (h.block k hk hne)⟩
theorem Mid.below {B1 B2 : Nat} {w w' : World} (h : Mid B1 B2 w w') (hB : B1 ≤ w.heap.size) : Below B1 w w' :=
  ⟨h.os, h.tape, h.output, h.size, fun k hk => h.block k (by omega) (.inl hk)⟩
theorem owns_mid {B1 B2 base : Nat} {w w' : World} {e : TypeId} {size n : Nat} {v : Value} {xs : List Value} (h : w.ownsRow base e size v n xs) (hm : Mid B1 B2 w w') (hb : B2 ≤ base) : w'.ownsRow base e size v n xs := by
  obtain ⟨h1, h2⟩ := h
  refine ⟨h1, ?_⟩
  rcases h2 with h2 | ⟨g, cap, cur, e1, e2, e3, e4⟩
  · exact .inl h2
  · exact .inr ⟨g, cap, cur, e1, e2, (hm.block g (Array.getElem?_eq_some_iff.1 e3).1 (.inr (by omega))).trans e3, e4⟩

/-- Rows of the caller's own: the first k of them are made. -/
def Own2 (w : World) (base g len k : Nat) (rs : List (List Int)) (V : List Value) (G : Nat → Nat) : Prop :=
  w.ownsRow base 25 1 (.slice (some ⟨g, 0, none⟩) len len) len V ∧
  (∀ j, j < k → g < G j ∧ V[j]? = some (.slice (some ⟨G j, 0, none⟩) (rs[j]?.getD []).length (rs[j]?.getD []).length) ∧
    ∃ xs, w.ownsRow base 3 1 (.slice (some ⟨G j, 0, none⟩) (rs[j]?.getD []).length (rs[j]?.getD []).length) (rs[j]?.getD []).length xs) ∧
  (∀ i j, i < j → j < k → G i < G j)
/-- .. with their ints. -/
def Full2 (w : World) (base k : Nat) (rs : List (List Int)) (G : Nat → Nat) : Prop :=
  ∀ j, j < k → w.ownsRow base 3 1 (.slice (some ⟨G j, 0, none⟩) (rs[j]?.getD []).length (rs[j]?.getD []).length) (rs[j]?.getD []).length ((rs[j]?.getD []).map (Value.int .i64))

theorem Own2.under {w w' : World} {base g len k : Nat} {rs : List (List Int)} {V : List Value} {G : Nat → Nat} (h : Own2 w base g len k rs V G) (hb : Below w.heap.size w w') : Own2 w' base g len k rs V G :=
  ⟨owns_under h.1 hb, fun j hj => ⟨(h.2.1 j hj).1, (h.2.1 j hj).2.1, (h.2.1 j hj).2.2.imp fun _ hx => owns_under hx hb⟩, h.2.2⟩
theorem Full2.under {w w' : World} {base k : Nat} {rs : List (List Int)} {G : Nat → Nat} (h : Full2 w base k rs G) (hb : Below w.heap.size w w') : Full2 w' base k rs G := fun j hj => owns_under (h j hj) hb

theorem Own2.rows {w : World} {base g len : Nat} {rs : List (List Int)} {V : List Value} {G : Nat → Nat} (h : Own2 w base g len len rs V G) (hf : Full2 w base len rs G) (hl : rs.length = len) (hm : len ≤ 1048600) (hr : ∀ j, j < len → (rs[j]?.getD []).length ≤ 1048600) : IsRows w (some ⟨g, 0, none⟩) len len rs := by
  refine ⟨hl, Nat.le_refl _, hm, fun hp => ⟨g, 0, rfl, (h.1.lt g rfl).2, fun j hj => ?_⟩⟩
  obtain ⟨h1, h2, _⟩ := h.2.1 j hj
  refine ⟨_, _, _, ?_, IsInts.of_owns (hf j hj) (hr j hj)⟩
  rw [Nat.zero_add, h.1.cellAt j (by omega), h2]

/-- A store of a new row. -/
theorem Own2.stored {w : World} {base g g2 len k : Nat} {rs : List (List Int)} {V : List Value} {G : Nat → Nat} (h : Own2 w base g len k rs V G) (hk : k < len) (hg : g < g2) (hlast : ∀ j, j < k → G j < g2)
    (xs : List Value) (hx : w.ownsRow base 3 1 (.slice (some ⟨g2, 0, none⟩) (rs[k]?.getD []).length (rs[k]?.getD []).length) (rs[k]?.getD []).length xs) :
    Own2 (w.setCell ⟨g, k, none⟩ (.slice (some ⟨g2, 0, none⟩) (rs[k]?.getD []).length (rs[k]?.getD []).length)) base g len (k + 1) rs (V.set k (.slice (some ⟨g2, 0, none⟩) (rs[k]?.getD []).length (rs[k]?.getD []).length)) (fun j => if j = k then g2 else G j) := by
  obtain ⟨h1, h2, h3⟩ := h
  have hs := h1.stored k (.slice (some ⟨g2, 0, none⟩) (rs[k]?.getD []).length (rs[k]?.getD []).length)
  have hV : V.length = len := by have := h1.1; omega
  refine ⟨hs.1, fun j hj => ?_, fun i j hij hj => ?_⟩
  · by_cases e : j = k
    · subst e
      simp only [if_true]
      refine ⟨hg, by rw [List.getElem?_set_self (by omega)], xs, hx.kept hs.2 (.inr (by simp [Value.ownBlock]; omega))⟩
    · obtain ⟨k1, k2, ys, k3⟩ := h2 j (by omega)
      simp only [if_neg e]
      exact ⟨k1, by rw [List.getElem?_set_ne (by omega)]; exact k2, ys, k3.kept hs.2 (.inr (by simp [Value.ownBlock]; omega))⟩
  · by_cases e : j = k
    · subst e
      have e2 : ¬ i = j := by omega
      simp only [if_neg e2, if_true]
      exact hlast i hij
    · have e2 : ¬ i = k := by omega
      simp only [if_neg e2, if_neg e]
      exact h3 i j hij (by omega)
theorem Full2.stored {w : World} {base g g2 k : Nat} {v : Value} {rs : List (List Int)} {G : Nat → Nat} (h : Full2 w base k rs G) (hg : g < g2) (hG : ∀ j, j < k → g < G j)
    (hx : w.ownsRow base 3 1 (.slice (some ⟨g2, 0, none⟩) (rs[k]?.getD []).length (rs[k]?.getD []).length) (rs[k]?.getD []).length ((rs[k]?.getD []).map (Value.int .i64))) :
    Full2 (w.setCell ⟨g, k, none⟩ v) base (k + 1) rs (fun j => if j = k then g2 else G j) := by
  have hs : Step g w (w.setCell ⟨g, k, none⟩ v) := (Step.refl g w).of_setCell
  intro j hj
  by_cases e : j = k
  · subst e
    simp only [if_true]
    exact hx.kept hs (.inr (by simp [Value.ownBlock]; omega))
  · simp only [if_neg e]
    have := hG j (by omega)
    exact (h j (by omega)).kept hs (.inr (by simp [Value.ownBlock]; omega))

set_option maxHeartbeats 2000000 in
/-- **toIntSS**: new rows with the same ints. -/
theorem toIntSS_any (a : Option Addr) (len cap : Nat) (rs : List (List Int)) (w : World) (h : IsRows w a len cap rs) :
    Calls Try.prog 19 #[.slice a len cap] w fun e w' => ∃ (g : Nat) (V : List Value) (G : Nat → Nat), e = .returned (.slice (some ⟨g, 0, none⟩) len len) ∧ Own2 w' w.heap.size g len len rs V G ∧ Full2 w' w.heap.size len rs G ∧ Below w.heap.size w w' := by
  obtain ⟨i0, hi, hz0, hz1, hz2⟩ := info_parts slice_info
  have H1 := Lib.hid h.1
  have hm := h.2.2.1
  have H := Lib.hid h; clear h
  go_enter Try.func19, Try.ntmps19
  go_wp2_with (at_make; refine wpList_make_full _ rfl _ _ 23 rfl w.heap.size 25 i0 (.slice none 0 0) 1 Try.underlying23 hi hz0 hz1 .i64 .i64 _ _ len rfl rfl rfl rfl (by rw [hz2]; omega) (by unfold maxLen; omega) (Nat.le_refl _) ?_; intro w1 hown hgrow)
  obtain ⟨g, hg⟩ : ∃ g, w.heap.size = g := ⟨_, rfl⟩
  rw [hg] at hown ⊢
  have hB1 : Below g w w1 := ((Below.refl g w).grown hgrow (by omega) (fun k e => by cases e))
  have hsz1 : g < w1.heap.size := (hown.lt g rfl).2
  have HBL : Hid (∀ wr, Below g w wr → IsRows wr a len cap rs) := fun wr hb => H.out.below (by rw [hg]; exact hb)
  have HG := Lib.hid hg
  have HO : Hid (∃ V G, Own2 w1 g g len 0 rs V G ∧ Full2 w1 g 0 rs G) := ⟨_, fun _ => 0, ⟨hown, fun j hj => by omega, fun i j _ hj => by omega⟩, fun j hj => by omega⟩
  clear hown hgrow hi hz0 hz1 hz2 hg
  go_wp2
  go_loopw [4] (fun i wr => ∃ k : Nat, k ≤ len ∧ i = .int .i64 k ∧ Hid (∃ V G, Own2 wr g g len k rs V G ∧ Full2 wr g k rs G) ∧ Below g w wr ∧ g < wr.heap.size) (fun i _ => len - (intOf i).toNat)
  case atStart => exact ⟨0, Nat.zero_le _, rfl, HO, hB1, hsz1⟩
  case round =>
    obtain ⟨k, hk, rfl, ho, hB, hsz⟩ := hrel
    by_cases hlt : k < len
    · obtain ⟨-, -, -, h4⟩ := HBL.out _ hB
      obtain ⟨b, off, rfl, hb, hcell⟩ := h4 (by omega)
      obtain ⟨ak, lk, ck, hck, hIk⟩ := hcell k hlt
      obtain ⟨V, G, hO, hF⟩ := ho.out
      have hln := hIk.1
      have HO := Lib.hid hO
      have HF := Lib.hid hF
      have HIk := Lib.hid hIk
      have HLN := Lib.hid hln
      clear h4 hcell hIk hO hF ho hln
      go_wp2_with fail
      refine (toIntS_any _ _ _ (rs[k]?.getD []) _ HIk.out).mono ?_
      rintro e w3 ⟨g2, rfl, ho3, hb3⟩
      have hg2 := ho3.lt g2 rfl
      have O3 := HO.out.under hb3
      have F3 := HF.out.under hb3
      have B3 := Lib.hid (hB.trans (hb3.mono (Nat.le_of_lt hsz)))
      have hlast : ∀ j, j < k → G j < g2 := fun j hj => by
        obtain ⟨_, _, xs, hx⟩ := HO.out.2.1 j hj
        have := (hx.lt (G j) rfl).2
        omega
      rw [← HLN.out] at ho3
      have ho3 : w3.ownsRow g 3 1 (.slice (some ⟨g2, 0, none⟩) (rs[k]?.getD []).length (rs[k]?.getD []).length) (rs[k]?.getD []).length ((rs[k]?.getD []).map (Value.int .i64)) := World.ownsRow.mono ho3 (Nat.le_of_lt hsz)
      have O4 := Lib.hid (O3.stored hlt (by omega) hlast _ ho3)
      have F4 := F3.stored (g := g) (v := .slice (some ⟨g2, 0, none⟩) (rs[k]?.getD []).length (rs[k]?.getD []).length) (by omega) (fun j hj => (O3.2.1 j hj).1) ho3
      have F4 := Lib.hid F4
      have hVl : V.length = len := by have := O3.1.1; omega
      have hcg : w3.cell? ⟨g, k, none⟩ = some (V[k]'(by omega)) := by
        rw [O3.1.cellAt k (by omega)]
        exact List.getElem?_eq_getElem _
      obtain ⟨v0, hv0⟩ : ∃ v0, V[k]'(by omega) = v0 := ⟨_, rfl⟩
      rw [hv0] at hcg
      have hfz := O3.1.frozenAt k
      rw [HLN.out] at O4 F4
      have hsz3 : g < w3.heap.size := Nat.lt_of_lt_of_le hsz hb3.size
      clear hv0 O3 F3 ho3 hlast hb3 HO HF hVl
      go_wp2
      go_roundw
      case rel => exact ⟨k + 1, by omega, by go_num, ⟨_, _, O4.out, F4.out⟩, B3.out.setCell (p := ⟨g, k, none⟩) (Nat.le_refl _) _, by simpa [World.setCell] using hsz3⟩
      case measure => simp [intOf]; omega
    · obtain rfl : k = len := by omega
      obtain ⟨V, G, hO, hF⟩ := ho.out
      have HO := Lib.hid hO
      have HF := Lib.hid hF
      clear hO hF ho
      go_wp2
      go_ret
      exact ⟨g, V, G, rfl, by rw [HG.out]; exact HO.out, by rw [HG.out]; exact HF.out, by rw [HG.out]; exact hB⟩

/-- A mark in one row leaves the rows the caller's own. -/
theorem Own2.marked {w w' : World} {base g len : Nat} {rs : List (List Int)} {V : List Value} {G : Nat → Nat} (h : Own2 w base g len len rs V G) (i : Nat) (hi : i < len) (hs : Step (G i) w w') (xs : List Value)
    (hx : w'.ownsRow base 3 1 (.slice (some ⟨G i, 0, none⟩) (rs[i]?.getD []).length (rs[i]?.getD []).length) (rs[i]?.getD []).length xs) : Own2 w' base g len len rs V G := by
  obtain ⟨h1, h2, h3⟩ := h
  have hgi := (h2 i hi).1
  refine ⟨h1.kept hs (.inr (by simp [Value.ownBlock]; omega)), fun j hj => ?_, h3⟩
  obtain ⟨k1, k2, ys, k3⟩ := h2 j hj
  refine ⟨k1, k2, ?_⟩
  by_cases e : j = i
  · subst e; exact ⟨xs, hx⟩
  · have hne : G j ≠ G i := by
      rcases Nat.lt_or_gt_of_ne e with h4 | h4
      · have := h3 j i h4 hi; omega
      · have := h3 i j h4 hj; omega
    exact ⟨ys, k3.kept hs (.inr (by simp [Value.ownBlock]; exact hne))⟩

set_option maxHeartbeats 2000000 in
/-- **markIntSS**: it writes into these rows alone. -/
theorem markIntSS_any (base B2 g len : Nat) (rs : List (List Int)) (V : List Value) (G : Nat → Nat) (w : World) (h : Own2 w base g len len rs V G) (hB2 : ∀ j, j < len → G j < B2) (hm : len ≤ 1048600) (hr : ∀ j, j < len → (rs[j]?.getD []).length ≤ 1048600) :
    Calls Try.prog 21 #[.slice (some ⟨g, 0, none⟩) len len, .int .i64 1] w fun e w' => (∃ q : Int, e = .returned (.int .i64 q) ∧ 0 ≤ q) ∧ Mid base B2 w w' := by
  have H := Lib.hid h; clear h
  have HB := Lib.hid hB2; clear hB2
  have HR := Lib.hid hr; clear hr
  go_enter Try.func21, Try.ntmps21
  go_wp2
  go_loopw [1, 5] (fun q i wr => ∃ (k : Nat) (z : Int), k ≤ len ∧ i = .int .i64 k ∧ q = .int .i64 z ∧ 0 ≤ z ∧ z ≤ 1 + 1048600 * (k : Int) ∧ Hid (Own2 wr base g len len rs V G) ∧ Mid base B2 w wr) (fun _ i _ => len - (intOf i).toNat)
  case atStart => exact ⟨0, 1, Nat.zero_le _, rfl, rfl, by omega, by omega, H, Mid.refl _ _ _⟩
  case round =>
    obtain ⟨k, z, hk, rfl, rfl, hz0, hz1, ho, hM⟩ := hrel
    by_cases hlt : k < len
    · obtain ⟨k1, k2, xs, k3⟩ := ho.out.2.1 k hlt
      have hbase := (k3.lt (G k) rfl).1
      have hck : wr.cell? ⟨g, k, none⟩ = some (.slice (some ⟨G k, 0, none⟩) (rs[k]?.getD []).length (rs[k]?.getD []).length) := by
        rw [ho.out.1.cellAt k (by omega)]; exact k2
      have hl := HR.out k hlt
      obtain ⟨l, hll⟩ : ∃ l, (rs[k]?.getD []).length = l := ⟨_, rfl⟩
      obtain ⟨gk, hgk⟩ : ∃ gk, G k = gk := ⟨_, rfl⟩
      rw [hll, hgk] at hck k3
      rw [hll] at hl
      rw [hgk] at hbase
      have HLL := Lib.hid hll
      have HGK := Lib.hid hgk
      have K3 := Lib.hid k3
      clear k1 k2 k3 hll hgk
      go_wp2_with fail
      refine (markInt_step base gk l l xs z _ K3.out hl hz0 (by omega)).mono ?_
      rintro e w3 ⟨rfl, ho3, hs3⟩
      have O3 : Hid (Own2 w3 base g len len rs V G) := ho.out.marked k hlt (by rw [HGK.out]; exact hs3) _ (by rw [HGK.out, HLL.out]; exact ho3)
      have M3 := hM.step hs3 hbase (by rw [← HGK.out]; exact HB.out k hlt)
      clear ho hM ho3 hs3
      go_wp2
      go_roundw
      case rel => exact ⟨k + 1, z + l, by omega, by go_num, rfl, by omega, by omega, O3, M3⟩
      case measure => simp [intOf]; omega
    · obtain rfl : k = len := by omega
      go_wp2
      go_ret
      exact ⟨⟨z, rfl, hz0⟩, hM⟩

end Go.Proofs.Ytpgnneaaemfkoaa
